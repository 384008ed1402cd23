/-
  The law TreeWraps returns true. Conditions: at most 2^20 pieces each.
-/
import Derived.Test.YtnaaejemanmgnaaTreeQ
namespace Go.Proofs.Ytnaaejemanmgnaa
open Go.RowKit LX TR

theorem wrap_spells {l : List Tk} {t1 : List Tr} (h : parse l = .ok t1) : Spells (⟨123, ⟨#[123]⟩, -5⟩ :: (l ++ [⟨125, ⟨#[125]⟩, 7⟩])) [.mk ⟨123, ⟨#[123]⟩, -5⟩ none 0 t1 7] :=
  Spells.node (t := ⟨123, ⟨#[123]⟩, -5⟩) (c := ⟨125, ⟨#[125]⟩, 7⟩) (by decide) (by decide) (parse_spells h).1 .nil
theorem wrap_dep (t1 : List Tr) : dep [.mk ⟨123, ⟨#[123]⟩, -5⟩ none 0 t1 7] = 1 + dep t1 := by
  simp [dep, cl]
theorem wrap_deep {l : List Tk} {t1 : List Tr} (h : parse l = .ok t1) (hd : 24 ≤ dep t1) : ∃ p, parse (⟨123, ⟨#[123]⟩, -5⟩ :: (l ++ [⟨125, ⟨#[125]⟩, 7⟩])) = .error p := by
  obtain ⟨p, hp⟩ := spells_deep (wrap_spells h) r0 [] [] (by rw [wrap_dep]; simp only [List.length_nil]; omega) (by decide)
  rw [List.append_nil] at hp
  exact ⟨p, hp⟩
theorem wrap_ok {l : List Tk} {t1 : List Tr} (h : parse l = .ok t1) (hd : dep t1 < 24) : parse (⟨123, ⟨#[123]⟩, -5⟩ :: (l ++ [⟨125, ⟨#[125]⟩, 7⟩])) = .ok [.mk ⟨123, ⟨#[123]⟩, -5⟩ none 0 t1 7] :=
  spells_parse (wrap_spells h) (by rw [wrap_dep]; omega)
theorem both_ok {l m : List Tk} {t1 t2 : List Tr} (h : parse l = .ok t1) (h2 : parse m = .ok t2) : parse (l ++ m) = .ok (t1 ++ t2) :=
  spells_parse ((parse_spells h).1.append (parse_spells h2).1) (by rw [dep_append]; have := (parse_spells h).2; have := (parse_spells h2).2; omega)

theorem wpList_want {P : Program} {ops : Array Oper} {Q : Exit → Act → World → Prop} {a : Act} {w : World} {rest : List Oper} {o : Oper}
    (hw : Region.wanted o (yielded ops a.tmps) = true) (h : ∀ K : Act → World → Prop, (∀ a w, wpList P ops Q rest a w → K a w) → o.wp P a w K Q) : wpList P ops Q (o :: rest) a w := by
  simp only [wpList, hw, if_true]
  exact .inl (h _ fun _ _ h => h)
theorem er_node1 {us : List Tr} {o : Tk} {t1 : List Tr} {q : Int} (h : er us = [.mk o none 0 t1 q]) : ∃ A c ks, us = [.mk o A c ks q] ∧ er ks = t1 := by
  match us, h with
  | [], h => simp [er] at h
  | .mk t A c ks e :: r, h =>
    simp only [er, List.cons.injEq, Tr.mk.injEq] at h
    obtain ⟨⟨rfl, _, _, h3, rfl⟩, h4⟩ := h
    have hr : r = [] := by
      have := er_length r
      rw [h4] at this
      exact List.length_eq_zero_iff.1 this.symm
    subst hr
    exact ⟨A, c, ks, rfl, h3⟩
/-- What is known of memory behind the third Read. -/
def WK (w : World) (g9 g12 : Nat) (X1 X2 X3 : Option Addr) (us1 us2 us : List Tr) (W : World) : Prop :=
  RowAt W g12 27 #[.int .i64 0, .int .i64 0] ∧ RowAt W g9 36 #[.int .u8 123, .string ⟨#[123]⟩, .int .i64 (-5)] ∧ Trs W W.heap.size X1 us1 ∧ Trs W W.heap.size X2 us2 ∧ Trs W W.heap.size X3 us ∧ Below w.heap.size w W
theorem WK.keep {w : World} {g9 g12 : Nat} {X1 X2 X3 : Option Addr} {us1 us2 us : List Tr} {W W' : World} (h : WK w g9 g12 X1 X2 X3 us1 us2 us W) (hb : Below W.heap.size W W') : WK w g9 g12 X1 X2 X3 us1 us2 us W' :=
  ⟨h.1.below hb h.1.lt, h.2.1.below hb h.2.1.lt, (h.2.2.1.below hb).mono hb.size, (h.2.2.2.1.below hb).mono hb.size, (h.2.2.2.2.1.below hb).mono hb.size, h.2.2.2.2.2.trans (hb.mono h.2.2.2.2.2.size)⟩

theorem WK.root {w : World} {g9 g12 b o c4 : Nat} {A4 X1 X2 : Option Addr} {us1 us2 ks : List Tr} {W : World} (h : WK w g9 g12 X1 X2 (some ⟨b, o, none⟩) us1 us2 [.mk ⟨123, ⟨#[123]⟩, -5⟩ A4 c4 ks 7] W) :
    W.cell? ⟨b, o, none⟩ = some (.int .u8 123) ∧ W.cell? ⟨b, o + 1, none⟩ = some (.string ⟨#[123]⟩) ∧ W.cell? ⟨b, o + 2, none⟩ = some (.int .i64 (-5)) ∧ W.cell? ⟨b, o + 3, none⟩ = some (.slice A4 ks.length c4) ∧ W.cell? ⟨b, o + 4, none⟩ = some (.int .i64 7) := by
  obtain ⟨b', o', e, _, hc⟩ := h.2.2.2.2.1.at (k := 0) (by simp)
  injection e with e
  injection e with e1 e2 _
  subst e1 e2
  have h0 := hc 0 (by simp)
  simp only [Nat.zero_mul, Nat.add_zero] at h0
  exact h0
set_option maxRecDepth 100000 in
set_option maxHeartbeats 16000000 in
theorem wraps_both (A B : Option Addr) (c d : Nat) (l m : List Tk) (w : World) (hA : Toks w A l) (hB : Toks w B m) (h1 : l.length ≤ 140) (h2 : m.length ≤ 140) (h3 : bigB l = false) (h4 : bigB m = false)
    (t1 t2 : List Tr) (h5 : parse l = .ok t1) (h6 : parse m = .ok t2) :
    Calls Try.prog 6 #[.slice A l.length c, .slice B m.length d] w fun e w' => e = .returned (.bool true) ∧ Below w.heap.size w w' := by
  have HG1 := Lib.hid (fun W (h : Toks W A l) => big_any A c l W h)
  have HG2 := Lib.hid (fun W (h : Toks W B m) => big_any B d m W h)
  rw [h3] at HG1
  rw [h4] at HG2
  have HK1 := Lib.hid (fun W (h : Toks W A l) => (treeRead_any A c l W (by omega) h).mono fun e w' h => rt_ok h5 h)
  have HK2 := Lib.hid (fun W (h : Toks W B m) => (treeRead_any B d m W (by omega) h).mono fun e w' h => rt_ok h6 h)
  have HRD : Hid (∀ X d W, Toks W X (⟨123, ⟨#[123]⟩, -5⟩ :: (l ++ [⟨125, ⟨#[125]⟩, 7⟩])) → Calls Try.prog 9 #[.slice X (1 + l.length + 1) d] W fun e w' => Below W.heap.size W w' ∧ ∃ X n d c p, e = .returned (.tuple #[.slice X n d, .agg #[.int .i64 c, .int .i64 p]]) ∧ RtP (parse (⟨123, ⟨#[123]⟩, -5⟩ :: (l ++ [⟨125, ⟨#[125]⟩, 7⟩]))) X n d c p w') := fun X d W h => by
    have e : 1 + l.length + 1 = (⟨123, ⟨#[123]⟩, -5⟩ :: (l ++ [⟨125, ⟨#[125]⟩, 7⟩]) : List Tk).length := by simp; omega
    rw [e]
    exact (treeRead_any X d _ W (by simp; omega) h).mono fun e w' h => rt_gen h
  have HRB : Hid (∀ X d W, Toks W X (l ++ m) → Calls Try.prog 9 #[.slice X (l.length + m.length) d] W fun e w' => Below W.heap.size W w' ∧ ∃ X d us, e = .returned (.tuple #[.slice X us.length d, .agg #[.int .i64 0, .int .i64 0]]) ∧ er us = t1 ++ t2 ∧ us.length ≤ d ∧ Trs w' w'.heap.size X us) := fun X d W h => by
    have e : l.length + m.length = (l ++ m).length := by simp
    rw [e]
    exact (treeRead_any X d _ W (by simp; omega) h).mono fun e w' h => rt_ok (both_ok h5 h6) h
  have hR1 : (24 ≤ dep t1 ∧ ∃ p, parse (⟨123, ⟨#[123]⟩, -5⟩ :: (l ++ [⟨125, ⟨#[125]⟩, 7⟩])) = .error p) ∨ (dep t1 < 24 ∧ parse (⟨123, ⟨#[123]⟩, -5⟩ :: (l ++ [⟨125, ⟨#[125]⟩, 7⟩])) = .ok [.mk ⟨123, ⟨#[123]⟩, -5⟩ none 0 t1 7]) :=
    (Nat.lt_or_ge (dep t1) 24).elim (fun h => .inr ⟨h, wrap_ok h5 h⟩) (fun h => .inl ⟨h, wrap_deep h5 h⟩)
  have HHR1 := Lib.hid hR1
  have hs1 := parse_spells h5; have hs2 := parse_spells h6
  have HN1 : Hid (∀ us, er us = t1 → (nodes us).length ≤ 140) := fun us hu => by
    have e1 := spells_length hs1.1; rw [← hu, nodes_er] at e1; omega
  have HN2 : Hid (∀ us, er us = t2 → (nodes us).length ≤ 140) := fun us hu => by
    have e1 := spells_length hs2.1; rw [← hu, nodes_er] at e1; omega
  have HLL := Lib.hid (⟨h1, h2⟩ : l.length ≤ 140 ∧ m.length ≤ 140)
  have HA := Lib.hid hA; have HM := Lib.hid hB
  have hd1 : decide (140 < l.length) = false := decide_eq_false (by omega)
  have hd1i : decide ((140 : Int) < (l.length : Int)) = false := decide_eq_false (by omega)
  have hd1n : (l.length : Int) ≤ 140 := by omega
  have hd2 : decide (140 < m.length) = false := decide_eq_false (by omega)
  have hd2i : decide ((140 : Int) < (m.length : Int)) = false := decide_eq_false (by omega)
  have hd2n : (m.length : Int) ≤ 140 := by omega
  clear h1 h2 h3 h4 h5 h6 hs1 hs2 hA hB hR1
  generalize parse (⟨123, ⟨#[123]⟩, -5⟩ :: (l ++ [⟨125, ⟨#[125]⟩, 7⟩])) = R1 at *
  generalize hnl : l.length = nl at *
  have HNL := Lib.hid hnl; clear hnl
  generalize hnm : m.length = nm at *
  have HNM := Lib.hid hnm; clear hnm
  go_enter Try.func6, Try.ntmps6
  go_wp2_with fail
  refine (HK1.out _ HA.out).mono ?_
  rintro e w1 ⟨hb1, X1, d1, us1, rfl, hus1, hcap1, htr1⟩
  have HF1 := Lib.hid (RowAt.new w1 27 #[.int .i64 0, .int .i64 0])
  have HB1 := Lib.hid (hb1.alloc hb1.size (.cells #[.int .i64 0, .int .i64 0] 27))
  have hba : Below w1.heap.size w1 (w1.alloc (.cells #[.int .i64 0, .int .i64 0] 27)) := (Below.refl _ _).alloc (Nat.le_refl _) _
  have HT1 := Lib.hid (Trs.mono (htr1.below hba) hba.size)
  have HU1 := Lib.hid hus1
  have HC1 := Lib.hid hcap1
  clear hba hus1 hcap1 htr1
  clear hb1
  go_wp2_with fail
  refine (HK2.out _ (HM.out.below HB1.out)).mono ?_
  rintro e w2 ⟨hb2, X2, d2, us2, rfl, hus2, hcap2, htr2⟩
  have HF2 := Lib.hid ((HF1.out.below hb2 HF1.out.lt).alloc (.cells #[.int .i64 0, .int .i64 0] 27))
  have HGR2 := Lib.hid (RowAt.new w2 27 #[.int .i64 0, .int .i64 0])
  have HB2 := Lib.hid ((HB1.out.trans (hb2.mono HB1.out.size)).alloc (by have := HB1.out.size; have := hb2.size; omega) (.cells #[.int .i64 0, .int .i64 0] 27))
  have hba : Below w2.heap.size w2 (w2.alloc (.cells #[.int .i64 0, .int .i64 0] 27)) := (Below.refl _ _).alloc (Nat.le_refl _) _
  have HT12 := Lib.hid (Trs.mono (((HT1.out.below hb2).mono hb2.size).below hba) hba.size)
  have HT22 := Lib.hid (Trs.mono (htr2.below hba) hba.size)
  have HU2 := Lib.hid hus2
  have HC2 := Lib.hid hcap2
  clear hus2 hcap2 htr2
  clear hba
  clear hb2
  have a0 := (HF2.out.cell 0).trans rfl
  have a1 := (HF2.out.cell 1).trans rfl
  have b0 := (HGR2.out.cell 0).trans rfl
  have b1 := (HGR2.out.cell 1).trans rfl
  go_wp2_with fail
  refine (HG1.out _ (HA.out.below HB2.out)).mono ?_
  rintro e w' ⟨rfl, rfl⟩
  go_wp2_with fail
  refine (HG2.out _ (HM.out.below HB2.out)).mono ?_
  rintro e w' ⟨rfl, rfl⟩
  have HBV := Lib.hid ((HB2.out.alloc HB2.out.size (.cells #[.int .u8 123, .string ⟨#[123]⟩, .int .i64 (-5)] 36)).alloc (by simp; have := HB2.out.size; simp at this; omega) (.cells #[.int .u8 125, .string ⟨#[125]⟩, .int .i64 7] 36))
  have HOV := Lib.hid ((RowAt.new (w2.alloc (.cells #[.int .i64 0, .int .i64 0] 27)) 36 #[.int .u8 123, .string ⟨#[123]⟩, .int .i64 (-5)]).alloc (.cells #[.int .u8 125, .string ⟨#[125]⟩, .int .i64 7] 36))
  have HEV := Lib.hid (RowAt.new ((w2.alloc (.cells #[.int .i64 0, .int .i64 0] 27)).alloc (.cells #[.int .u8 123, .string ⟨#[123]⟩, .int .i64 (-5)] 36)) 36 #[.int .u8 125, .string ⟨#[125]⟩, .int .i64 7])
  have hbv : Below (w2.alloc (.cells #[.int .i64 0, .int .i64 0] 27)).heap.size (w2.alloc (.cells #[.int .i64 0, .int .i64 0] 27)) (((w2.alloc (.cells #[.int .i64 0, .int .i64 0] 27)).alloc (.cells #[.int .u8 123, .string ⟨#[123]⟩, .int .i64 (-5)] 36)).alloc (.cells #[.int .u8 125, .string ⟨#[125]⟩, .int .i64 7] 36)) := ((Below.refl _ _).alloc (Nat.le_refl _) _).alloc (by simp) _
  have HT1V := Lib.hid ((HT12.out.below hbv).mono hbv.size)
  have HT2V := Lib.hid ((HT22.out.below hbv).mono hbv.size)
  clear hbv HF1 HF2 HGR2 HB1 HB2 HT1 HT12 HT22 HG1 HG2 HK1 HK2
  go_upto_region 6 with fail
  clear a0 a1 b0 b1 hd1 hd1i hd2 hd2i
  simp only [World.size_alloc] at HOV HEV
  have HL0 : Hid (∀ W, Below w.heap.size w W → Sl W W.heap.size A (tkcells l)) := fun W h => HA.out.below h
  generalize HGV : ((w2.alloc (.cells #[.int .i64 0, .int .i64 0] 27)).alloc (.cells #[.int .u8 123, .string ⟨#[123]⟩, .int .i64 (-5)] 36)).alloc (.cells #[.int .u8 125, .string ⟨#[125]⟩, .int .i64 7] 36) = V at *
  have HL : Hid (∀ W, Below V.heap.size V W → Sl W W.heap.size A (tkcells l)) := fun W h => HL0.out W (HBV.out.trans (h.mono HBV.out.size))
  have C0 : ∀ W, Below V.heap.size V W → W.cell? ⟨w2.heap.size + 1, 0, none⟩ = some (.int .u8 123) := fun W h => ((HOV.out.below h HOV.out.lt).cell 0).trans rfl
  have C1 : ∀ W, Below V.heap.size V W → W.cell? ⟨w2.heap.size + 1, 1, none⟩ = some (.string ⟨#[123]⟩) := fun W h => ((HOV.out.below h HOV.out.lt).cell 1).trans rfl
  have C2 : ∀ W, Below V.heap.size V W → W.cell? ⟨w2.heap.size + 1, 2, none⟩ = some (.int .i64 (-5)) := fun W h => ((HOV.out.below h HOV.out.lt).cell 2).trans rfl
  have C3 : ∀ W, Below V.heap.size V W → W.cell? ⟨w2.heap.size + 1 + 1, 0, none⟩ = some (.int .u8 125) := fun W h => ((HEV.out.below h HEV.out.lt).cell 0).trans rfl
  have C4 : ∀ W, Below V.heap.size V W → W.cell? ⟨w2.heap.size + 1 + 1, 1, none⟩ = some (.string ⟨#[125]⟩) := fun W h => ((HEV.out.below h HEV.out.lt).cell 1).trans rfl
  have C5 : ∀ W, Below V.heap.size V W → W.cell? ⟨w2.heap.size + 1 + 1, 2, none⟩ = some (.int .i64 7) := fun W h => ((HEV.out.below h HEV.out.lt).cell 2).trans rfl
  clear HGV HEV
  generalize w2.heap.size + 1 + 1 = g10 at *
  generalize w2.heap.size + 1 = g9 at *
  go_cut [11, 12] from 54 to 64 (fun sv pv wx => ∃ X n d c p g12, sv = .slice X n d ∧ pv = .pointer (some ⟨g12, 0, none⟩) ∧ RowAt wx g12 27 #[.int .i64 c, .int .i64 p] ∧ RtP R1 X n d c p wx ∧ Below V.heap.size V wx)
  case first =>
    clear HT1V HT2V HN1 HN2 HHR1 HRB HU1 HU2 HC1 HC2 HM HNM
    have HS : Hid (Below V.heap.size V V.drew) := Lib.hid (Below.refl _ _).drew
    refine wp_region_ou (fun w' => Below V.heap.size V w') (.take 0 (.take 2 (.take 4 (.three 1 (.three 3 (.two 5 (.two 6 (.two 7 (.take 8 (.take 9 (.take 10 (.solo 11 (.take 12 (.solo 13 (.nil))))))) 11 (.solo 7 (.take 8 (.take 9 (.take 10 (.take 12 (.solo 13 (.nil)))))))) 11 (.solo 6 (.solo 7 (.take 8 (.take 9 (.take 10 (.take 12 (.solo 13 (.nil))))))))) 11 (.solo 5 (.solo 6 (.solo 7 (.take 8 (.take 9 (.take 10 (.take 12 (.solo 13 (.nil)))))))))) 5 (.two 3 (.two 6 (.two 7 (.take 8 (.take 9 (.take 10 (.solo 11 (.take 12 (.solo 13 (.nil))))))) 11 (.solo 7 (.take 8 (.take 9 (.take 10 (.take 12 (.solo 13 (.nil)))))))) 11 (.solo 6 (.solo 7 (.take 8 (.take 9 (.take 10 (.take 12 (.solo 13 (.nil))))))))) 11 (.solo 3 (.solo 6 (.solo 7 (.take 8 (.take 9 (.take 10 (.take 12 (.solo 13 (.nil)))))))))) 11 (.two 3 (.solo 5 (.solo 6 (.solo 7 (.take 8 (.take 9 (.take 10 (.take 12 (.solo 13 (.nil))))))))) 5 (.solo 3 (.solo 6 (.solo 7 (.take 8 (.take 9 (.take 10 (.take 12 (.solo 13 (.nil))))))))))) 5 (.two 1 (.two 3 (.two 6 (.two 7 (.take 8 (.take 9 (.take 10 (.solo 11 (.take 12 (.solo 13 (.nil))))))) 11 (.solo 7 (.take 8 (.take 9 (.take 10 (.take 12 (.solo 13 (.nil)))))))) 11 (.solo 6 (.solo 7 (.take 8 (.take 9 (.take 10 (.take 12 (.solo 13 (.nil))))))))) 11 (.solo 3 (.solo 6 (.solo 7 (.take 8 (.take 9 (.take 10 (.take 12 (.solo 13 (.nil)))))))))) 11 (.solo 1 (.solo 3 (.solo 6 (.solo 7 (.take 8 (.take 9 (.take 10 (.take 12 (.solo 13 (.nil))))))))))) 11 (.two 1 (.two 3 (.solo 5 (.solo 6 (.solo 7 (.take 8 (.take 9 (.take 10 (.take 12 (.solo 13 (.nil))))))))) 5 (.solo 3 (.solo 6 (.solo 7 (.take 8 (.take 9 (.take 10 (.take 12 (.solo 13 (.nil)))))))))) 5 (.solo 1 (.solo 3 (.solo 6 (.solo 7 (.take 8 (.take 9 (.take 10 (.take 12 (.solo 13 (.nil))))))))))))))) (by kernel_rfl) (by kernel_rfl) rfl (by kernel_rfl) HS.out ?_
    iterate 3
      (refine wpOU_step (o := ?_) ?_ ?_; rotate_left 1; (simp only [List.getElem?_toArray, List.getElem?_cons_succ, List.getElem?_cons_zero]; with_reducible rfl))
      (first
          | (refine wpOU_skip (by rfl) ?_)
          | (refine wpOU_take (v := ?_) (by rfl) ?_ ?_; rotate_left 1; (intro wx hSx; have hc_0 := C0 wx hSx; have hc_1 := C1 wx hSx; have hc_2 := C2 wx hSx; have hc_3 := C3 wx hSx; have hc_4 := C4 wx hSx; have hc_5 := C5 wx hSx; go_simp; try with_reducible rfl)))
      (try simp only [Act.put, List.setIfInBounds_toArray, List.set_cons_zero, List.set_cons_succ])
    clear C0 C1 C2 C3 C4 C5
    generalize V.drew = v0 at *
    refine wpOU_three ?_ ?_ ?_
    · (refine wpOU_solo (o := ?_) ?_ ?_; rotate_left 1; (simp only [List.getElem?_toArray, List.getElem?_cons_succ, List.getElem?_cons_zero]; with_reducible rfl))
      intro K hK
      go_simp
      have HS2 : Hid (Below V.heap.size V (v0.alloc (.cells #[.int .u8 123, .string ⟨#[123]⟩, .int .i64 (-5)] 36))) := HS.out.alloc HS.out.size _
      have HR2 : Hid ((v0.alloc (.cells #[.int .u8 123, .string ⟨#[123]⟩, .int .i64 (-5)] 36)).ownsRow V.heap.size 36 3 (.slice (some ⟨v0.heap.size, 0, none⟩) 1 1) 1 (tkcells [⟨123, ⟨#[123]⟩, -5⟩])) := ⟨rfl, .inr ⟨v0.heap.size, 1, _, rfl, HS.out.size, heap_alloc_new v0 _, Nat.le_refl _, by decide, rfl, rfl⟩⟩
      clear HS
      refine hK.out _ _ HS2.out ?_
      clear hK K
      (try simp only [Act.put, List.setIfInBounds_toArray, List.set_cons_zero, List.set_cons_succ])
      generalize (v0.alloc (.cells #[.int .u8 123, .string ⟨#[123]⟩, .int .i64 (-5)] 36)) = v1 at *
      generalize v0.heap.size = g1 at *
      have HS := HS2; clear HS2
      have HR := HR2; clear HR2
      refine wpOU_three ?_ ?_ ?_
      · (refine wpOU_solo (o := ?_) ?_ ?_; rotate_left 1; (simp only [List.getElem?_toArray, List.getElem?_cons_succ, List.getElem?_cons_zero]; with_reducible rfl))
        intro K hK
        rw [if_pos (by rfl)]
        refine wp_cat _ _ 22 rfl 36 (.agg #[.int .u8 0, .string ⟨#[]⟩, .int .i64 0]) 3 32 Try.underlying22 infoTok rfl (by decide) (by decide) V.heap.size (some ⟨g1, 0, none⟩) 1 1 (tkcells [⟨123, ⟨#[123]⟩, -5⟩]) rfl HR.out _ A nl c (tkcells l) rfl (by rw [tkcells_length, HNL.out]) (by omega) (HL.out _ HS.out) (tk_one _) (by decide) HS.out.size ?_
        intro X3 d3 v2 hown3 hb3 hg3
        have HS2 : Hid (Below V.heap.size V v2) := HS.out.trans hb3
        have HR2 : Hid (v2.ownsRow V.heap.size 36 3 (.slice X3 (1 + nl) d3) (1 + nl) (tkcells (⟨123, ⟨#[123]⟩, -5⟩ :: l))) := by
          have e : tkcells (⟨123, ⟨#[123]⟩, -5⟩ :: l) = tkcells [⟨123, ⟨#[123]⟩, -5⟩] ++ tkcells l := by rw [← tkcells_append]; rfl
          rw [e]; exact hown3
        clear HS HR hown3 hb3 hg3
        refine hK.out _ _ HS2.out ?_
        clear hK K
        (try simp only [Act.put, List.setIfInBounds_toArray, List.set_cons_zero, List.set_cons_succ])
        have HS := HS2; clear HS2
        have HR := HR2; clear HR2
        refine wpOU_two ?_ ?_
        · (refine wpOU_solo (o := ?_) ?_ ?_; rotate_left 1; (simp only [List.getElem?_toArray, List.getElem?_cons_succ, List.getElem?_cons_zero]; with_reducible rfl))
          intro K hK
          go_simp
          have HS2 : Hid (Below V.heap.size V (v2.alloc (.cells #[.int .u8 125, .string ⟨#[125]⟩, .int .i64 7] 36))) := HS.out.alloc HS.out.size _
          have HR2 := Lib.hid (HR.out.alloc (.cells #[.int .u8 125, .string ⟨#[125]⟩, .int .i64 7] 36))
          have HE2 : Hid (RowAt (v2.alloc (.cells #[.int .u8 125, .string ⟨#[125]⟩, .int .i64 7] 36)) v2.heap.size 36 #[.int .u8 125, .string ⟨#[125]⟩, .int .i64 7]) := RowAt.new _ _ _
          clear HS HR
          refine hK.out _ _ HS2.out ?_
          clear hK K
          (try simp only [Act.put, List.setIfInBounds_toArray, List.set_cons_zero, List.set_cons_succ])
          generalize (v2.alloc (.cells #[.int .u8 125, .string ⟨#[125]⟩, .int .i64 7] 36)) = v3 at *
          generalize v2.heap.size = g5 at *
          have HS := HS2; clear HS2
          have HR := HR2; clear HR2
          have HE := HE2; clear HE2
          refine wpOU_two ?_ ?_
          · (refine wpOU_solo (o := ?_) ?_ ?_; rotate_left 1; (simp only [List.getElem?_toArray, List.getElem?_cons_succ, List.getElem?_cons_zero]; with_reducible rfl))
            intro K hK
            rw [if_pos (by rfl)]
            refine wp_cat _ _ 22 rfl 36 (.agg #[.int .u8 0, .string ⟨#[]⟩, .int .i64 0]) 3 32 Try.underlying22 infoTok rfl (by decide) (by decide) V.heap.size X3 (1 + nl) d3 (tkcells (⟨123, ⟨#[123]⟩, -5⟩ :: l)) rfl HR.out (v3.heap.size) (some ⟨g5, 0, none⟩) 1 1 [.int .u8 125, .string ⟨#[125]⟩, .int .i64 7] rfl rfl (by decide) (fun _ => ⟨g5, 0, rfl, HE.out.lt, fun j u hu => by rw [Nat.zero_add]; exact (HE.out.cell j).trans (by simpa using hu)⟩) (by simp [Value.oneCell']) (by omega) HS.out.size ?_
            intro X6 d6 v4 hown6 hb6 hg6
            have HS2 : Hid (Below V.heap.size V v4) := HS.out.trans hb6
            have HR2 : Hid (v4.ownsRow V.heap.size 36 3 (.slice X6 (1 + nl + 1) d6) (1 + nl + 1) (tkcells (⟨123, ⟨#[123]⟩, -5⟩ :: (l ++ [⟨125, ⟨#[125]⟩, 7⟩])))) := by
              have e : tkcells (⟨123, ⟨#[123]⟩, -5⟩ :: (l ++ [⟨125, ⟨#[125]⟩, 7⟩])) = tkcells (⟨123, ⟨#[123]⟩, -5⟩ :: l) ++ tkcells [⟨125, ⟨#[125]⟩, 7⟩] := by rw [← tkcells_append]; rfl
              rw [e]; exact hown6
            clear HS HR HE hown6 hb6 hg6
            refine hK.out _ _ HS2.out ?_
            clear hK K
            (try simp only [Act.put, List.setIfInBounds_toArray, List.set_cons_zero, List.set_cons_succ])
            have HS := HS2; clear HS2
            have HR := HR2; clear HR2
            refine wpOU_two ?_ ?_
            · (refine wpOU_solo (o := ?_) ?_ ?_; rotate_left 1; (simp only [List.getElem?_toArray, List.getElem?_cons_succ, List.getElem?_cons_zero]; with_reducible rfl))
              intro K hK
              go_simp
              go_at_call 9
              refine (HRD.out X6 d6 v4 (Sl.of_own HR.out)).mono ?_
              rintro e v5 ⟨hb7, X7, n7, d7, c7, p7, rfl, hq7⟩
              have HS2 : Hid (Below V.heap.size V v5) := HS.out.trans (hb7.mono HS.out.size)
              have HQ2 := Lib.hid hq7
              clear HS HR hb7 hq7
              refine hK.out _ _ HS2.out ?_
              clear hK K
              (try simp only [Act.put, List.setIfInBounds_toArray, List.set_cons_zero, List.set_cons_succ])
              have HS := HS2; clear HS2
              have HQ := HQ2; clear HQ2
              iterate 3
                (refine wpOU_step (o := ?_) ?_ ?_; rotate_left 1; (simp only [List.getElem?_toArray, List.getElem?_cons_succ, List.getElem?_cons_zero]; with_reducible rfl))
                (first
                    | (refine wpOU_skip (by rfl) ?_)
                    | (refine wpOU_take (v := ?_) (by rfl) ?_ ?_; rotate_left 1; (intro wx hSx; go_simp; try with_reducible rfl)))
                (try simp only [Act.put, List.setIfInBounds_toArray, List.set_cons_zero, List.set_cons_succ])
              (refine wpOU_solo (o := ?_) ?_ ?_; rotate_left 1; (simp only [List.getElem?_toArray, List.getElem?_cons_succ, List.getElem?_cons_zero]; with_reducible rfl))
              intro K hK
              go_simp
              have HS2 : Hid (Below V.heap.size V (v5.alloc (.cells #[.int .i64 0, .int .i64 0] 27))) := HS.out.alloc HS.out.size _
              have HQ2 := Lib.hid (HQ.out.below ((Below.refl v5.heap.size v5).alloc (Nat.le_refl _) (.cells #[.int .i64 0, .int .i64 0] 27)))
              have HF2 : Hid (RowAt (v5.alloc (.cells #[.int .i64 0, .int .i64 0] 27)) v5.heap.size 27 #[.int .i64 0, .int .i64 0]) := RowAt.new _ _ _
              have HG11 : Hid (V.heap.size ≤ v5.heap.size) := HS.out.size
              clear HS HQ
              refine hK.out _ _ HS2.out ?_
              clear hK K
              (try simp only [Act.put, List.setIfInBounds_toArray, List.set_cons_zero, List.set_cons_succ])
              generalize (v5.alloc (.cells #[.int .i64 0, .int .i64 0] 27)) = v6 at *
              generalize v5.heap.size = g11 at *
              have HS := HS2; clear HS2
              have HF := HF2; clear HF2
              have HQ := HQ2; clear HQ2
              iterate 1
                (refine wpOU_step (o := ?_) ?_ ?_; rotate_left 1; (simp only [List.getElem?_toArray, List.getElem?_cons_succ, List.getElem?_cons_zero]; with_reducible rfl))
                (first
                    | (refine wpOU_skip (by rfl) ?_)
                    | (refine wpOU_take (v := ?_) (by rfl) ?_ ?_; rotate_left 1; (intro wx hSx; go_simp; try with_reducible rfl)))
                (try simp only [Act.put, List.setIfInBounds_toArray, List.set_cons_zero, List.set_cons_succ])
              (refine wpOU_solo (o := ?_) ?_ ?_; rotate_left 1; (simp only [List.getElem?_toArray, List.getElem?_cons_succ, List.getElem?_cons_zero]; with_reducible rfl))
              intro K hK
              rw [if_pos (by rfl)]
              refine wp_store_row _ _ _ rfl g11 #[.int .i64 c7, .int .i64 p7] rfl rfl _ _ HF.out (fault_info _ _) rfl (by simp [Value.oneCell']) ?_
              have HF2 := Lib.hid (HF.out.setRow #[.int .i64 c7, .int .i64 p7])
              have HB2 : Hid (But g11 v6 (v6.setRow g11 #[.int .i64 c7, .int .i64 p7])) := But.setRow _ _ _
              have HS2 : Hid (Below V.heap.size V (v6.setRow g11 #[.int .i64 c7, .int .i64 p7])) := HS.out.trans (below_setRow HG11.out _)
              have HQ2 := Lib.hid (HQ.out.setRow HF.out #[.int .i64 c7, .int .i64 p7])
              clear HS HF HQ
              refine hK.out _ _ HS2.out ?_
              clear hK K
              (try simp only [Act.put])
              refine wpOU_done ?_
              go_wp2_with fail
              go_meet
              case rel => exact ⟨X7, n7, d7, c7, p7, g11, rfl, rfl, HF2.out, HQ2.out, HS2.out⟩
            · (refine wpOU_solo (o := ?_) ?_ ?_; rotate_left 1; (simp only [List.getElem?_toArray, List.getElem?_cons_succ, List.getElem?_cons_zero]; with_reducible rfl))
              intro K hK
              go_simp
              have HS2 : Hid (Below V.heap.size V (v4.alloc (.cells #[.int .i64 0, .int .i64 0] 27))) := HS.out.alloc HS.out.size _
              have HR2 := Lib.hid (HR.out.alloc (.cells #[.int .i64 0, .int .i64 0] 27))
              have HF2 : Hid (RowAt (v4.alloc (.cells #[.int .i64 0, .int .i64 0] 27)) v4.heap.size 27 #[.int .i64 0, .int .i64 0]) := RowAt.new _ _ _
              have HG11 : Hid (V.heap.size ≤ v4.heap.size) := HS.out.size
              clear HS HR
              refine hK.out _ _ HS2.out ?_
              clear hK K
              (try simp only [Act.put, List.setIfInBounds_toArray, List.set_cons_zero, List.set_cons_succ])
              generalize (v4.alloc (.cells #[.int .i64 0, .int .i64 0] 27)) = v5 at *
              generalize v4.heap.size = g11 at *
              have HS := HS2; clear HS2
              have HR := HR2; clear HR2
              have HF := HF2; clear HF2
              (refine wpOU_solo (o := ?_) ?_ ?_; rotate_left 1; (simp only [List.getElem?_toArray, List.getElem?_cons_succ, List.getElem?_cons_zero]; with_reducible rfl))
              intro K hK
              go_simp
              go_at_call 9
              refine (HRD.out X6 d6 v5 (Sl.of_own HR.out)).mono ?_
              rintro e v6 ⟨hb7, X7, n7, d7, c7, p7, rfl, hq7⟩
              have HS2 : Hid (Below V.heap.size V v6) := HS.out.trans (hb7.mono HS.out.size)
              have HQ2 := Lib.hid hq7
              have HF2 := Lib.hid (HF.out.below hb7 HF.out.lt)
              clear HS HR HF hb7 hq7
              refine hK.out _ _ HS2.out ?_
              clear hK K
              (try simp only [Act.put, List.setIfInBounds_toArray, List.set_cons_zero, List.set_cons_succ])
              have HS := HS2; clear HS2
              have HF := HF2; clear HF2
              have HQ := HQ2; clear HQ2
              iterate 3
                (refine wpOU_step (o := ?_) ?_ ?_; rotate_left 1; (simp only [List.getElem?_toArray, List.getElem?_cons_succ, List.getElem?_cons_zero]; with_reducible rfl))
                (first
                    | (refine wpOU_skip (by rfl) ?_)
                    | (refine wpOU_take (v := ?_) (by rfl) ?_ ?_; rotate_left 1; (intro wx hSx; go_simp; try with_reducible rfl)))
                (try simp only [Act.put, List.setIfInBounds_toArray, List.set_cons_zero, List.set_cons_succ])
              iterate 1
                (refine wpOU_step (o := ?_) ?_ ?_; rotate_left 1; (simp only [List.getElem?_toArray, List.getElem?_cons_succ, List.getElem?_cons_zero]; with_reducible rfl))
                (first
                    | (refine wpOU_skip (by rfl) ?_)
                    | (refine wpOU_take (v := ?_) (by rfl) ?_ ?_; rotate_left 1; (intro wx hSx; go_simp; try with_reducible rfl)))
                (try simp only [Act.put, List.setIfInBounds_toArray, List.set_cons_zero, List.set_cons_succ])
              (refine wpOU_solo (o := ?_) ?_ ?_; rotate_left 1; (simp only [List.getElem?_toArray, List.getElem?_cons_succ, List.getElem?_cons_zero]; with_reducible rfl))
              intro K hK
              rw [if_pos (by rfl)]
              refine wp_store_row _ _ _ rfl g11 #[.int .i64 c7, .int .i64 p7] rfl rfl _ _ HF.out (fault_info _ _) rfl (by simp [Value.oneCell']) ?_
              have HF2 := Lib.hid (HF.out.setRow #[.int .i64 c7, .int .i64 p7])
              have HB2 : Hid (But g11 v6 (v6.setRow g11 #[.int .i64 c7, .int .i64 p7])) := But.setRow _ _ _
              have HS2 : Hid (Below V.heap.size V (v6.setRow g11 #[.int .i64 c7, .int .i64 p7])) := HS.out.trans (below_setRow HG11.out _)
              have HQ2 := Lib.hid (HQ.out.setRow HF.out #[.int .i64 c7, .int .i64 p7])
              clear HS HF HQ
              refine hK.out _ _ HS2.out ?_
              clear hK K
              (try simp only [Act.put])
              refine wpOU_done ?_
              go_wp2_with fail
              go_meet
              case rel => exact ⟨X7, n7, d7, c7, p7, g11, rfl, rfl, HF2.out, HQ2.out, HS2.out⟩
          · (refine wpOU_solo (o := ?_) ?_ ?_; rotate_left 1; (simp only [List.getElem?_toArray, List.getElem?_cons_succ, List.getElem?_cons_zero]; with_reducible rfl))
            intro K hK
            go_simp
            have HS2 : Hid (Below V.heap.size V (v3.alloc (.cells #[.int .i64 0, .int .i64 0] 27))) := HS.out.alloc HS.out.size _
            have HR2 := Lib.hid (HR.out.alloc (.cells #[.int .i64 0, .int .i64 0] 27))
            have HE2 := Lib.hid (HE.out.alloc (.cells #[.int .i64 0, .int .i64 0] 27))
            have HF2 : Hid (RowAt (v3.alloc (.cells #[.int .i64 0, .int .i64 0] 27)) v3.heap.size 27 #[.int .i64 0, .int .i64 0]) := RowAt.new _ _ _
            have HG11 : Hid (V.heap.size ≤ v3.heap.size) := HS.out.size
            clear HS HR HE
            refine hK.out _ _ HS2.out ?_
            clear hK K
            (try simp only [Act.put, List.setIfInBounds_toArray, List.set_cons_zero, List.set_cons_succ])
            generalize (v3.alloc (.cells #[.int .i64 0, .int .i64 0] 27)) = v4 at *
            generalize v3.heap.size = g11 at *
            have HS := HS2; clear HS2
            have HR := HR2; clear HR2
            have HE := HE2; clear HE2
            have HF := HF2; clear HF2
            (refine wpOU_solo (o := ?_) ?_ ?_; rotate_left 1; (simp only [List.getElem?_toArray, List.getElem?_cons_succ, List.getElem?_cons_zero]; with_reducible rfl))
            intro K hK
            rw [if_pos (by rfl)]
            refine wp_cat _ _ 22 rfl 36 (.agg #[.int .u8 0, .string ⟨#[]⟩, .int .i64 0]) 3 32 Try.underlying22 infoTok rfl (by decide) (by decide) V.heap.size X3 (1 + nl) d3 (tkcells (⟨123, ⟨#[123]⟩, -5⟩ :: l)) rfl HR.out (v4.heap.size) (some ⟨g5, 0, none⟩) 1 1 [.int .u8 125, .string ⟨#[125]⟩, .int .i64 7] rfl rfl (by decide) (fun _ => ⟨g5, 0, rfl, HE.out.lt, fun j u hu => by rw [Nat.zero_add]; exact (HE.out.cell j).trans (by simpa using hu)⟩) (by simp [Value.oneCell']) (by omega) HS.out.size ?_
            intro X6 d6 v5 hown6 hb6 hg6
            have HS2 : Hid (Below V.heap.size V v5) := HS.out.trans hb6
            have HR2 : Hid (v5.ownsRow V.heap.size 36 3 (.slice X6 (1 + nl + 1) d6) (1 + nl + 1) (tkcells (⟨123, ⟨#[123]⟩, -5⟩ :: (l ++ [⟨125, ⟨#[125]⟩, 7⟩])))) := by
              have e : tkcells (⟨123, ⟨#[123]⟩, -5⟩ :: (l ++ [⟨125, ⟨#[125]⟩, 7⟩])) = tkcells (⟨123, ⟨#[123]⟩, -5⟩ :: l) ++ tkcells [⟨125, ⟨#[125]⟩, 7⟩] := by rw [← tkcells_append]; rfl
              rw [e]; exact hown6
            have HF2 := Lib.hid (HF.out.grown hg6 (own_ne_row HR.out HF.out (by decide)))
            clear HS HR HE HF hown6 hb6 hg6
            refine hK.out _ _ HS2.out ?_
            clear hK K
            (try simp only [Act.put, List.setIfInBounds_toArray, List.set_cons_zero, List.set_cons_succ])
            have HS := HS2; clear HS2
            have HR := HR2; clear HR2
            have HF := HF2; clear HF2
            (refine wpOU_solo (o := ?_) ?_ ?_; rotate_left 1; (simp only [List.getElem?_toArray, List.getElem?_cons_succ, List.getElem?_cons_zero]; with_reducible rfl))
            intro K hK
            go_simp
            go_at_call 9
            refine (HRD.out X6 d6 v5 (Sl.of_own HR.out)).mono ?_
            rintro e v6 ⟨hb7, X7, n7, d7, c7, p7, rfl, hq7⟩
            have HS2 : Hid (Below V.heap.size V v6) := HS.out.trans (hb7.mono HS.out.size)
            have HQ2 := Lib.hid hq7
            have HF2 := Lib.hid (HF.out.below hb7 HF.out.lt)
            clear HS HR HF hb7 hq7
            refine hK.out _ _ HS2.out ?_
            clear hK K
            (try simp only [Act.put, List.setIfInBounds_toArray, List.set_cons_zero, List.set_cons_succ])
            have HS := HS2; clear HS2
            have HF := HF2; clear HF2
            have HQ := HQ2; clear HQ2
            iterate 3
              (refine wpOU_step (o := ?_) ?_ ?_; rotate_left 1; (simp only [List.getElem?_toArray, List.getElem?_cons_succ, List.getElem?_cons_zero]; with_reducible rfl))
              (first
                  | (refine wpOU_skip (by rfl) ?_)
                  | (refine wpOU_take (v := ?_) (by rfl) ?_ ?_; rotate_left 1; (intro wx hSx; go_simp; try with_reducible rfl)))
              (try simp only [Act.put, List.setIfInBounds_toArray, List.set_cons_zero, List.set_cons_succ])
            iterate 1
              (refine wpOU_step (o := ?_) ?_ ?_; rotate_left 1; (simp only [List.getElem?_toArray, List.getElem?_cons_succ, List.getElem?_cons_zero]; with_reducible rfl))
              (first
                  | (refine wpOU_skip (by rfl) ?_)
                  | (refine wpOU_take (v := ?_) (by rfl) ?_ ?_; rotate_left 1; (intro wx hSx; go_simp; try with_reducible rfl)))
              (try simp only [Act.put, List.setIfInBounds_toArray, List.set_cons_zero, List.set_cons_succ])
            (refine wpOU_solo (o := ?_) ?_ ?_; rotate_left 1; (simp only [List.getElem?_toArray, List.getElem?_cons_succ, List.getElem?_cons_zero]; with_reducible rfl))
            intro K hK
            rw [if_pos (by rfl)]
            refine wp_store_row _ _ _ rfl g11 #[.int .i64 c7, .int .i64 p7] rfl rfl _ _ HF.out (fault_info _ _) rfl (by simp [Value.oneCell']) ?_
            have HF2 := Lib.hid (HF.out.setRow #[.int .i64 c7, .int .i64 p7])
            have HB2 : Hid (But g11 v6 (v6.setRow g11 #[.int .i64 c7, .int .i64 p7])) := But.setRow _ _ _
            have HS2 : Hid (Below V.heap.size V (v6.setRow g11 #[.int .i64 c7, .int .i64 p7])) := HS.out.trans (below_setRow HG11.out _)
            have HQ2 := Lib.hid (HQ.out.setRow HF.out #[.int .i64 c7, .int .i64 p7])
            clear HS HF HQ
            refine hK.out _ _ HS2.out ?_
            clear hK K
            (try simp only [Act.put])
            refine wpOU_done ?_
            go_wp2_with fail
            go_meet
            case rel => exact ⟨X7, n7, d7, c7, p7, g11, rfl, rfl, HF2.out, HQ2.out, HS2.out⟩
        · (refine wpOU_solo (o := ?_) ?_ ?_; rotate_left 1; (simp only [List.getElem?_toArray, List.getElem?_cons_succ, List.getElem?_cons_zero]; with_reducible rfl))
          intro K hK
          go_simp
          have HS2 : Hid (Below V.heap.size V (v2.alloc (.cells #[.int .i64 0, .int .i64 0] 27))) := HS.out.alloc HS.out.size _
          have HR2 := Lib.hid (HR.out.alloc (.cells #[.int .i64 0, .int .i64 0] 27))
          have HF2 : Hid (RowAt (v2.alloc (.cells #[.int .i64 0, .int .i64 0] 27)) v2.heap.size 27 #[.int .i64 0, .int .i64 0]) := RowAt.new _ _ _
          have HG11 : Hid (V.heap.size ≤ v2.heap.size) := HS.out.size
          clear HS HR
          refine hK.out _ _ HS2.out ?_
          clear hK K
          (try simp only [Act.put, List.setIfInBounds_toArray, List.set_cons_zero, List.set_cons_succ])
          generalize (v2.alloc (.cells #[.int .i64 0, .int .i64 0] 27)) = v3 at *
          generalize v2.heap.size = g11 at *
          have HS := HS2; clear HS2
          have HR := HR2; clear HR2
          have HF := HF2; clear HF2
          (refine wpOU_solo (o := ?_) ?_ ?_; rotate_left 1; (simp only [List.getElem?_toArray, List.getElem?_cons_succ, List.getElem?_cons_zero]; with_reducible rfl))
          intro K hK
          go_simp
          have HS2 : Hid (Below V.heap.size V (v3.alloc (.cells #[.int .u8 125, .string ⟨#[125]⟩, .int .i64 7] 36))) := HS.out.alloc HS.out.size _
          have HR2 := Lib.hid (HR.out.alloc (.cells #[.int .u8 125, .string ⟨#[125]⟩, .int .i64 7] 36))
          have HF2 := Lib.hid (HF.out.alloc (.cells #[.int .u8 125, .string ⟨#[125]⟩, .int .i64 7] 36))
          have HE2 : Hid (RowAt (v3.alloc (.cells #[.int .u8 125, .string ⟨#[125]⟩, .int .i64 7] 36)) v3.heap.size 36 #[.int .u8 125, .string ⟨#[125]⟩, .int .i64 7]) := RowAt.new _ _ _
          clear HS HR HF
          refine hK.out _ _ HS2.out ?_
          clear hK K
          (try simp only [Act.put, List.setIfInBounds_toArray, List.set_cons_zero, List.set_cons_succ])
          generalize (v3.alloc (.cells #[.int .u8 125, .string ⟨#[125]⟩, .int .i64 7] 36)) = v4 at *
          generalize v3.heap.size = g5 at *
          have HS := HS2; clear HS2
          have HR := HR2; clear HR2
          have HE := HE2; clear HE2
          have HF := HF2; clear HF2
          (refine wpOU_solo (o := ?_) ?_ ?_; rotate_left 1; (simp only [List.getElem?_toArray, List.getElem?_cons_succ, List.getElem?_cons_zero]; with_reducible rfl))
          intro K hK
          rw [if_pos (by rfl)]
          refine wp_cat _ _ 22 rfl 36 (.agg #[.int .u8 0, .string ⟨#[]⟩, .int .i64 0]) 3 32 Try.underlying22 infoTok rfl (by decide) (by decide) V.heap.size X3 (1 + nl) d3 (tkcells (⟨123, ⟨#[123]⟩, -5⟩ :: l)) rfl HR.out (v4.heap.size) (some ⟨g5, 0, none⟩) 1 1 [.int .u8 125, .string ⟨#[125]⟩, .int .i64 7] rfl rfl (by decide) (fun _ => ⟨g5, 0, rfl, HE.out.lt, fun j u hu => by rw [Nat.zero_add]; exact (HE.out.cell j).trans (by simpa using hu)⟩) (by simp [Value.oneCell']) (by omega) HS.out.size ?_
          intro X6 d6 v5 hown6 hb6 hg6
          have HS2 : Hid (Below V.heap.size V v5) := HS.out.trans hb6
          have HR2 : Hid (v5.ownsRow V.heap.size 36 3 (.slice X6 (1 + nl + 1) d6) (1 + nl + 1) (tkcells (⟨123, ⟨#[123]⟩, -5⟩ :: (l ++ [⟨125, ⟨#[125]⟩, 7⟩])))) := by
            have e : tkcells (⟨123, ⟨#[123]⟩, -5⟩ :: (l ++ [⟨125, ⟨#[125]⟩, 7⟩])) = tkcells (⟨123, ⟨#[123]⟩, -5⟩ :: l) ++ tkcells [⟨125, ⟨#[125]⟩, 7⟩] := by rw [← tkcells_append]; rfl
            rw [e]; exact hown6
          have HF2 := Lib.hid (HF.out.grown hg6 (own_ne_row HR.out HF.out (by decide)))
          clear HS HR HE HF hown6 hb6 hg6
          refine hK.out _ _ HS2.out ?_
          clear hK K
          (try simp only [Act.put, List.setIfInBounds_toArray, List.set_cons_zero, List.set_cons_succ])
          have HS := HS2; clear HS2
          have HR := HR2; clear HR2
          have HF := HF2; clear HF2
          (refine wpOU_solo (o := ?_) ?_ ?_; rotate_left 1; (simp only [List.getElem?_toArray, List.getElem?_cons_succ, List.getElem?_cons_zero]; with_reducible rfl))
          intro K hK
          go_simp
          go_at_call 9
          refine (HRD.out X6 d6 v5 (Sl.of_own HR.out)).mono ?_
          rintro e v6 ⟨hb7, X7, n7, d7, c7, p7, rfl, hq7⟩
          have HS2 : Hid (Below V.heap.size V v6) := HS.out.trans (hb7.mono HS.out.size)
          have HQ2 := Lib.hid hq7
          have HF2 := Lib.hid (HF.out.below hb7 HF.out.lt)
          clear HS HR HF hb7 hq7
          refine hK.out _ _ HS2.out ?_
          clear hK K
          (try simp only [Act.put, List.setIfInBounds_toArray, List.set_cons_zero, List.set_cons_succ])
          have HS := HS2; clear HS2
          have HF := HF2; clear HF2
          have HQ := HQ2; clear HQ2
          iterate 3
            (refine wpOU_step (o := ?_) ?_ ?_; rotate_left 1; (simp only [List.getElem?_toArray, List.getElem?_cons_succ, List.getElem?_cons_zero]; with_reducible rfl))
            (first
                | (refine wpOU_skip (by rfl) ?_)
                | (refine wpOU_take (v := ?_) (by rfl) ?_ ?_; rotate_left 1; (intro wx hSx; go_simp; try with_reducible rfl)))
            (try simp only [Act.put, List.setIfInBounds_toArray, List.set_cons_zero, List.set_cons_succ])
          iterate 1
            (refine wpOU_step (o := ?_) ?_ ?_; rotate_left 1; (simp only [List.getElem?_toArray, List.getElem?_cons_succ, List.getElem?_cons_zero]; with_reducible rfl))
            (first
                | (refine wpOU_skip (by rfl) ?_)
                | (refine wpOU_take (v := ?_) (by rfl) ?_ ?_; rotate_left 1; (intro wx hSx; go_simp; try with_reducible rfl)))
            (try simp only [Act.put, List.setIfInBounds_toArray, List.set_cons_zero, List.set_cons_succ])
          (refine wpOU_solo (o := ?_) ?_ ?_; rotate_left 1; (simp only [List.getElem?_toArray, List.getElem?_cons_succ, List.getElem?_cons_zero]; with_reducible rfl))
          intro K hK
          rw [if_pos (by rfl)]
          refine wp_store_row _ _ _ rfl g11 #[.int .i64 c7, .int .i64 p7] rfl rfl _ _ HF.out (fault_info _ _) rfl (by simp [Value.oneCell']) ?_
          have HF2 := Lib.hid (HF.out.setRow #[.int .i64 c7, .int .i64 p7])
          have HB2 : Hid (But g11 v6 (v6.setRow g11 #[.int .i64 c7, .int .i64 p7])) := But.setRow _ _ _
          have HS2 : Hid (Below V.heap.size V (v6.setRow g11 #[.int .i64 c7, .int .i64 p7])) := HS.out.trans (below_setRow HG11.out _)
          have HQ2 := Lib.hid (HQ.out.setRow HF.out #[.int .i64 c7, .int .i64 p7])
          clear HS HF HQ
          refine hK.out _ _ HS2.out ?_
          clear hK K
          (try simp only [Act.put])
          refine wpOU_done ?_
          go_wp2_with fail
          go_meet
          case rel => exact ⟨X7, n7, d7, c7, p7, g11, rfl, rfl, HF2.out, HQ2.out, HS2.out⟩
      · (refine wpOU_solo (o := ?_) ?_ ?_; rotate_left 1; (simp only [List.getElem?_toArray, List.getElem?_cons_succ, List.getElem?_cons_zero]; with_reducible rfl))
        intro K hK
        go_simp
        have HS2 : Hid (Below V.heap.size V (v1.alloc (.cells #[.int .u8 125, .string ⟨#[125]⟩, .int .i64 7] 36))) := HS.out.alloc HS.out.size _
        have HR2 := Lib.hid (HR.out.alloc (.cells #[.int .u8 125, .string ⟨#[125]⟩, .int .i64 7] 36))
        have HE2 : Hid (RowAt (v1.alloc (.cells #[.int .u8 125, .string ⟨#[125]⟩, .int .i64 7] 36)) v1.heap.size 36 #[.int .u8 125, .string ⟨#[125]⟩, .int .i64 7]) := RowAt.new _ _ _
        have h15 : v1.heap.size ≠ g1 := by have := (HR.out.lt g1 rfl).2; omega
        clear HS HR
        refine hK.out _ _ HS2.out ?_
        clear hK K
        (try simp only [Act.put, List.setIfInBounds_toArray, List.set_cons_zero, List.set_cons_succ])
        generalize (v1.alloc (.cells #[.int .u8 125, .string ⟨#[125]⟩, .int .i64 7] 36)) = v2 at *
        generalize v1.heap.size = g5 at *
        have HS := HS2; clear HS2
        have HR := HR2; clear HR2
        have HE := HE2; clear HE2
        refine wpOU_two ?_ ?_
        · (refine wpOU_solo (o := ?_) ?_ ?_; rotate_left 1; (simp only [List.getElem?_toArray, List.getElem?_cons_succ, List.getElem?_cons_zero]; with_reducible rfl))
          intro K hK
          rw [if_pos (by rfl)]
          refine wp_cat _ _ 22 rfl 36 (.agg #[.int .u8 0, .string ⟨#[]⟩, .int .i64 0]) 3 32 Try.underlying22 infoTok rfl (by decide) (by decide) V.heap.size (some ⟨g1, 0, none⟩) 1 1 (tkcells [⟨123, ⟨#[123]⟩, -5⟩]) rfl HR.out _ A nl c (tkcells l) rfl (by rw [tkcells_length, HNL.out]) (by omega) (HL.out _ HS.out) (tk_one _) (by decide) HS.out.size ?_
          intro X3 d3 v3 hown3 hb3 hg3
          have HS2 : Hid (Below V.heap.size V v3) := HS.out.trans hb3
          have HR2 : Hid (v3.ownsRow V.heap.size 36 3 (.slice X3 (1 + nl) d3) (1 + nl) (tkcells (⟨123, ⟨#[123]⟩, -5⟩ :: l))) := by
            have e : tkcells (⟨123, ⟨#[123]⟩, -5⟩ :: l) = tkcells [⟨123, ⟨#[123]⟩, -5⟩] ++ tkcells l := by rw [← tkcells_append]; rfl
            rw [e]; exact hown3
          have HE2 := Lib.hid (HE.out.grown hg3 (fun e => h15 (by have e2 : some g1 = some g5 := e; injection e2 with e2; exact e2.symm)))
          clear HS HR HE hown3 hb3 hg3
          refine hK.out _ _ HS2.out ?_
          clear hK K
          (try simp only [Act.put, List.setIfInBounds_toArray, List.set_cons_zero, List.set_cons_succ])
          have HS := HS2; clear HS2
          have HR := HR2; clear HR2
          have HE := HE2; clear HE2
          refine wpOU_two ?_ ?_
          · (refine wpOU_solo (o := ?_) ?_ ?_; rotate_left 1; (simp only [List.getElem?_toArray, List.getElem?_cons_succ, List.getElem?_cons_zero]; with_reducible rfl))
            intro K hK
            rw [if_pos (by rfl)]
            refine wp_cat _ _ 22 rfl 36 (.agg #[.int .u8 0, .string ⟨#[]⟩, .int .i64 0]) 3 32 Try.underlying22 infoTok rfl (by decide) (by decide) V.heap.size X3 (1 + nl) d3 (tkcells (⟨123, ⟨#[123]⟩, -5⟩ :: l)) rfl HR.out (v3.heap.size) (some ⟨g5, 0, none⟩) 1 1 [.int .u8 125, .string ⟨#[125]⟩, .int .i64 7] rfl rfl (by decide) (fun _ => ⟨g5, 0, rfl, HE.out.lt, fun j u hu => by rw [Nat.zero_add]; exact (HE.out.cell j).trans (by simpa using hu)⟩) (by simp [Value.oneCell']) (by omega) HS.out.size ?_
            intro X6 d6 v4 hown6 hb6 hg6
            have HS2 : Hid (Below V.heap.size V v4) := HS.out.trans hb6
            have HR2 : Hid (v4.ownsRow V.heap.size 36 3 (.slice X6 (1 + nl + 1) d6) (1 + nl + 1) (tkcells (⟨123, ⟨#[123]⟩, -5⟩ :: (l ++ [⟨125, ⟨#[125]⟩, 7⟩])))) := by
              have e : tkcells (⟨123, ⟨#[123]⟩, -5⟩ :: (l ++ [⟨125, ⟨#[125]⟩, 7⟩])) = tkcells (⟨123, ⟨#[123]⟩, -5⟩ :: l) ++ tkcells [⟨125, ⟨#[125]⟩, 7⟩] := by rw [← tkcells_append]; rfl
              rw [e]; exact hown6
            clear HS HR HE hown6 hb6 hg6
            refine hK.out _ _ HS2.out ?_
            clear hK K
            (try simp only [Act.put, List.setIfInBounds_toArray, List.set_cons_zero, List.set_cons_succ])
            have HS := HS2; clear HS2
            have HR := HR2; clear HR2
            refine wpOU_two ?_ ?_
            · (refine wpOU_solo (o := ?_) ?_ ?_; rotate_left 1; (simp only [List.getElem?_toArray, List.getElem?_cons_succ, List.getElem?_cons_zero]; with_reducible rfl))
              intro K hK
              go_simp
              go_at_call 9
              refine (HRD.out X6 d6 v4 (Sl.of_own HR.out)).mono ?_
              rintro e v5 ⟨hb7, X7, n7, d7, c7, p7, rfl, hq7⟩
              have HS2 : Hid (Below V.heap.size V v5) := HS.out.trans (hb7.mono HS.out.size)
              have HQ2 := Lib.hid hq7
              clear HS HR hb7 hq7
              refine hK.out _ _ HS2.out ?_
              clear hK K
              (try simp only [Act.put, List.setIfInBounds_toArray, List.set_cons_zero, List.set_cons_succ])
              have HS := HS2; clear HS2
              have HQ := HQ2; clear HQ2
              iterate 3
                (refine wpOU_step (o := ?_) ?_ ?_; rotate_left 1; (simp only [List.getElem?_toArray, List.getElem?_cons_succ, List.getElem?_cons_zero]; with_reducible rfl))
                (first
                    | (refine wpOU_skip (by rfl) ?_)
                    | (refine wpOU_take (v := ?_) (by rfl) ?_ ?_; rotate_left 1; (intro wx hSx; go_simp; try with_reducible rfl)))
                (try simp only [Act.put, List.setIfInBounds_toArray, List.set_cons_zero, List.set_cons_succ])
              (refine wpOU_solo (o := ?_) ?_ ?_; rotate_left 1; (simp only [List.getElem?_toArray, List.getElem?_cons_succ, List.getElem?_cons_zero]; with_reducible rfl))
              intro K hK
              go_simp
              have HS2 : Hid (Below V.heap.size V (v5.alloc (.cells #[.int .i64 0, .int .i64 0] 27))) := HS.out.alloc HS.out.size _
              have HQ2 := Lib.hid (HQ.out.below ((Below.refl v5.heap.size v5).alloc (Nat.le_refl _) (.cells #[.int .i64 0, .int .i64 0] 27)))
              have HF2 : Hid (RowAt (v5.alloc (.cells #[.int .i64 0, .int .i64 0] 27)) v5.heap.size 27 #[.int .i64 0, .int .i64 0]) := RowAt.new _ _ _
              have HG11 : Hid (V.heap.size ≤ v5.heap.size) := HS.out.size
              clear HS HQ
              refine hK.out _ _ HS2.out ?_
              clear hK K
              (try simp only [Act.put, List.setIfInBounds_toArray, List.set_cons_zero, List.set_cons_succ])
              generalize (v5.alloc (.cells #[.int .i64 0, .int .i64 0] 27)) = v6 at *
              generalize v5.heap.size = g11 at *
              have HS := HS2; clear HS2
              have HF := HF2; clear HF2
              have HQ := HQ2; clear HQ2
              iterate 1
                (refine wpOU_step (o := ?_) ?_ ?_; rotate_left 1; (simp only [List.getElem?_toArray, List.getElem?_cons_succ, List.getElem?_cons_zero]; with_reducible rfl))
                (first
                    | (refine wpOU_skip (by rfl) ?_)
                    | (refine wpOU_take (v := ?_) (by rfl) ?_ ?_; rotate_left 1; (intro wx hSx; go_simp; try with_reducible rfl)))
                (try simp only [Act.put, List.setIfInBounds_toArray, List.set_cons_zero, List.set_cons_succ])
              (refine wpOU_solo (o := ?_) ?_ ?_; rotate_left 1; (simp only [List.getElem?_toArray, List.getElem?_cons_succ, List.getElem?_cons_zero]; with_reducible rfl))
              intro K hK
              rw [if_pos (by rfl)]
              refine wp_store_row _ _ _ rfl g11 #[.int .i64 c7, .int .i64 p7] rfl rfl _ _ HF.out (fault_info _ _) rfl (by simp [Value.oneCell']) ?_
              have HF2 := Lib.hid (HF.out.setRow #[.int .i64 c7, .int .i64 p7])
              have HB2 : Hid (But g11 v6 (v6.setRow g11 #[.int .i64 c7, .int .i64 p7])) := But.setRow _ _ _
              have HS2 : Hid (Below V.heap.size V (v6.setRow g11 #[.int .i64 c7, .int .i64 p7])) := HS.out.trans (below_setRow HG11.out _)
              have HQ2 := Lib.hid (HQ.out.setRow HF.out #[.int .i64 c7, .int .i64 p7])
              clear HS HF HQ
              refine hK.out _ _ HS2.out ?_
              clear hK K
              (try simp only [Act.put])
              refine wpOU_done ?_
              go_wp2_with fail
              go_meet
              case rel => exact ⟨X7, n7, d7, c7, p7, g11, rfl, rfl, HF2.out, HQ2.out, HS2.out⟩
            · (refine wpOU_solo (o := ?_) ?_ ?_; rotate_left 1; (simp only [List.getElem?_toArray, List.getElem?_cons_succ, List.getElem?_cons_zero]; with_reducible rfl))
              intro K hK
              go_simp
              have HS2 : Hid (Below V.heap.size V (v4.alloc (.cells #[.int .i64 0, .int .i64 0] 27))) := HS.out.alloc HS.out.size _
              have HR2 := Lib.hid (HR.out.alloc (.cells #[.int .i64 0, .int .i64 0] 27))
              have HF2 : Hid (RowAt (v4.alloc (.cells #[.int .i64 0, .int .i64 0] 27)) v4.heap.size 27 #[.int .i64 0, .int .i64 0]) := RowAt.new _ _ _
              have HG11 : Hid (V.heap.size ≤ v4.heap.size) := HS.out.size
              clear HS HR
              refine hK.out _ _ HS2.out ?_
              clear hK K
              (try simp only [Act.put, List.setIfInBounds_toArray, List.set_cons_zero, List.set_cons_succ])
              generalize (v4.alloc (.cells #[.int .i64 0, .int .i64 0] 27)) = v5 at *
              generalize v4.heap.size = g11 at *
              have HS := HS2; clear HS2
              have HR := HR2; clear HR2
              have HF := HF2; clear HF2
              (refine wpOU_solo (o := ?_) ?_ ?_; rotate_left 1; (simp only [List.getElem?_toArray, List.getElem?_cons_succ, List.getElem?_cons_zero]; with_reducible rfl))
              intro K hK
              go_simp
              go_at_call 9
              refine (HRD.out X6 d6 v5 (Sl.of_own HR.out)).mono ?_
              rintro e v6 ⟨hb7, X7, n7, d7, c7, p7, rfl, hq7⟩
              have HS2 : Hid (Below V.heap.size V v6) := HS.out.trans (hb7.mono HS.out.size)
              have HQ2 := Lib.hid hq7
              have HF2 := Lib.hid (HF.out.below hb7 HF.out.lt)
              clear HS HR HF hb7 hq7
              refine hK.out _ _ HS2.out ?_
              clear hK K
              (try simp only [Act.put, List.setIfInBounds_toArray, List.set_cons_zero, List.set_cons_succ])
              have HS := HS2; clear HS2
              have HF := HF2; clear HF2
              have HQ := HQ2; clear HQ2
              iterate 3
                (refine wpOU_step (o := ?_) ?_ ?_; rotate_left 1; (simp only [List.getElem?_toArray, List.getElem?_cons_succ, List.getElem?_cons_zero]; with_reducible rfl))
                (first
                    | (refine wpOU_skip (by rfl) ?_)
                    | (refine wpOU_take (v := ?_) (by rfl) ?_ ?_; rotate_left 1; (intro wx hSx; go_simp; try with_reducible rfl)))
                (try simp only [Act.put, List.setIfInBounds_toArray, List.set_cons_zero, List.set_cons_succ])
              iterate 1
                (refine wpOU_step (o := ?_) ?_ ?_; rotate_left 1; (simp only [List.getElem?_toArray, List.getElem?_cons_succ, List.getElem?_cons_zero]; with_reducible rfl))
                (first
                    | (refine wpOU_skip (by rfl) ?_)
                    | (refine wpOU_take (v := ?_) (by rfl) ?_ ?_; rotate_left 1; (intro wx hSx; go_simp; try with_reducible rfl)))
                (try simp only [Act.put, List.setIfInBounds_toArray, List.set_cons_zero, List.set_cons_succ])
              (refine wpOU_solo (o := ?_) ?_ ?_; rotate_left 1; (simp only [List.getElem?_toArray, List.getElem?_cons_succ, List.getElem?_cons_zero]; with_reducible rfl))
              intro K hK
              rw [if_pos (by rfl)]
              refine wp_store_row _ _ _ rfl g11 #[.int .i64 c7, .int .i64 p7] rfl rfl _ _ HF.out (fault_info _ _) rfl (by simp [Value.oneCell']) ?_
              have HF2 := Lib.hid (HF.out.setRow #[.int .i64 c7, .int .i64 p7])
              have HB2 : Hid (But g11 v6 (v6.setRow g11 #[.int .i64 c7, .int .i64 p7])) := But.setRow _ _ _
              have HS2 : Hid (Below V.heap.size V (v6.setRow g11 #[.int .i64 c7, .int .i64 p7])) := HS.out.trans (below_setRow HG11.out _)
              have HQ2 := Lib.hid (HQ.out.setRow HF.out #[.int .i64 c7, .int .i64 p7])
              clear HS HF HQ
              refine hK.out _ _ HS2.out ?_
              clear hK K
              (try simp only [Act.put])
              refine wpOU_done ?_
              go_wp2_with fail
              go_meet
              case rel => exact ⟨X7, n7, d7, c7, p7, g11, rfl, rfl, HF2.out, HQ2.out, HS2.out⟩
          · (refine wpOU_solo (o := ?_) ?_ ?_; rotate_left 1; (simp only [List.getElem?_toArray, List.getElem?_cons_succ, List.getElem?_cons_zero]; with_reducible rfl))
            intro K hK
            go_simp
            have HS2 : Hid (Below V.heap.size V (v3.alloc (.cells #[.int .i64 0, .int .i64 0] 27))) := HS.out.alloc HS.out.size _
            have HR2 := Lib.hid (HR.out.alloc (.cells #[.int .i64 0, .int .i64 0] 27))
            have HE2 := Lib.hid (HE.out.alloc (.cells #[.int .i64 0, .int .i64 0] 27))
            have HF2 : Hid (RowAt (v3.alloc (.cells #[.int .i64 0, .int .i64 0] 27)) v3.heap.size 27 #[.int .i64 0, .int .i64 0]) := RowAt.new _ _ _
            have HG11 : Hid (V.heap.size ≤ v3.heap.size) := HS.out.size
            clear HS HR HE
            refine hK.out _ _ HS2.out ?_
            clear hK K
            (try simp only [Act.put, List.setIfInBounds_toArray, List.set_cons_zero, List.set_cons_succ])
            generalize (v3.alloc (.cells #[.int .i64 0, .int .i64 0] 27)) = v4 at *
            generalize v3.heap.size = g11 at *
            have HS := HS2; clear HS2
            have HR := HR2; clear HR2
            have HE := HE2; clear HE2
            have HF := HF2; clear HF2
            (refine wpOU_solo (o := ?_) ?_ ?_; rotate_left 1; (simp only [List.getElem?_toArray, List.getElem?_cons_succ, List.getElem?_cons_zero]; with_reducible rfl))
            intro K hK
            rw [if_pos (by rfl)]
            refine wp_cat _ _ 22 rfl 36 (.agg #[.int .u8 0, .string ⟨#[]⟩, .int .i64 0]) 3 32 Try.underlying22 infoTok rfl (by decide) (by decide) V.heap.size X3 (1 + nl) d3 (tkcells (⟨123, ⟨#[123]⟩, -5⟩ :: l)) rfl HR.out (v4.heap.size) (some ⟨g5, 0, none⟩) 1 1 [.int .u8 125, .string ⟨#[125]⟩, .int .i64 7] rfl rfl (by decide) (fun _ => ⟨g5, 0, rfl, HE.out.lt, fun j u hu => by rw [Nat.zero_add]; exact (HE.out.cell j).trans (by simpa using hu)⟩) (by simp [Value.oneCell']) (by omega) HS.out.size ?_
            intro X6 d6 v5 hown6 hb6 hg6
            have HS2 : Hid (Below V.heap.size V v5) := HS.out.trans hb6
            have HR2 : Hid (v5.ownsRow V.heap.size 36 3 (.slice X6 (1 + nl + 1) d6) (1 + nl + 1) (tkcells (⟨123, ⟨#[123]⟩, -5⟩ :: (l ++ [⟨125, ⟨#[125]⟩, 7⟩])))) := by
              have e : tkcells (⟨123, ⟨#[123]⟩, -5⟩ :: (l ++ [⟨125, ⟨#[125]⟩, 7⟩])) = tkcells (⟨123, ⟨#[123]⟩, -5⟩ :: l) ++ tkcells [⟨125, ⟨#[125]⟩, 7⟩] := by rw [← tkcells_append]; rfl
              rw [e]; exact hown6
            have HF2 := Lib.hid (HF.out.grown hg6 (own_ne_row HR.out HF.out (by decide)))
            clear HS HR HE HF hown6 hb6 hg6
            refine hK.out _ _ HS2.out ?_
            clear hK K
            (try simp only [Act.put, List.setIfInBounds_toArray, List.set_cons_zero, List.set_cons_succ])
            have HS := HS2; clear HS2
            have HR := HR2; clear HR2
            have HF := HF2; clear HF2
            (refine wpOU_solo (o := ?_) ?_ ?_; rotate_left 1; (simp only [List.getElem?_toArray, List.getElem?_cons_succ, List.getElem?_cons_zero]; with_reducible rfl))
            intro K hK
            go_simp
            go_at_call 9
            refine (HRD.out X6 d6 v5 (Sl.of_own HR.out)).mono ?_
            rintro e v6 ⟨hb7, X7, n7, d7, c7, p7, rfl, hq7⟩
            have HS2 : Hid (Below V.heap.size V v6) := HS.out.trans (hb7.mono HS.out.size)
            have HQ2 := Lib.hid hq7
            have HF2 := Lib.hid (HF.out.below hb7 HF.out.lt)
            clear HS HR HF hb7 hq7
            refine hK.out _ _ HS2.out ?_
            clear hK K
            (try simp only [Act.put, List.setIfInBounds_toArray, List.set_cons_zero, List.set_cons_succ])
            have HS := HS2; clear HS2
            have HF := HF2; clear HF2
            have HQ := HQ2; clear HQ2
            iterate 3
              (refine wpOU_step (o := ?_) ?_ ?_; rotate_left 1; (simp only [List.getElem?_toArray, List.getElem?_cons_succ, List.getElem?_cons_zero]; with_reducible rfl))
              (first
                  | (refine wpOU_skip (by rfl) ?_)
                  | (refine wpOU_take (v := ?_) (by rfl) ?_ ?_; rotate_left 1; (intro wx hSx; go_simp; try with_reducible rfl)))
              (try simp only [Act.put, List.setIfInBounds_toArray, List.set_cons_zero, List.set_cons_succ])
            iterate 1
              (refine wpOU_step (o := ?_) ?_ ?_; rotate_left 1; (simp only [List.getElem?_toArray, List.getElem?_cons_succ, List.getElem?_cons_zero]; with_reducible rfl))
              (first
                  | (refine wpOU_skip (by rfl) ?_)
                  | (refine wpOU_take (v := ?_) (by rfl) ?_ ?_; rotate_left 1; (intro wx hSx; go_simp; try with_reducible rfl)))
              (try simp only [Act.put, List.setIfInBounds_toArray, List.set_cons_zero, List.set_cons_succ])
            (refine wpOU_solo (o := ?_) ?_ ?_; rotate_left 1; (simp only [List.getElem?_toArray, List.getElem?_cons_succ, List.getElem?_cons_zero]; with_reducible rfl))
            intro K hK
            rw [if_pos (by rfl)]
            refine wp_store_row _ _ _ rfl g11 #[.int .i64 c7, .int .i64 p7] rfl rfl _ _ HF.out (fault_info _ _) rfl (by simp [Value.oneCell']) ?_
            have HF2 := Lib.hid (HF.out.setRow #[.int .i64 c7, .int .i64 p7])
            have HB2 : Hid (But g11 v6 (v6.setRow g11 #[.int .i64 c7, .int .i64 p7])) := But.setRow _ _ _
            have HS2 : Hid (Below V.heap.size V (v6.setRow g11 #[.int .i64 c7, .int .i64 p7])) := HS.out.trans (below_setRow HG11.out _)
            have HQ2 := Lib.hid (HQ.out.setRow HF.out #[.int .i64 c7, .int .i64 p7])
            clear HS HF HQ
            refine hK.out _ _ HS2.out ?_
            clear hK K
            (try simp only [Act.put])
            refine wpOU_done ?_
            go_wp2_with fail
            go_meet
            case rel => exact ⟨X7, n7, d7, c7, p7, g11, rfl, rfl, HF2.out, HQ2.out, HS2.out⟩
        · (refine wpOU_solo (o := ?_) ?_ ?_; rotate_left 1; (simp only [List.getElem?_toArray, List.getElem?_cons_succ, List.getElem?_cons_zero]; with_reducible rfl))
          intro K hK
          go_simp
          have HS2 : Hid (Below V.heap.size V (v2.alloc (.cells #[.int .i64 0, .int .i64 0] 27))) := HS.out.alloc HS.out.size _
          have HR2 := Lib.hid (HR.out.alloc (.cells #[.int .i64 0, .int .i64 0] 27))
          have HE2 := Lib.hid (HE.out.alloc (.cells #[.int .i64 0, .int .i64 0] 27))
          have HF2 : Hid (RowAt (v2.alloc (.cells #[.int .i64 0, .int .i64 0] 27)) v2.heap.size 27 #[.int .i64 0, .int .i64 0]) := RowAt.new _ _ _
          have HG11 : Hid (V.heap.size ≤ v2.heap.size) := HS.out.size
          clear HS HR HE
          refine hK.out _ _ HS2.out ?_
          clear hK K
          (try simp only [Act.put, List.setIfInBounds_toArray, List.set_cons_zero, List.set_cons_succ])
          generalize (v2.alloc (.cells #[.int .i64 0, .int .i64 0] 27)) = v3 at *
          generalize v2.heap.size = g11 at *
          have HS := HS2; clear HS2
          have HR := HR2; clear HR2
          have HE := HE2; clear HE2
          have HF := HF2; clear HF2
          (refine wpOU_solo (o := ?_) ?_ ?_; rotate_left 1; (simp only [List.getElem?_toArray, List.getElem?_cons_succ, List.getElem?_cons_zero]; with_reducible rfl))
          intro K hK
          rw [if_pos (by rfl)]
          refine wp_cat _ _ 22 rfl 36 (.agg #[.int .u8 0, .string ⟨#[]⟩, .int .i64 0]) 3 32 Try.underlying22 infoTok rfl (by decide) (by decide) V.heap.size (some ⟨g1, 0, none⟩) 1 1 (tkcells [⟨123, ⟨#[123]⟩, -5⟩]) rfl HR.out _ A nl c (tkcells l) rfl (by rw [tkcells_length, HNL.out]) (by omega) (HL.out _ HS.out) (tk_one _) (by decide) HS.out.size ?_
          intro X3 d3 v4 hown3 hb3 hg3
          have HS2 : Hid (Below V.heap.size V v4) := HS.out.trans hb3
          have HR2 : Hid (v4.ownsRow V.heap.size 36 3 (.slice X3 (1 + nl) d3) (1 + nl) (tkcells (⟨123, ⟨#[123]⟩, -5⟩ :: l))) := by
            have e : tkcells (⟨123, ⟨#[123]⟩, -5⟩ :: l) = tkcells [⟨123, ⟨#[123]⟩, -5⟩] ++ tkcells l := by rw [← tkcells_append]; rfl
            rw [e]; exact hown3
          have HE2 := Lib.hid (HE.out.grown hg3 (fun e => h15 (by have e2 : some g1 = some g5 := e; injection e2 with e2; exact e2.symm)))
          have HF2 := Lib.hid (HF.out.grown hg3 (own_ne_row HR.out HF.out (by decide)))
          clear HS HR HE HF hown3 hb3 hg3
          refine hK.out _ _ HS2.out ?_
          clear hK K
          (try simp only [Act.put, List.setIfInBounds_toArray, List.set_cons_zero, List.set_cons_succ])
          have HS := HS2; clear HS2
          have HR := HR2; clear HR2
          have HE := HE2; clear HE2
          have HF := HF2; clear HF2
          (refine wpOU_solo (o := ?_) ?_ ?_; rotate_left 1; (simp only [List.getElem?_toArray, List.getElem?_cons_succ, List.getElem?_cons_zero]; with_reducible rfl))
          intro K hK
          rw [if_pos (by rfl)]
          refine wp_cat _ _ 22 rfl 36 (.agg #[.int .u8 0, .string ⟨#[]⟩, .int .i64 0]) 3 32 Try.underlying22 infoTok rfl (by decide) (by decide) V.heap.size X3 (1 + nl) d3 (tkcells (⟨123, ⟨#[123]⟩, -5⟩ :: l)) rfl HR.out (v4.heap.size) (some ⟨g5, 0, none⟩) 1 1 [.int .u8 125, .string ⟨#[125]⟩, .int .i64 7] rfl rfl (by decide) (fun _ => ⟨g5, 0, rfl, HE.out.lt, fun j u hu => by rw [Nat.zero_add]; exact (HE.out.cell j).trans (by simpa using hu)⟩) (by simp [Value.oneCell']) (by omega) HS.out.size ?_
          intro X6 d6 v5 hown6 hb6 hg6
          have HS2 : Hid (Below V.heap.size V v5) := HS.out.trans hb6
          have HR2 : Hid (v5.ownsRow V.heap.size 36 3 (.slice X6 (1 + nl + 1) d6) (1 + nl + 1) (tkcells (⟨123, ⟨#[123]⟩, -5⟩ :: (l ++ [⟨125, ⟨#[125]⟩, 7⟩])))) := by
            have e : tkcells (⟨123, ⟨#[123]⟩, -5⟩ :: (l ++ [⟨125, ⟨#[125]⟩, 7⟩])) = tkcells (⟨123, ⟨#[123]⟩, -5⟩ :: l) ++ tkcells [⟨125, ⟨#[125]⟩, 7⟩] := by rw [← tkcells_append]; rfl
            rw [e]; exact hown6
          have HF2 := Lib.hid (HF.out.grown hg6 (own_ne_row HR.out HF.out (by decide)))
          clear HS HR HE HF hown6 hb6 hg6
          refine hK.out _ _ HS2.out ?_
          clear hK K
          (try simp only [Act.put, List.setIfInBounds_toArray, List.set_cons_zero, List.set_cons_succ])
          have HS := HS2; clear HS2
          have HR := HR2; clear HR2
          have HF := HF2; clear HF2
          (refine wpOU_solo (o := ?_) ?_ ?_; rotate_left 1; (simp only [List.getElem?_toArray, List.getElem?_cons_succ, List.getElem?_cons_zero]; with_reducible rfl))
          intro K hK
          go_simp
          go_at_call 9
          refine (HRD.out X6 d6 v5 (Sl.of_own HR.out)).mono ?_
          rintro e v6 ⟨hb7, X7, n7, d7, c7, p7, rfl, hq7⟩
          have HS2 : Hid (Below V.heap.size V v6) := HS.out.trans (hb7.mono HS.out.size)
          have HQ2 := Lib.hid hq7
          have HF2 := Lib.hid (HF.out.below hb7 HF.out.lt)
          clear HS HR HF hb7 hq7
          refine hK.out _ _ HS2.out ?_
          clear hK K
          (try simp only [Act.put, List.setIfInBounds_toArray, List.set_cons_zero, List.set_cons_succ])
          have HS := HS2; clear HS2
          have HF := HF2; clear HF2
          have HQ := HQ2; clear HQ2
          iterate 3
            (refine wpOU_step (o := ?_) ?_ ?_; rotate_left 1; (simp only [List.getElem?_toArray, List.getElem?_cons_succ, List.getElem?_cons_zero]; with_reducible rfl))
            (first
                | (refine wpOU_skip (by rfl) ?_)
                | (refine wpOU_take (v := ?_) (by rfl) ?_ ?_; rotate_left 1; (intro wx hSx; go_simp; try with_reducible rfl)))
            (try simp only [Act.put, List.setIfInBounds_toArray, List.set_cons_zero, List.set_cons_succ])
          iterate 1
            (refine wpOU_step (o := ?_) ?_ ?_; rotate_left 1; (simp only [List.getElem?_toArray, List.getElem?_cons_succ, List.getElem?_cons_zero]; with_reducible rfl))
            (first
                | (refine wpOU_skip (by rfl) ?_)
                | (refine wpOU_take (v := ?_) (by rfl) ?_ ?_; rotate_left 1; (intro wx hSx; go_simp; try with_reducible rfl)))
            (try simp only [Act.put, List.setIfInBounds_toArray, List.set_cons_zero, List.set_cons_succ])
          (refine wpOU_solo (o := ?_) ?_ ?_; rotate_left 1; (simp only [List.getElem?_toArray, List.getElem?_cons_succ, List.getElem?_cons_zero]; with_reducible rfl))
          intro K hK
          rw [if_pos (by rfl)]
          refine wp_store_row _ _ _ rfl g11 #[.int .i64 c7, .int .i64 p7] rfl rfl _ _ HF.out (fault_info _ _) rfl (by simp [Value.oneCell']) ?_
          have HF2 := Lib.hid (HF.out.setRow #[.int .i64 c7, .int .i64 p7])
          have HB2 : Hid (But g11 v6 (v6.setRow g11 #[.int .i64 c7, .int .i64 p7])) := But.setRow _ _ _
          have HS2 : Hid (Below V.heap.size V (v6.setRow g11 #[.int .i64 c7, .int .i64 p7])) := HS.out.trans (below_setRow HG11.out _)
          have HQ2 := Lib.hid (HQ.out.setRow HF.out #[.int .i64 c7, .int .i64 p7])
          clear HS HF HQ
          refine hK.out _ _ HS2.out ?_
          clear hK K
          (try simp only [Act.put])
          refine wpOU_done ?_
          go_wp2_with fail
          go_meet
          case rel => exact ⟨X7, n7, d7, c7, p7, g11, rfl, rfl, HF2.out, HQ2.out, HS2.out⟩
      · (refine wpOU_solo (o := ?_) ?_ ?_; rotate_left 1; (simp only [List.getElem?_toArray, List.getElem?_cons_succ, List.getElem?_cons_zero]; with_reducible rfl))
        intro K hK
        go_simp
        have HS2 : Hid (Below V.heap.size V (v1.alloc (.cells #[.int .i64 0, .int .i64 0] 27))) := HS.out.alloc HS.out.size _
        have HR2 := Lib.hid (HR.out.alloc (.cells #[.int .i64 0, .int .i64 0] 27))
        have HF2 : Hid (RowAt (v1.alloc (.cells #[.int .i64 0, .int .i64 0] 27)) v1.heap.size 27 #[.int .i64 0, .int .i64 0]) := RowAt.new _ _ _
        have HG11 : Hid (V.heap.size ≤ v1.heap.size) := HS.out.size
        clear HS HR
        refine hK.out _ _ HS2.out ?_
        clear hK K
        (try simp only [Act.put, List.setIfInBounds_toArray, List.set_cons_zero, List.set_cons_succ])
        generalize (v1.alloc (.cells #[.int .i64 0, .int .i64 0] 27)) = v2 at *
        generalize v1.heap.size = g11 at *
        have HS := HS2; clear HS2
        have HR := HR2; clear HR2
        have HF := HF2; clear HF2
        refine wpOU_two ?_ ?_
        · (refine wpOU_solo (o := ?_) ?_ ?_; rotate_left 1; (simp only [List.getElem?_toArray, List.getElem?_cons_succ, List.getElem?_cons_zero]; with_reducible rfl))
          intro K hK
          rw [if_pos (by rfl)]
          refine wp_cat _ _ 22 rfl 36 (.agg #[.int .u8 0, .string ⟨#[]⟩, .int .i64 0]) 3 32 Try.underlying22 infoTok rfl (by decide) (by decide) V.heap.size (some ⟨g1, 0, none⟩) 1 1 (tkcells [⟨123, ⟨#[123]⟩, -5⟩]) rfl HR.out _ A nl c (tkcells l) rfl (by rw [tkcells_length, HNL.out]) (by omega) (HL.out _ HS.out) (tk_one _) (by decide) HS.out.size ?_
          intro X3 d3 v3 hown3 hb3 hg3
          have HS2 : Hid (Below V.heap.size V v3) := HS.out.trans hb3
          have HR2 : Hid (v3.ownsRow V.heap.size 36 3 (.slice X3 (1 + nl) d3) (1 + nl) (tkcells (⟨123, ⟨#[123]⟩, -5⟩ :: l))) := by
            have e : tkcells (⟨123, ⟨#[123]⟩, -5⟩ :: l) = tkcells [⟨123, ⟨#[123]⟩, -5⟩] ++ tkcells l := by rw [← tkcells_append]; rfl
            rw [e]; exact hown3
          have HF2 := Lib.hid (HF.out.grown hg3 (own_ne_row HR.out HF.out (by decide)))
          clear HS HR HF hown3 hb3 hg3
          refine hK.out _ _ HS2.out ?_
          clear hK K
          (try simp only [Act.put, List.setIfInBounds_toArray, List.set_cons_zero, List.set_cons_succ])
          have HS := HS2; clear HS2
          have HR := HR2; clear HR2
          have HF := HF2; clear HF2
          (refine wpOU_solo (o := ?_) ?_ ?_; rotate_left 1; (simp only [List.getElem?_toArray, List.getElem?_cons_succ, List.getElem?_cons_zero]; with_reducible rfl))
          intro K hK
          go_simp
          have HS2 : Hid (Below V.heap.size V (v3.alloc (.cells #[.int .u8 125, .string ⟨#[125]⟩, .int .i64 7] 36))) := HS.out.alloc HS.out.size _
          have HR2 := Lib.hid (HR.out.alloc (.cells #[.int .u8 125, .string ⟨#[125]⟩, .int .i64 7] 36))
          have HF2 := Lib.hid (HF.out.alloc (.cells #[.int .u8 125, .string ⟨#[125]⟩, .int .i64 7] 36))
          have HE2 : Hid (RowAt (v3.alloc (.cells #[.int .u8 125, .string ⟨#[125]⟩, .int .i64 7] 36)) v3.heap.size 36 #[.int .u8 125, .string ⟨#[125]⟩, .int .i64 7]) := RowAt.new _ _ _
          clear HS HR HF
          refine hK.out _ _ HS2.out ?_
          clear hK K
          (try simp only [Act.put, List.setIfInBounds_toArray, List.set_cons_zero, List.set_cons_succ])
          generalize (v3.alloc (.cells #[.int .u8 125, .string ⟨#[125]⟩, .int .i64 7] 36)) = v4 at *
          generalize v3.heap.size = g5 at *
          have HS := HS2; clear HS2
          have HR := HR2; clear HR2
          have HE := HE2; clear HE2
          have HF := HF2; clear HF2
          (refine wpOU_solo (o := ?_) ?_ ?_; rotate_left 1; (simp only [List.getElem?_toArray, List.getElem?_cons_succ, List.getElem?_cons_zero]; with_reducible rfl))
          intro K hK
          rw [if_pos (by rfl)]
          refine wp_cat _ _ 22 rfl 36 (.agg #[.int .u8 0, .string ⟨#[]⟩, .int .i64 0]) 3 32 Try.underlying22 infoTok rfl (by decide) (by decide) V.heap.size X3 (1 + nl) d3 (tkcells (⟨123, ⟨#[123]⟩, -5⟩ :: l)) rfl HR.out (v4.heap.size) (some ⟨g5, 0, none⟩) 1 1 [.int .u8 125, .string ⟨#[125]⟩, .int .i64 7] rfl rfl (by decide) (fun _ => ⟨g5, 0, rfl, HE.out.lt, fun j u hu => by rw [Nat.zero_add]; exact (HE.out.cell j).trans (by simpa using hu)⟩) (by simp [Value.oneCell']) (by omega) HS.out.size ?_
          intro X6 d6 v5 hown6 hb6 hg6
          have HS2 : Hid (Below V.heap.size V v5) := HS.out.trans hb6
          have HR2 : Hid (v5.ownsRow V.heap.size 36 3 (.slice X6 (1 + nl + 1) d6) (1 + nl + 1) (tkcells (⟨123, ⟨#[123]⟩, -5⟩ :: (l ++ [⟨125, ⟨#[125]⟩, 7⟩])))) := by
            have e : tkcells (⟨123, ⟨#[123]⟩, -5⟩ :: (l ++ [⟨125, ⟨#[125]⟩, 7⟩])) = tkcells (⟨123, ⟨#[123]⟩, -5⟩ :: l) ++ tkcells [⟨125, ⟨#[125]⟩, 7⟩] := by rw [← tkcells_append]; rfl
            rw [e]; exact hown6
          have HF2 := Lib.hid (HF.out.grown hg6 (own_ne_row HR.out HF.out (by decide)))
          clear HS HR HE HF hown6 hb6 hg6
          refine hK.out _ _ HS2.out ?_
          clear hK K
          (try simp only [Act.put, List.setIfInBounds_toArray, List.set_cons_zero, List.set_cons_succ])
          have HS := HS2; clear HS2
          have HR := HR2; clear HR2
          have HF := HF2; clear HF2
          (refine wpOU_solo (o := ?_) ?_ ?_; rotate_left 1; (simp only [List.getElem?_toArray, List.getElem?_cons_succ, List.getElem?_cons_zero]; with_reducible rfl))
          intro K hK
          go_simp
          go_at_call 9
          refine (HRD.out X6 d6 v5 (Sl.of_own HR.out)).mono ?_
          rintro e v6 ⟨hb7, X7, n7, d7, c7, p7, rfl, hq7⟩
          have HS2 : Hid (Below V.heap.size V v6) := HS.out.trans (hb7.mono HS.out.size)
          have HQ2 := Lib.hid hq7
          have HF2 := Lib.hid (HF.out.below hb7 HF.out.lt)
          clear HS HR HF hb7 hq7
          refine hK.out _ _ HS2.out ?_
          clear hK K
          (try simp only [Act.put, List.setIfInBounds_toArray, List.set_cons_zero, List.set_cons_succ])
          have HS := HS2; clear HS2
          have HF := HF2; clear HF2
          have HQ := HQ2; clear HQ2
          iterate 3
            (refine wpOU_step (o := ?_) ?_ ?_; rotate_left 1; (simp only [List.getElem?_toArray, List.getElem?_cons_succ, List.getElem?_cons_zero]; with_reducible rfl))
            (first
                | (refine wpOU_skip (by rfl) ?_)
                | (refine wpOU_take (v := ?_) (by rfl) ?_ ?_; rotate_left 1; (intro wx hSx; go_simp; try with_reducible rfl)))
            (try simp only [Act.put, List.setIfInBounds_toArray, List.set_cons_zero, List.set_cons_succ])
          iterate 1
            (refine wpOU_step (o := ?_) ?_ ?_; rotate_left 1; (simp only [List.getElem?_toArray, List.getElem?_cons_succ, List.getElem?_cons_zero]; with_reducible rfl))
            (first
                | (refine wpOU_skip (by rfl) ?_)
                | (refine wpOU_take (v := ?_) (by rfl) ?_ ?_; rotate_left 1; (intro wx hSx; go_simp; try with_reducible rfl)))
            (try simp only [Act.put, List.setIfInBounds_toArray, List.set_cons_zero, List.set_cons_succ])
          (refine wpOU_solo (o := ?_) ?_ ?_; rotate_left 1; (simp only [List.getElem?_toArray, List.getElem?_cons_succ, List.getElem?_cons_zero]; with_reducible rfl))
          intro K hK
          rw [if_pos (by rfl)]
          refine wp_store_row _ _ _ rfl g11 #[.int .i64 c7, .int .i64 p7] rfl rfl _ _ HF.out (fault_info _ _) rfl (by simp [Value.oneCell']) ?_
          have HF2 := Lib.hid (HF.out.setRow #[.int .i64 c7, .int .i64 p7])
          have HB2 : Hid (But g11 v6 (v6.setRow g11 #[.int .i64 c7, .int .i64 p7])) := But.setRow _ _ _
          have HS2 : Hid (Below V.heap.size V (v6.setRow g11 #[.int .i64 c7, .int .i64 p7])) := HS.out.trans (below_setRow HG11.out _)
          have HQ2 := Lib.hid (HQ.out.setRow HF.out #[.int .i64 c7, .int .i64 p7])
          clear HS HF HQ
          refine hK.out _ _ HS2.out ?_
          clear hK K
          (try simp only [Act.put])
          refine wpOU_done ?_
          go_wp2_with fail
          go_meet
          case rel => exact ⟨X7, n7, d7, c7, p7, g11, rfl, rfl, HF2.out, HQ2.out, HS2.out⟩
        · (refine wpOU_solo (o := ?_) ?_ ?_; rotate_left 1; (simp only [List.getElem?_toArray, List.getElem?_cons_succ, List.getElem?_cons_zero]; with_reducible rfl))
          intro K hK
          go_simp
          have HS2 : Hid (Below V.heap.size V (v2.alloc (.cells #[.int .u8 125, .string ⟨#[125]⟩, .int .i64 7] 36))) := HS.out.alloc HS.out.size _
          have HR2 := Lib.hid (HR.out.alloc (.cells #[.int .u8 125, .string ⟨#[125]⟩, .int .i64 7] 36))
          have HF2 := Lib.hid (HF.out.alloc (.cells #[.int .u8 125, .string ⟨#[125]⟩, .int .i64 7] 36))
          have HE2 : Hid (RowAt (v2.alloc (.cells #[.int .u8 125, .string ⟨#[125]⟩, .int .i64 7] 36)) v2.heap.size 36 #[.int .u8 125, .string ⟨#[125]⟩, .int .i64 7]) := RowAt.new _ _ _
          have h15 : v2.heap.size ≠ g1 := by have := (HR.out.lt g1 rfl).2; omega
          clear HS HR HF
          refine hK.out _ _ HS2.out ?_
          clear hK K
          (try simp only [Act.put, List.setIfInBounds_toArray, List.set_cons_zero, List.set_cons_succ])
          generalize (v2.alloc (.cells #[.int .u8 125, .string ⟨#[125]⟩, .int .i64 7] 36)) = v3 at *
          generalize v2.heap.size = g5 at *
          have HS := HS2; clear HS2
          have HR := HR2; clear HR2
          have HE := HE2; clear HE2
          have HF := HF2; clear HF2
          (refine wpOU_solo (o := ?_) ?_ ?_; rotate_left 1; (simp only [List.getElem?_toArray, List.getElem?_cons_succ, List.getElem?_cons_zero]; with_reducible rfl))
          intro K hK
          rw [if_pos (by rfl)]
          refine wp_cat _ _ 22 rfl 36 (.agg #[.int .u8 0, .string ⟨#[]⟩, .int .i64 0]) 3 32 Try.underlying22 infoTok rfl (by decide) (by decide) V.heap.size (some ⟨g1, 0, none⟩) 1 1 (tkcells [⟨123, ⟨#[123]⟩, -5⟩]) rfl HR.out _ A nl c (tkcells l) rfl (by rw [tkcells_length, HNL.out]) (by omega) (HL.out _ HS.out) (tk_one _) (by decide) HS.out.size ?_
          intro X3 d3 v4 hown3 hb3 hg3
          have HS2 : Hid (Below V.heap.size V v4) := HS.out.trans hb3
          have HR2 : Hid (v4.ownsRow V.heap.size 36 3 (.slice X3 (1 + nl) d3) (1 + nl) (tkcells (⟨123, ⟨#[123]⟩, -5⟩ :: l))) := by
            have e : tkcells (⟨123, ⟨#[123]⟩, -5⟩ :: l) = tkcells [⟨123, ⟨#[123]⟩, -5⟩] ++ tkcells l := by rw [← tkcells_append]; rfl
            rw [e]; exact hown3
          have HE2 := Lib.hid (HE.out.grown hg3 (fun e => h15 (by have e2 : some g1 = some g5 := e; injection e2 with e2; exact e2.symm)))
          have HF2 := Lib.hid (HF.out.grown hg3 (own_ne_row HR.out HF.out (by decide)))
          clear HS HR HE HF hown3 hb3 hg3
          refine hK.out _ _ HS2.out ?_
          clear hK K
          (try simp only [Act.put, List.setIfInBounds_toArray, List.set_cons_zero, List.set_cons_succ])
          have HS := HS2; clear HS2
          have HR := HR2; clear HR2
          have HE := HE2; clear HE2
          have HF := HF2; clear HF2
          (refine wpOU_solo (o := ?_) ?_ ?_; rotate_left 1; (simp only [List.getElem?_toArray, List.getElem?_cons_succ, List.getElem?_cons_zero]; with_reducible rfl))
          intro K hK
          rw [if_pos (by rfl)]
          refine wp_cat _ _ 22 rfl 36 (.agg #[.int .u8 0, .string ⟨#[]⟩, .int .i64 0]) 3 32 Try.underlying22 infoTok rfl (by decide) (by decide) V.heap.size X3 (1 + nl) d3 (tkcells (⟨123, ⟨#[123]⟩, -5⟩ :: l)) rfl HR.out (v4.heap.size) (some ⟨g5, 0, none⟩) 1 1 [.int .u8 125, .string ⟨#[125]⟩, .int .i64 7] rfl rfl (by decide) (fun _ => ⟨g5, 0, rfl, HE.out.lt, fun j u hu => by rw [Nat.zero_add]; exact (HE.out.cell j).trans (by simpa using hu)⟩) (by simp [Value.oneCell']) (by omega) HS.out.size ?_
          intro X6 d6 v5 hown6 hb6 hg6
          have HS2 : Hid (Below V.heap.size V v5) := HS.out.trans hb6
          have HR2 : Hid (v5.ownsRow V.heap.size 36 3 (.slice X6 (1 + nl + 1) d6) (1 + nl + 1) (tkcells (⟨123, ⟨#[123]⟩, -5⟩ :: (l ++ [⟨125, ⟨#[125]⟩, 7⟩])))) := by
            have e : tkcells (⟨123, ⟨#[123]⟩, -5⟩ :: (l ++ [⟨125, ⟨#[125]⟩, 7⟩])) = tkcells (⟨123, ⟨#[123]⟩, -5⟩ :: l) ++ tkcells [⟨125, ⟨#[125]⟩, 7⟩] := by rw [← tkcells_append]; rfl
            rw [e]; exact hown6
          have HF2 := Lib.hid (HF.out.grown hg6 (own_ne_row HR.out HF.out (by decide)))
          clear HS HR HE HF hown6 hb6 hg6
          refine hK.out _ _ HS2.out ?_
          clear hK K
          (try simp only [Act.put, List.setIfInBounds_toArray, List.set_cons_zero, List.set_cons_succ])
          have HS := HS2; clear HS2
          have HR := HR2; clear HR2
          have HF := HF2; clear HF2
          (refine wpOU_solo (o := ?_) ?_ ?_; rotate_left 1; (simp only [List.getElem?_toArray, List.getElem?_cons_succ, List.getElem?_cons_zero]; with_reducible rfl))
          intro K hK
          go_simp
          go_at_call 9
          refine (HRD.out X6 d6 v5 (Sl.of_own HR.out)).mono ?_
          rintro e v6 ⟨hb7, X7, n7, d7, c7, p7, rfl, hq7⟩
          have HS2 : Hid (Below V.heap.size V v6) := HS.out.trans (hb7.mono HS.out.size)
          have HQ2 := Lib.hid hq7
          have HF2 := Lib.hid (HF.out.below hb7 HF.out.lt)
          clear HS HR HF hb7 hq7
          refine hK.out _ _ HS2.out ?_
          clear hK K
          (try simp only [Act.put, List.setIfInBounds_toArray, List.set_cons_zero, List.set_cons_succ])
          have HS := HS2; clear HS2
          have HF := HF2; clear HF2
          have HQ := HQ2; clear HQ2
          iterate 3
            (refine wpOU_step (o := ?_) ?_ ?_; rotate_left 1; (simp only [List.getElem?_toArray, List.getElem?_cons_succ, List.getElem?_cons_zero]; with_reducible rfl))
            (first
                | (refine wpOU_skip (by rfl) ?_)
                | (refine wpOU_take (v := ?_) (by rfl) ?_ ?_; rotate_left 1; (intro wx hSx; go_simp; try with_reducible rfl)))
            (try simp only [Act.put, List.setIfInBounds_toArray, List.set_cons_zero, List.set_cons_succ])
          iterate 1
            (refine wpOU_step (o := ?_) ?_ ?_; rotate_left 1; (simp only [List.getElem?_toArray, List.getElem?_cons_succ, List.getElem?_cons_zero]; with_reducible rfl))
            (first
                | (refine wpOU_skip (by rfl) ?_)
                | (refine wpOU_take (v := ?_) (by rfl) ?_ ?_; rotate_left 1; (intro wx hSx; go_simp; try with_reducible rfl)))
            (try simp only [Act.put, List.setIfInBounds_toArray, List.set_cons_zero, List.set_cons_succ])
          (refine wpOU_solo (o := ?_) ?_ ?_; rotate_left 1; (simp only [List.getElem?_toArray, List.getElem?_cons_succ, List.getElem?_cons_zero]; with_reducible rfl))
          intro K hK
          rw [if_pos (by rfl)]
          refine wp_store_row _ _ _ rfl g11 #[.int .i64 c7, .int .i64 p7] rfl rfl _ _ HF.out (fault_info _ _) rfl (by simp [Value.oneCell']) ?_
          have HF2 := Lib.hid (HF.out.setRow #[.int .i64 c7, .int .i64 p7])
          have HB2 : Hid (But g11 v6 (v6.setRow g11 #[.int .i64 c7, .int .i64 p7])) := But.setRow _ _ _
          have HS2 : Hid (Below V.heap.size V (v6.setRow g11 #[.int .i64 c7, .int .i64 p7])) := HS.out.trans (below_setRow HG11.out _)
          have HQ2 := Lib.hid (HQ.out.setRow HF.out #[.int .i64 c7, .int .i64 p7])
          clear HS HF HQ
          refine hK.out _ _ HS2.out ?_
          clear hK K
          (try simp only [Act.put])
          refine wpOU_done ?_
          go_wp2_with fail
          go_meet
          case rel => exact ⟨X7, n7, d7, c7, p7, g11, rfl, rfl, HF2.out, HQ2.out, HS2.out⟩
    · (refine wpOU_solo (o := ?_) ?_ ?_; rotate_left 1; (simp only [List.getElem?_toArray, List.getElem?_cons_succ, List.getElem?_cons_zero]; with_reducible rfl))
      intro K hK
      go_simp
      have HS2 : Hid (Below V.heap.size V (v0.alloc (.cells #[.int .u8 125, .string ⟨#[125]⟩, .int .i64 7] 36))) := HS.out.alloc HS.out.size _
      have HE2 : Hid (RowAt (v0.alloc (.cells #[.int .u8 125, .string ⟨#[125]⟩, .int .i64 7] 36)) v0.heap.size 36 #[.int .u8 125, .string ⟨#[125]⟩, .int .i64 7]) := RowAt.new _ _ _
      clear HS
      refine hK.out _ _ HS2.out ?_
      clear hK K
      (try simp only [Act.put, List.setIfInBounds_toArray, List.set_cons_zero, List.set_cons_succ])
      generalize (v0.alloc (.cells #[.int .u8 125, .string ⟨#[125]⟩, .int .i64 7] 36)) = v1 at *
      generalize v0.heap.size = g5 at *
      have HS := HS2; clear HS2
      have HE := HE2; clear HE2
      refine wpOU_two ?_ ?_
      · (refine wpOU_solo (o := ?_) ?_ ?_; rotate_left 1; (simp only [List.getElem?_toArray, List.getElem?_cons_succ, List.getElem?_cons_zero]; with_reducible rfl))
        intro K hK
        go_simp
        have HS2 : Hid (Below V.heap.size V (v1.alloc (.cells #[.int .u8 123, .string ⟨#[123]⟩, .int .i64 (-5)] 36))) := HS.out.alloc HS.out.size _
        have HE2 := Lib.hid (HE.out.alloc (.cells #[.int .u8 123, .string ⟨#[123]⟩, .int .i64 (-5)] 36))
        have HR2 : Hid ((v1.alloc (.cells #[.int .u8 123, .string ⟨#[123]⟩, .int .i64 (-5)] 36)).ownsRow V.heap.size 36 3 (.slice (some ⟨v1.heap.size, 0, none⟩) 1 1) 1 (tkcells [⟨123, ⟨#[123]⟩, -5⟩])) := ⟨rfl, .inr ⟨v1.heap.size, 1, _, rfl, HS.out.size, heap_alloc_new v1 _, Nat.le_refl _, by decide, rfl, rfl⟩⟩
        have h15 : g5 ≠ v1.heap.size := by have := HE.out.lt; omega
        clear HS HE
        refine hK.out _ _ HS2.out ?_
        clear hK K
        (try simp only [Act.put, List.setIfInBounds_toArray, List.set_cons_zero, List.set_cons_succ])
        generalize (v1.alloc (.cells #[.int .u8 123, .string ⟨#[123]⟩, .int .i64 (-5)] 36)) = v2 at *
        generalize v1.heap.size = g1 at *
        have HS := HS2; clear HS2
        have HR := HR2; clear HR2
        have HE := HE2; clear HE2
        refine wpOU_two ?_ ?_
        · (refine wpOU_solo (o := ?_) ?_ ?_; rotate_left 1; (simp only [List.getElem?_toArray, List.getElem?_cons_succ, List.getElem?_cons_zero]; with_reducible rfl))
          intro K hK
          rw [if_pos (by rfl)]
          refine wp_cat _ _ 22 rfl 36 (.agg #[.int .u8 0, .string ⟨#[]⟩, .int .i64 0]) 3 32 Try.underlying22 infoTok rfl (by decide) (by decide) V.heap.size (some ⟨g1, 0, none⟩) 1 1 (tkcells [⟨123, ⟨#[123]⟩, -5⟩]) rfl HR.out _ A nl c (tkcells l) rfl (by rw [tkcells_length, HNL.out]) (by omega) (HL.out _ HS.out) (tk_one _) (by decide) HS.out.size ?_
          intro X3 d3 v3 hown3 hb3 hg3
          have HS2 : Hid (Below V.heap.size V v3) := HS.out.trans hb3
          have HR2 : Hid (v3.ownsRow V.heap.size 36 3 (.slice X3 (1 + nl) d3) (1 + nl) (tkcells (⟨123, ⟨#[123]⟩, -5⟩ :: l))) := by
            have e : tkcells (⟨123, ⟨#[123]⟩, -5⟩ :: l) = tkcells [⟨123, ⟨#[123]⟩, -5⟩] ++ tkcells l := by rw [← tkcells_append]; rfl
            rw [e]; exact hown3
          have HE2 := Lib.hid (HE.out.grown hg3 (fun e => h15 (by have e2 : some g1 = some g5 := e; injection e2 with e2; exact e2.symm)))
          clear HS HR HE hown3 hb3 hg3
          refine hK.out _ _ HS2.out ?_
          clear hK K
          (try simp only [Act.put, List.setIfInBounds_toArray, List.set_cons_zero, List.set_cons_succ])
          have HS := HS2; clear HS2
          have HR := HR2; clear HR2
          have HE := HE2; clear HE2
          refine wpOU_two ?_ ?_
          · (refine wpOU_solo (o := ?_) ?_ ?_; rotate_left 1; (simp only [List.getElem?_toArray, List.getElem?_cons_succ, List.getElem?_cons_zero]; with_reducible rfl))
            intro K hK
            rw [if_pos (by rfl)]
            refine wp_cat _ _ 22 rfl 36 (.agg #[.int .u8 0, .string ⟨#[]⟩, .int .i64 0]) 3 32 Try.underlying22 infoTok rfl (by decide) (by decide) V.heap.size X3 (1 + nl) d3 (tkcells (⟨123, ⟨#[123]⟩, -5⟩ :: l)) rfl HR.out (v3.heap.size) (some ⟨g5, 0, none⟩) 1 1 [.int .u8 125, .string ⟨#[125]⟩, .int .i64 7] rfl rfl (by decide) (fun _ => ⟨g5, 0, rfl, HE.out.lt, fun j u hu => by rw [Nat.zero_add]; exact (HE.out.cell j).trans (by simpa using hu)⟩) (by simp [Value.oneCell']) (by omega) HS.out.size ?_
            intro X6 d6 v4 hown6 hb6 hg6
            have HS2 : Hid (Below V.heap.size V v4) := HS.out.trans hb6
            have HR2 : Hid (v4.ownsRow V.heap.size 36 3 (.slice X6 (1 + nl + 1) d6) (1 + nl + 1) (tkcells (⟨123, ⟨#[123]⟩, -5⟩ :: (l ++ [⟨125, ⟨#[125]⟩, 7⟩])))) := by
              have e : tkcells (⟨123, ⟨#[123]⟩, -5⟩ :: (l ++ [⟨125, ⟨#[125]⟩, 7⟩])) = tkcells (⟨123, ⟨#[123]⟩, -5⟩ :: l) ++ tkcells [⟨125, ⟨#[125]⟩, 7⟩] := by rw [← tkcells_append]; rfl
              rw [e]; exact hown6
            clear HS HR HE hown6 hb6 hg6
            refine hK.out _ _ HS2.out ?_
            clear hK K
            (try simp only [Act.put, List.setIfInBounds_toArray, List.set_cons_zero, List.set_cons_succ])
            have HS := HS2; clear HS2
            have HR := HR2; clear HR2
            refine wpOU_two ?_ ?_
            · (refine wpOU_solo (o := ?_) ?_ ?_; rotate_left 1; (simp only [List.getElem?_toArray, List.getElem?_cons_succ, List.getElem?_cons_zero]; with_reducible rfl))
              intro K hK
              go_simp
              go_at_call 9
              refine (HRD.out X6 d6 v4 (Sl.of_own HR.out)).mono ?_
              rintro e v5 ⟨hb7, X7, n7, d7, c7, p7, rfl, hq7⟩
              have HS2 : Hid (Below V.heap.size V v5) := HS.out.trans (hb7.mono HS.out.size)
              have HQ2 := Lib.hid hq7
              clear HS HR hb7 hq7
              refine hK.out _ _ HS2.out ?_
              clear hK K
              (try simp only [Act.put, List.setIfInBounds_toArray, List.set_cons_zero, List.set_cons_succ])
              have HS := HS2; clear HS2
              have HQ := HQ2; clear HQ2
              iterate 3
                (refine wpOU_step (o := ?_) ?_ ?_; rotate_left 1; (simp only [List.getElem?_toArray, List.getElem?_cons_succ, List.getElem?_cons_zero]; with_reducible rfl))
                (first
                    | (refine wpOU_skip (by rfl) ?_)
                    | (refine wpOU_take (v := ?_) (by rfl) ?_ ?_; rotate_left 1; (intro wx hSx; go_simp; try with_reducible rfl)))
                (try simp only [Act.put, List.setIfInBounds_toArray, List.set_cons_zero, List.set_cons_succ])
              (refine wpOU_solo (o := ?_) ?_ ?_; rotate_left 1; (simp only [List.getElem?_toArray, List.getElem?_cons_succ, List.getElem?_cons_zero]; with_reducible rfl))
              intro K hK
              go_simp
              have HS2 : Hid (Below V.heap.size V (v5.alloc (.cells #[.int .i64 0, .int .i64 0] 27))) := HS.out.alloc HS.out.size _
              have HQ2 := Lib.hid (HQ.out.below ((Below.refl v5.heap.size v5).alloc (Nat.le_refl _) (.cells #[.int .i64 0, .int .i64 0] 27)))
              have HF2 : Hid (RowAt (v5.alloc (.cells #[.int .i64 0, .int .i64 0] 27)) v5.heap.size 27 #[.int .i64 0, .int .i64 0]) := RowAt.new _ _ _
              have HG11 : Hid (V.heap.size ≤ v5.heap.size) := HS.out.size
              clear HS HQ
              refine hK.out _ _ HS2.out ?_
              clear hK K
              (try simp only [Act.put, List.setIfInBounds_toArray, List.set_cons_zero, List.set_cons_succ])
              generalize (v5.alloc (.cells #[.int .i64 0, .int .i64 0] 27)) = v6 at *
              generalize v5.heap.size = g11 at *
              have HS := HS2; clear HS2
              have HF := HF2; clear HF2
              have HQ := HQ2; clear HQ2
              iterate 1
                (refine wpOU_step (o := ?_) ?_ ?_; rotate_left 1; (simp only [List.getElem?_toArray, List.getElem?_cons_succ, List.getElem?_cons_zero]; with_reducible rfl))
                (first
                    | (refine wpOU_skip (by rfl) ?_)
                    | (refine wpOU_take (v := ?_) (by rfl) ?_ ?_; rotate_left 1; (intro wx hSx; go_simp; try with_reducible rfl)))
                (try simp only [Act.put, List.setIfInBounds_toArray, List.set_cons_zero, List.set_cons_succ])
              (refine wpOU_solo (o := ?_) ?_ ?_; rotate_left 1; (simp only [List.getElem?_toArray, List.getElem?_cons_succ, List.getElem?_cons_zero]; with_reducible rfl))
              intro K hK
              rw [if_pos (by rfl)]
              refine wp_store_row _ _ _ rfl g11 #[.int .i64 c7, .int .i64 p7] rfl rfl _ _ HF.out (fault_info _ _) rfl (by simp [Value.oneCell']) ?_
              have HF2 := Lib.hid (HF.out.setRow #[.int .i64 c7, .int .i64 p7])
              have HB2 : Hid (But g11 v6 (v6.setRow g11 #[.int .i64 c7, .int .i64 p7])) := But.setRow _ _ _
              have HS2 : Hid (Below V.heap.size V (v6.setRow g11 #[.int .i64 c7, .int .i64 p7])) := HS.out.trans (below_setRow HG11.out _)
              have HQ2 := Lib.hid (HQ.out.setRow HF.out #[.int .i64 c7, .int .i64 p7])
              clear HS HF HQ
              refine hK.out _ _ HS2.out ?_
              clear hK K
              (try simp only [Act.put])
              refine wpOU_done ?_
              go_wp2_with fail
              go_meet
              case rel => exact ⟨X7, n7, d7, c7, p7, g11, rfl, rfl, HF2.out, HQ2.out, HS2.out⟩
            · (refine wpOU_solo (o := ?_) ?_ ?_; rotate_left 1; (simp only [List.getElem?_toArray, List.getElem?_cons_succ, List.getElem?_cons_zero]; with_reducible rfl))
              intro K hK
              go_simp
              have HS2 : Hid (Below V.heap.size V (v4.alloc (.cells #[.int .i64 0, .int .i64 0] 27))) := HS.out.alloc HS.out.size _
              have HR2 := Lib.hid (HR.out.alloc (.cells #[.int .i64 0, .int .i64 0] 27))
              have HF2 : Hid (RowAt (v4.alloc (.cells #[.int .i64 0, .int .i64 0] 27)) v4.heap.size 27 #[.int .i64 0, .int .i64 0]) := RowAt.new _ _ _
              have HG11 : Hid (V.heap.size ≤ v4.heap.size) := HS.out.size
              clear HS HR
              refine hK.out _ _ HS2.out ?_
              clear hK K
              (try simp only [Act.put, List.setIfInBounds_toArray, List.set_cons_zero, List.set_cons_succ])
              generalize (v4.alloc (.cells #[.int .i64 0, .int .i64 0] 27)) = v5 at *
              generalize v4.heap.size = g11 at *
              have HS := HS2; clear HS2
              have HR := HR2; clear HR2
              have HF := HF2; clear HF2
              (refine wpOU_solo (o := ?_) ?_ ?_; rotate_left 1; (simp only [List.getElem?_toArray, List.getElem?_cons_succ, List.getElem?_cons_zero]; with_reducible rfl))
              intro K hK
              go_simp
              go_at_call 9
              refine (HRD.out X6 d6 v5 (Sl.of_own HR.out)).mono ?_
              rintro e v6 ⟨hb7, X7, n7, d7, c7, p7, rfl, hq7⟩
              have HS2 : Hid (Below V.heap.size V v6) := HS.out.trans (hb7.mono HS.out.size)
              have HQ2 := Lib.hid hq7
              have HF2 := Lib.hid (HF.out.below hb7 HF.out.lt)
              clear HS HR HF hb7 hq7
              refine hK.out _ _ HS2.out ?_
              clear hK K
              (try simp only [Act.put, List.setIfInBounds_toArray, List.set_cons_zero, List.set_cons_succ])
              have HS := HS2; clear HS2
              have HF := HF2; clear HF2
              have HQ := HQ2; clear HQ2
              iterate 3
                (refine wpOU_step (o := ?_) ?_ ?_; rotate_left 1; (simp only [List.getElem?_toArray, List.getElem?_cons_succ, List.getElem?_cons_zero]; with_reducible rfl))
                (first
                    | (refine wpOU_skip (by rfl) ?_)
                    | (refine wpOU_take (v := ?_) (by rfl) ?_ ?_; rotate_left 1; (intro wx hSx; go_simp; try with_reducible rfl)))
                (try simp only [Act.put, List.setIfInBounds_toArray, List.set_cons_zero, List.set_cons_succ])
              iterate 1
                (refine wpOU_step (o := ?_) ?_ ?_; rotate_left 1; (simp only [List.getElem?_toArray, List.getElem?_cons_succ, List.getElem?_cons_zero]; with_reducible rfl))
                (first
                    | (refine wpOU_skip (by rfl) ?_)
                    | (refine wpOU_take (v := ?_) (by rfl) ?_ ?_; rotate_left 1; (intro wx hSx; go_simp; try with_reducible rfl)))
                (try simp only [Act.put, List.setIfInBounds_toArray, List.set_cons_zero, List.set_cons_succ])
              (refine wpOU_solo (o := ?_) ?_ ?_; rotate_left 1; (simp only [List.getElem?_toArray, List.getElem?_cons_succ, List.getElem?_cons_zero]; with_reducible rfl))
              intro K hK
              rw [if_pos (by rfl)]
              refine wp_store_row _ _ _ rfl g11 #[.int .i64 c7, .int .i64 p7] rfl rfl _ _ HF.out (fault_info _ _) rfl (by simp [Value.oneCell']) ?_
              have HF2 := Lib.hid (HF.out.setRow #[.int .i64 c7, .int .i64 p7])
              have HB2 : Hid (But g11 v6 (v6.setRow g11 #[.int .i64 c7, .int .i64 p7])) := But.setRow _ _ _
              have HS2 : Hid (Below V.heap.size V (v6.setRow g11 #[.int .i64 c7, .int .i64 p7])) := HS.out.trans (below_setRow HG11.out _)
              have HQ2 := Lib.hid (HQ.out.setRow HF.out #[.int .i64 c7, .int .i64 p7])
              clear HS HF HQ
              refine hK.out _ _ HS2.out ?_
              clear hK K
              (try simp only [Act.put])
              refine wpOU_done ?_
              go_wp2_with fail
              go_meet
              case rel => exact ⟨X7, n7, d7, c7, p7, g11, rfl, rfl, HF2.out, HQ2.out, HS2.out⟩
          · (refine wpOU_solo (o := ?_) ?_ ?_; rotate_left 1; (simp only [List.getElem?_toArray, List.getElem?_cons_succ, List.getElem?_cons_zero]; with_reducible rfl))
            intro K hK
            go_simp
            have HS2 : Hid (Below V.heap.size V (v3.alloc (.cells #[.int .i64 0, .int .i64 0] 27))) := HS.out.alloc HS.out.size _
            have HR2 := Lib.hid (HR.out.alloc (.cells #[.int .i64 0, .int .i64 0] 27))
            have HE2 := Lib.hid (HE.out.alloc (.cells #[.int .i64 0, .int .i64 0] 27))
            have HF2 : Hid (RowAt (v3.alloc (.cells #[.int .i64 0, .int .i64 0] 27)) v3.heap.size 27 #[.int .i64 0, .int .i64 0]) := RowAt.new _ _ _
            have HG11 : Hid (V.heap.size ≤ v3.heap.size) := HS.out.size
            clear HS HR HE
            refine hK.out _ _ HS2.out ?_
            clear hK K
            (try simp only [Act.put, List.setIfInBounds_toArray, List.set_cons_zero, List.set_cons_succ])
            generalize (v3.alloc (.cells #[.int .i64 0, .int .i64 0] 27)) = v4 at *
            generalize v3.heap.size = g11 at *
            have HS := HS2; clear HS2
            have HR := HR2; clear HR2
            have HE := HE2; clear HE2
            have HF := HF2; clear HF2
            (refine wpOU_solo (o := ?_) ?_ ?_; rotate_left 1; (simp only [List.getElem?_toArray, List.getElem?_cons_succ, List.getElem?_cons_zero]; with_reducible rfl))
            intro K hK
            rw [if_pos (by rfl)]
            refine wp_cat _ _ 22 rfl 36 (.agg #[.int .u8 0, .string ⟨#[]⟩, .int .i64 0]) 3 32 Try.underlying22 infoTok rfl (by decide) (by decide) V.heap.size X3 (1 + nl) d3 (tkcells (⟨123, ⟨#[123]⟩, -5⟩ :: l)) rfl HR.out (v4.heap.size) (some ⟨g5, 0, none⟩) 1 1 [.int .u8 125, .string ⟨#[125]⟩, .int .i64 7] rfl rfl (by decide) (fun _ => ⟨g5, 0, rfl, HE.out.lt, fun j u hu => by rw [Nat.zero_add]; exact (HE.out.cell j).trans (by simpa using hu)⟩) (by simp [Value.oneCell']) (by omega) HS.out.size ?_
            intro X6 d6 v5 hown6 hb6 hg6
            have HS2 : Hid (Below V.heap.size V v5) := HS.out.trans hb6
            have HR2 : Hid (v5.ownsRow V.heap.size 36 3 (.slice X6 (1 + nl + 1) d6) (1 + nl + 1) (tkcells (⟨123, ⟨#[123]⟩, -5⟩ :: (l ++ [⟨125, ⟨#[125]⟩, 7⟩])))) := by
              have e : tkcells (⟨123, ⟨#[123]⟩, -5⟩ :: (l ++ [⟨125, ⟨#[125]⟩, 7⟩])) = tkcells (⟨123, ⟨#[123]⟩, -5⟩ :: l) ++ tkcells [⟨125, ⟨#[125]⟩, 7⟩] := by rw [← tkcells_append]; rfl
              rw [e]; exact hown6
            have HF2 := Lib.hid (HF.out.grown hg6 (own_ne_row HR.out HF.out (by decide)))
            clear HS HR HE HF hown6 hb6 hg6
            refine hK.out _ _ HS2.out ?_
            clear hK K
            (try simp only [Act.put, List.setIfInBounds_toArray, List.set_cons_zero, List.set_cons_succ])
            have HS := HS2; clear HS2
            have HR := HR2; clear HR2
            have HF := HF2; clear HF2
            (refine wpOU_solo (o := ?_) ?_ ?_; rotate_left 1; (simp only [List.getElem?_toArray, List.getElem?_cons_succ, List.getElem?_cons_zero]; with_reducible rfl))
            intro K hK
            go_simp
            go_at_call 9
            refine (HRD.out X6 d6 v5 (Sl.of_own HR.out)).mono ?_
            rintro e v6 ⟨hb7, X7, n7, d7, c7, p7, rfl, hq7⟩
            have HS2 : Hid (Below V.heap.size V v6) := HS.out.trans (hb7.mono HS.out.size)
            have HQ2 := Lib.hid hq7
            have HF2 := Lib.hid (HF.out.below hb7 HF.out.lt)
            clear HS HR HF hb7 hq7
            refine hK.out _ _ HS2.out ?_
            clear hK K
            (try simp only [Act.put, List.setIfInBounds_toArray, List.set_cons_zero, List.set_cons_succ])
            have HS := HS2; clear HS2
            have HF := HF2; clear HF2
            have HQ := HQ2; clear HQ2
            iterate 3
              (refine wpOU_step (o := ?_) ?_ ?_; rotate_left 1; (simp only [List.getElem?_toArray, List.getElem?_cons_succ, List.getElem?_cons_zero]; with_reducible rfl))
              (first
                  | (refine wpOU_skip (by rfl) ?_)
                  | (refine wpOU_take (v := ?_) (by rfl) ?_ ?_; rotate_left 1; (intro wx hSx; go_simp; try with_reducible rfl)))
              (try simp only [Act.put, List.setIfInBounds_toArray, List.set_cons_zero, List.set_cons_succ])
            iterate 1
              (refine wpOU_step (o := ?_) ?_ ?_; rotate_left 1; (simp only [List.getElem?_toArray, List.getElem?_cons_succ, List.getElem?_cons_zero]; with_reducible rfl))
              (first
                  | (refine wpOU_skip (by rfl) ?_)
                  | (refine wpOU_take (v := ?_) (by rfl) ?_ ?_; rotate_left 1; (intro wx hSx; go_simp; try with_reducible rfl)))
              (try simp only [Act.put, List.setIfInBounds_toArray, List.set_cons_zero, List.set_cons_succ])
            (refine wpOU_solo (o := ?_) ?_ ?_; rotate_left 1; (simp only [List.getElem?_toArray, List.getElem?_cons_succ, List.getElem?_cons_zero]; with_reducible rfl))
            intro K hK
            rw [if_pos (by rfl)]
            refine wp_store_row _ _ _ rfl g11 #[.int .i64 c7, .int .i64 p7] rfl rfl _ _ HF.out (fault_info _ _) rfl (by simp [Value.oneCell']) ?_
            have HF2 := Lib.hid (HF.out.setRow #[.int .i64 c7, .int .i64 p7])
            have HB2 : Hid (But g11 v6 (v6.setRow g11 #[.int .i64 c7, .int .i64 p7])) := But.setRow _ _ _
            have HS2 : Hid (Below V.heap.size V (v6.setRow g11 #[.int .i64 c7, .int .i64 p7])) := HS.out.trans (below_setRow HG11.out _)
            have HQ2 := Lib.hid (HQ.out.setRow HF.out #[.int .i64 c7, .int .i64 p7])
            clear HS HF HQ
            refine hK.out _ _ HS2.out ?_
            clear hK K
            (try simp only [Act.put])
            refine wpOU_done ?_
            go_wp2_with fail
            go_meet
            case rel => exact ⟨X7, n7, d7, c7, p7, g11, rfl, rfl, HF2.out, HQ2.out, HS2.out⟩
        · (refine wpOU_solo (o := ?_) ?_ ?_; rotate_left 1; (simp only [List.getElem?_toArray, List.getElem?_cons_succ, List.getElem?_cons_zero]; with_reducible rfl))
          intro K hK
          go_simp
          have HS2 : Hid (Below V.heap.size V (v2.alloc (.cells #[.int .i64 0, .int .i64 0] 27))) := HS.out.alloc HS.out.size _
          have HR2 := Lib.hid (HR.out.alloc (.cells #[.int .i64 0, .int .i64 0] 27))
          have HE2 := Lib.hid (HE.out.alloc (.cells #[.int .i64 0, .int .i64 0] 27))
          have HF2 : Hid (RowAt (v2.alloc (.cells #[.int .i64 0, .int .i64 0] 27)) v2.heap.size 27 #[.int .i64 0, .int .i64 0]) := RowAt.new _ _ _
          have HG11 : Hid (V.heap.size ≤ v2.heap.size) := HS.out.size
          clear HS HR HE
          refine hK.out _ _ HS2.out ?_
          clear hK K
          (try simp only [Act.put, List.setIfInBounds_toArray, List.set_cons_zero, List.set_cons_succ])
          generalize (v2.alloc (.cells #[.int .i64 0, .int .i64 0] 27)) = v3 at *
          generalize v2.heap.size = g11 at *
          have HS := HS2; clear HS2
          have HR := HR2; clear HR2
          have HE := HE2; clear HE2
          have HF := HF2; clear HF2
          (refine wpOU_solo (o := ?_) ?_ ?_; rotate_left 1; (simp only [List.getElem?_toArray, List.getElem?_cons_succ, List.getElem?_cons_zero]; with_reducible rfl))
          intro K hK
          rw [if_pos (by rfl)]
          refine wp_cat _ _ 22 rfl 36 (.agg #[.int .u8 0, .string ⟨#[]⟩, .int .i64 0]) 3 32 Try.underlying22 infoTok rfl (by decide) (by decide) V.heap.size (some ⟨g1, 0, none⟩) 1 1 (tkcells [⟨123, ⟨#[123]⟩, -5⟩]) rfl HR.out _ A nl c (tkcells l) rfl (by rw [tkcells_length, HNL.out]) (by omega) (HL.out _ HS.out) (tk_one _) (by decide) HS.out.size ?_
          intro X3 d3 v4 hown3 hb3 hg3
          have HS2 : Hid (Below V.heap.size V v4) := HS.out.trans hb3
          have HR2 : Hid (v4.ownsRow V.heap.size 36 3 (.slice X3 (1 + nl) d3) (1 + nl) (tkcells (⟨123, ⟨#[123]⟩, -5⟩ :: l))) := by
            have e : tkcells (⟨123, ⟨#[123]⟩, -5⟩ :: l) = tkcells [⟨123, ⟨#[123]⟩, -5⟩] ++ tkcells l := by rw [← tkcells_append]; rfl
            rw [e]; exact hown3
          have HE2 := Lib.hid (HE.out.grown hg3 (fun e => h15 (by have e2 : some g1 = some g5 := e; injection e2 with e2; exact e2.symm)))
          have HF2 := Lib.hid (HF.out.grown hg3 (own_ne_row HR.out HF.out (by decide)))
          clear HS HR HE HF hown3 hb3 hg3
          refine hK.out _ _ HS2.out ?_
          clear hK K
          (try simp only [Act.put, List.setIfInBounds_toArray, List.set_cons_zero, List.set_cons_succ])
          have HS := HS2; clear HS2
          have HR := HR2; clear HR2
          have HE := HE2; clear HE2
          have HF := HF2; clear HF2
          (refine wpOU_solo (o := ?_) ?_ ?_; rotate_left 1; (simp only [List.getElem?_toArray, List.getElem?_cons_succ, List.getElem?_cons_zero]; with_reducible rfl))
          intro K hK
          rw [if_pos (by rfl)]
          refine wp_cat _ _ 22 rfl 36 (.agg #[.int .u8 0, .string ⟨#[]⟩, .int .i64 0]) 3 32 Try.underlying22 infoTok rfl (by decide) (by decide) V.heap.size X3 (1 + nl) d3 (tkcells (⟨123, ⟨#[123]⟩, -5⟩ :: l)) rfl HR.out (v4.heap.size) (some ⟨g5, 0, none⟩) 1 1 [.int .u8 125, .string ⟨#[125]⟩, .int .i64 7] rfl rfl (by decide) (fun _ => ⟨g5, 0, rfl, HE.out.lt, fun j u hu => by rw [Nat.zero_add]; exact (HE.out.cell j).trans (by simpa using hu)⟩) (by simp [Value.oneCell']) (by omega) HS.out.size ?_
          intro X6 d6 v5 hown6 hb6 hg6
          have HS2 : Hid (Below V.heap.size V v5) := HS.out.trans hb6
          have HR2 : Hid (v5.ownsRow V.heap.size 36 3 (.slice X6 (1 + nl + 1) d6) (1 + nl + 1) (tkcells (⟨123, ⟨#[123]⟩, -5⟩ :: (l ++ [⟨125, ⟨#[125]⟩, 7⟩])))) := by
            have e : tkcells (⟨123, ⟨#[123]⟩, -5⟩ :: (l ++ [⟨125, ⟨#[125]⟩, 7⟩])) = tkcells (⟨123, ⟨#[123]⟩, -5⟩ :: l) ++ tkcells [⟨125, ⟨#[125]⟩, 7⟩] := by rw [← tkcells_append]; rfl
            rw [e]; exact hown6
          have HF2 := Lib.hid (HF.out.grown hg6 (own_ne_row HR.out HF.out (by decide)))
          clear HS HR HE HF hown6 hb6 hg6
          refine hK.out _ _ HS2.out ?_
          clear hK K
          (try simp only [Act.put, List.setIfInBounds_toArray, List.set_cons_zero, List.set_cons_succ])
          have HS := HS2; clear HS2
          have HR := HR2; clear HR2
          have HF := HF2; clear HF2
          (refine wpOU_solo (o := ?_) ?_ ?_; rotate_left 1; (simp only [List.getElem?_toArray, List.getElem?_cons_succ, List.getElem?_cons_zero]; with_reducible rfl))
          intro K hK
          go_simp
          go_at_call 9
          refine (HRD.out X6 d6 v5 (Sl.of_own HR.out)).mono ?_
          rintro e v6 ⟨hb7, X7, n7, d7, c7, p7, rfl, hq7⟩
          have HS2 : Hid (Below V.heap.size V v6) := HS.out.trans (hb7.mono HS.out.size)
          have HQ2 := Lib.hid hq7
          have HF2 := Lib.hid (HF.out.below hb7 HF.out.lt)
          clear HS HR HF hb7 hq7
          refine hK.out _ _ HS2.out ?_
          clear hK K
          (try simp only [Act.put, List.setIfInBounds_toArray, List.set_cons_zero, List.set_cons_succ])
          have HS := HS2; clear HS2
          have HF := HF2; clear HF2
          have HQ := HQ2; clear HQ2
          iterate 3
            (refine wpOU_step (o := ?_) ?_ ?_; rotate_left 1; (simp only [List.getElem?_toArray, List.getElem?_cons_succ, List.getElem?_cons_zero]; with_reducible rfl))
            (first
                | (refine wpOU_skip (by rfl) ?_)
                | (refine wpOU_take (v := ?_) (by rfl) ?_ ?_; rotate_left 1; (intro wx hSx; go_simp; try with_reducible rfl)))
            (try simp only [Act.put, List.setIfInBounds_toArray, List.set_cons_zero, List.set_cons_succ])
          iterate 1
            (refine wpOU_step (o := ?_) ?_ ?_; rotate_left 1; (simp only [List.getElem?_toArray, List.getElem?_cons_succ, List.getElem?_cons_zero]; with_reducible rfl))
            (first
                | (refine wpOU_skip (by rfl) ?_)
                | (refine wpOU_take (v := ?_) (by rfl) ?_ ?_; rotate_left 1; (intro wx hSx; go_simp; try with_reducible rfl)))
            (try simp only [Act.put, List.setIfInBounds_toArray, List.set_cons_zero, List.set_cons_succ])
          (refine wpOU_solo (o := ?_) ?_ ?_; rotate_left 1; (simp only [List.getElem?_toArray, List.getElem?_cons_succ, List.getElem?_cons_zero]; with_reducible rfl))
          intro K hK
          rw [if_pos (by rfl)]
          refine wp_store_row _ _ _ rfl g11 #[.int .i64 c7, .int .i64 p7] rfl rfl _ _ HF.out (fault_info _ _) rfl (by simp [Value.oneCell']) ?_
          have HF2 := Lib.hid (HF.out.setRow #[.int .i64 c7, .int .i64 p7])
          have HB2 : Hid (But g11 v6 (v6.setRow g11 #[.int .i64 c7, .int .i64 p7])) := But.setRow _ _ _
          have HS2 : Hid (Below V.heap.size V (v6.setRow g11 #[.int .i64 c7, .int .i64 p7])) := HS.out.trans (below_setRow HG11.out _)
          have HQ2 := Lib.hid (HQ.out.setRow HF.out #[.int .i64 c7, .int .i64 p7])
          clear HS HF HQ
          refine hK.out _ _ HS2.out ?_
          clear hK K
          (try simp only [Act.put])
          refine wpOU_done ?_
          go_wp2_with fail
          go_meet
          case rel => exact ⟨X7, n7, d7, c7, p7, g11, rfl, rfl, HF2.out, HQ2.out, HS2.out⟩
      · (refine wpOU_solo (o := ?_) ?_ ?_; rotate_left 1; (simp only [List.getElem?_toArray, List.getElem?_cons_succ, List.getElem?_cons_zero]; with_reducible rfl))
        intro K hK
        go_simp
        have HS2 : Hid (Below V.heap.size V (v1.alloc (.cells #[.int .i64 0, .int .i64 0] 27))) := HS.out.alloc HS.out.size _
        have HE2 := Lib.hid (HE.out.alloc (.cells #[.int .i64 0, .int .i64 0] 27))
        have HF2 : Hid (RowAt (v1.alloc (.cells #[.int .i64 0, .int .i64 0] 27)) v1.heap.size 27 #[.int .i64 0, .int .i64 0]) := RowAt.new _ _ _
        have HG11 : Hid (V.heap.size ≤ v1.heap.size) := HS.out.size
        clear HS HE
        refine hK.out _ _ HS2.out ?_
        clear hK K
        (try simp only [Act.put, List.setIfInBounds_toArray, List.set_cons_zero, List.set_cons_succ])
        generalize (v1.alloc (.cells #[.int .i64 0, .int .i64 0] 27)) = v2 at *
        generalize v1.heap.size = g11 at *
        have HS := HS2; clear HS2
        have HE := HE2; clear HE2
        have HF := HF2; clear HF2
        (refine wpOU_solo (o := ?_) ?_ ?_; rotate_left 1; (simp only [List.getElem?_toArray, List.getElem?_cons_succ, List.getElem?_cons_zero]; with_reducible rfl))
        intro K hK
        go_simp
        have HS2 : Hid (Below V.heap.size V (v2.alloc (.cells #[.int .u8 123, .string ⟨#[123]⟩, .int .i64 (-5)] 36))) := HS.out.alloc HS.out.size _
        have HE2 := Lib.hid (HE.out.alloc (.cells #[.int .u8 123, .string ⟨#[123]⟩, .int .i64 (-5)] 36))
        have HF2 := Lib.hid (HF.out.alloc (.cells #[.int .u8 123, .string ⟨#[123]⟩, .int .i64 (-5)] 36))
        have HR2 : Hid ((v2.alloc (.cells #[.int .u8 123, .string ⟨#[123]⟩, .int .i64 (-5)] 36)).ownsRow V.heap.size 36 3 (.slice (some ⟨v2.heap.size, 0, none⟩) 1 1) 1 (tkcells [⟨123, ⟨#[123]⟩, -5⟩])) := ⟨rfl, .inr ⟨v2.heap.size, 1, _, rfl, HS.out.size, heap_alloc_new v2 _, Nat.le_refl _, by decide, rfl, rfl⟩⟩
        have h15 : g5 ≠ v2.heap.size := by have := HE.out.lt; omega
        clear HS HE HF
        refine hK.out _ _ HS2.out ?_
        clear hK K
        (try simp only [Act.put, List.setIfInBounds_toArray, List.set_cons_zero, List.set_cons_succ])
        generalize (v2.alloc (.cells #[.int .u8 123, .string ⟨#[123]⟩, .int .i64 (-5)] 36)) = v3 at *
        generalize v2.heap.size = g1 at *
        have HS := HS2; clear HS2
        have HR := HR2; clear HR2
        have HE := HE2; clear HE2
        have HF := HF2; clear HF2
        (refine wpOU_solo (o := ?_) ?_ ?_; rotate_left 1; (simp only [List.getElem?_toArray, List.getElem?_cons_succ, List.getElem?_cons_zero]; with_reducible rfl))
        intro K hK
        rw [if_pos (by rfl)]
        refine wp_cat _ _ 22 rfl 36 (.agg #[.int .u8 0, .string ⟨#[]⟩, .int .i64 0]) 3 32 Try.underlying22 infoTok rfl (by decide) (by decide) V.heap.size (some ⟨g1, 0, none⟩) 1 1 (tkcells [⟨123, ⟨#[123]⟩, -5⟩]) rfl HR.out _ A nl c (tkcells l) rfl (by rw [tkcells_length, HNL.out]) (by omega) (HL.out _ HS.out) (tk_one _) (by decide) HS.out.size ?_
        intro X3 d3 v4 hown3 hb3 hg3
        have HS2 : Hid (Below V.heap.size V v4) := HS.out.trans hb3
        have HR2 : Hid (v4.ownsRow V.heap.size 36 3 (.slice X3 (1 + nl) d3) (1 + nl) (tkcells (⟨123, ⟨#[123]⟩, -5⟩ :: l))) := by
          have e : tkcells (⟨123, ⟨#[123]⟩, -5⟩ :: l) = tkcells [⟨123, ⟨#[123]⟩, -5⟩] ++ tkcells l := by rw [← tkcells_append]; rfl
          rw [e]; exact hown3
        have HE2 := Lib.hid (HE.out.grown hg3 (fun e => h15 (by have e2 : some g1 = some g5 := e; injection e2 with e2; exact e2.symm)))
        have HF2 := Lib.hid (HF.out.grown hg3 (own_ne_row HR.out HF.out (by decide)))
        clear HS HR HE HF hown3 hb3 hg3
        refine hK.out _ _ HS2.out ?_
        clear hK K
        (try simp only [Act.put, List.setIfInBounds_toArray, List.set_cons_zero, List.set_cons_succ])
        have HS := HS2; clear HS2
        have HR := HR2; clear HR2
        have HE := HE2; clear HE2
        have HF := HF2; clear HF2
        (refine wpOU_solo (o := ?_) ?_ ?_; rotate_left 1; (simp only [List.getElem?_toArray, List.getElem?_cons_succ, List.getElem?_cons_zero]; with_reducible rfl))
        intro K hK
        rw [if_pos (by rfl)]
        refine wp_cat _ _ 22 rfl 36 (.agg #[.int .u8 0, .string ⟨#[]⟩, .int .i64 0]) 3 32 Try.underlying22 infoTok rfl (by decide) (by decide) V.heap.size X3 (1 + nl) d3 (tkcells (⟨123, ⟨#[123]⟩, -5⟩ :: l)) rfl HR.out (v4.heap.size) (some ⟨g5, 0, none⟩) 1 1 [.int .u8 125, .string ⟨#[125]⟩, .int .i64 7] rfl rfl (by decide) (fun _ => ⟨g5, 0, rfl, HE.out.lt, fun j u hu => by rw [Nat.zero_add]; exact (HE.out.cell j).trans (by simpa using hu)⟩) (by simp [Value.oneCell']) (by omega) HS.out.size ?_
        intro X6 d6 v5 hown6 hb6 hg6
        have HS2 : Hid (Below V.heap.size V v5) := HS.out.trans hb6
        have HR2 : Hid (v5.ownsRow V.heap.size 36 3 (.slice X6 (1 + nl + 1) d6) (1 + nl + 1) (tkcells (⟨123, ⟨#[123]⟩, -5⟩ :: (l ++ [⟨125, ⟨#[125]⟩, 7⟩])))) := by
          have e : tkcells (⟨123, ⟨#[123]⟩, -5⟩ :: (l ++ [⟨125, ⟨#[125]⟩, 7⟩])) = tkcells (⟨123, ⟨#[123]⟩, -5⟩ :: l) ++ tkcells [⟨125, ⟨#[125]⟩, 7⟩] := by rw [← tkcells_append]; rfl
          rw [e]; exact hown6
        have HF2 := Lib.hid (HF.out.grown hg6 (own_ne_row HR.out HF.out (by decide)))
        clear HS HR HE HF hown6 hb6 hg6
        refine hK.out _ _ HS2.out ?_
        clear hK K
        (try simp only [Act.put, List.setIfInBounds_toArray, List.set_cons_zero, List.set_cons_succ])
        have HS := HS2; clear HS2
        have HR := HR2; clear HR2
        have HF := HF2; clear HF2
        (refine wpOU_solo (o := ?_) ?_ ?_; rotate_left 1; (simp only [List.getElem?_toArray, List.getElem?_cons_succ, List.getElem?_cons_zero]; with_reducible rfl))
        intro K hK
        go_simp
        go_at_call 9
        refine (HRD.out X6 d6 v5 (Sl.of_own HR.out)).mono ?_
        rintro e v6 ⟨hb7, X7, n7, d7, c7, p7, rfl, hq7⟩
        have HS2 : Hid (Below V.heap.size V v6) := HS.out.trans (hb7.mono HS.out.size)
        have HQ2 := Lib.hid hq7
        have HF2 := Lib.hid (HF.out.below hb7 HF.out.lt)
        clear HS HR HF hb7 hq7
        refine hK.out _ _ HS2.out ?_
        clear hK K
        (try simp only [Act.put, List.setIfInBounds_toArray, List.set_cons_zero, List.set_cons_succ])
        have HS := HS2; clear HS2
        have HF := HF2; clear HF2
        have HQ := HQ2; clear HQ2
        iterate 3
          (refine wpOU_step (o := ?_) ?_ ?_; rotate_left 1; (simp only [List.getElem?_toArray, List.getElem?_cons_succ, List.getElem?_cons_zero]; with_reducible rfl))
          (first
              | (refine wpOU_skip (by rfl) ?_)
              | (refine wpOU_take (v := ?_) (by rfl) ?_ ?_; rotate_left 1; (intro wx hSx; go_simp; try with_reducible rfl)))
          (try simp only [Act.put, List.setIfInBounds_toArray, List.set_cons_zero, List.set_cons_succ])
        iterate 1
          (refine wpOU_step (o := ?_) ?_ ?_; rotate_left 1; (simp only [List.getElem?_toArray, List.getElem?_cons_succ, List.getElem?_cons_zero]; with_reducible rfl))
          (first
              | (refine wpOU_skip (by rfl) ?_)
              | (refine wpOU_take (v := ?_) (by rfl) ?_ ?_; rotate_left 1; (intro wx hSx; go_simp; try with_reducible rfl)))
          (try simp only [Act.put, List.setIfInBounds_toArray, List.set_cons_zero, List.set_cons_succ])
        (refine wpOU_solo (o := ?_) ?_ ?_; rotate_left 1; (simp only [List.getElem?_toArray, List.getElem?_cons_succ, List.getElem?_cons_zero]; with_reducible rfl))
        intro K hK
        rw [if_pos (by rfl)]
        refine wp_store_row _ _ _ rfl g11 #[.int .i64 c7, .int .i64 p7] rfl rfl _ _ HF.out (fault_info _ _) rfl (by simp [Value.oneCell']) ?_
        have HF2 := Lib.hid (HF.out.setRow #[.int .i64 c7, .int .i64 p7])
        have HB2 : Hid (But g11 v6 (v6.setRow g11 #[.int .i64 c7, .int .i64 p7])) := But.setRow _ _ _
        have HS2 : Hid (Below V.heap.size V (v6.setRow g11 #[.int .i64 c7, .int .i64 p7])) := HS.out.trans (below_setRow HG11.out _)
        have HQ2 := Lib.hid (HQ.out.setRow HF.out #[.int .i64 c7, .int .i64 p7])
        clear HS HF HQ
        refine hK.out _ _ HS2.out ?_
        clear hK K
        (try simp only [Act.put])
        refine wpOU_done ?_
        go_wp2_with fail
        go_meet
        case rel => exact ⟨X7, n7, d7, c7, p7, g11, rfl, rfl, HF2.out, HQ2.out, HS2.out⟩
    · (refine wpOU_solo (o := ?_) ?_ ?_; rotate_left 1; (simp only [List.getElem?_toArray, List.getElem?_cons_succ, List.getElem?_cons_zero]; with_reducible rfl))
      intro K hK
      go_simp
      have HS2 : Hid (Below V.heap.size V (v0.alloc (.cells #[.int .i64 0, .int .i64 0] 27))) := HS.out.alloc HS.out.size _
      have HF2 : Hid (RowAt (v0.alloc (.cells #[.int .i64 0, .int .i64 0] 27)) v0.heap.size 27 #[.int .i64 0, .int .i64 0]) := RowAt.new _ _ _
      have HG11 : Hid (V.heap.size ≤ v0.heap.size) := HS.out.size
      clear HS
      refine hK.out _ _ HS2.out ?_
      clear hK K
      (try simp only [Act.put, List.setIfInBounds_toArray, List.set_cons_zero, List.set_cons_succ])
      generalize (v0.alloc (.cells #[.int .i64 0, .int .i64 0] 27)) = v1 at *
      generalize v0.heap.size = g11 at *
      have HS := HS2; clear HS2
      have HF := HF2; clear HF2
      refine wpOU_two ?_ ?_
      · (refine wpOU_solo (o := ?_) ?_ ?_; rotate_left 1; (simp only [List.getElem?_toArray, List.getElem?_cons_succ, List.getElem?_cons_zero]; with_reducible rfl))
        intro K hK
        go_simp
        have HS2 : Hid (Below V.heap.size V (v1.alloc (.cells #[.int .u8 123, .string ⟨#[123]⟩, .int .i64 (-5)] 36))) := HS.out.alloc HS.out.size _
        have HF2 := Lib.hid (HF.out.alloc (.cells #[.int .u8 123, .string ⟨#[123]⟩, .int .i64 (-5)] 36))
        have HR2 : Hid ((v1.alloc (.cells #[.int .u8 123, .string ⟨#[123]⟩, .int .i64 (-5)] 36)).ownsRow V.heap.size 36 3 (.slice (some ⟨v1.heap.size, 0, none⟩) 1 1) 1 (tkcells [⟨123, ⟨#[123]⟩, -5⟩])) := ⟨rfl, .inr ⟨v1.heap.size, 1, _, rfl, HS.out.size, heap_alloc_new v1 _, Nat.le_refl _, by decide, rfl, rfl⟩⟩
        clear HS HF
        refine hK.out _ _ HS2.out ?_
        clear hK K
        (try simp only [Act.put, List.setIfInBounds_toArray, List.set_cons_zero, List.set_cons_succ])
        generalize (v1.alloc (.cells #[.int .u8 123, .string ⟨#[123]⟩, .int .i64 (-5)] 36)) = v2 at *
        generalize v1.heap.size = g1 at *
        have HS := HS2; clear HS2
        have HR := HR2; clear HR2
        have HF := HF2; clear HF2
        refine wpOU_two ?_ ?_
        · (refine wpOU_solo (o := ?_) ?_ ?_; rotate_left 1; (simp only [List.getElem?_toArray, List.getElem?_cons_succ, List.getElem?_cons_zero]; with_reducible rfl))
          intro K hK
          rw [if_pos (by rfl)]
          refine wp_cat _ _ 22 rfl 36 (.agg #[.int .u8 0, .string ⟨#[]⟩, .int .i64 0]) 3 32 Try.underlying22 infoTok rfl (by decide) (by decide) V.heap.size (some ⟨g1, 0, none⟩) 1 1 (tkcells [⟨123, ⟨#[123]⟩, -5⟩]) rfl HR.out _ A nl c (tkcells l) rfl (by rw [tkcells_length, HNL.out]) (by omega) (HL.out _ HS.out) (tk_one _) (by decide) HS.out.size ?_
          intro X3 d3 v3 hown3 hb3 hg3
          have HS2 : Hid (Below V.heap.size V v3) := HS.out.trans hb3
          have HR2 : Hid (v3.ownsRow V.heap.size 36 3 (.slice X3 (1 + nl) d3) (1 + nl) (tkcells (⟨123, ⟨#[123]⟩, -5⟩ :: l))) := by
            have e : tkcells (⟨123, ⟨#[123]⟩, -5⟩ :: l) = tkcells [⟨123, ⟨#[123]⟩, -5⟩] ++ tkcells l := by rw [← tkcells_append]; rfl
            rw [e]; exact hown3
          have HF2 := Lib.hid (HF.out.grown hg3 (own_ne_row HR.out HF.out (by decide)))
          clear HS HR HF hown3 hb3 hg3
          refine hK.out _ _ HS2.out ?_
          clear hK K
          (try simp only [Act.put, List.setIfInBounds_toArray, List.set_cons_zero, List.set_cons_succ])
          have HS := HS2; clear HS2
          have HR := HR2; clear HR2
          have HF := HF2; clear HF2
          (refine wpOU_solo (o := ?_) ?_ ?_; rotate_left 1; (simp only [List.getElem?_toArray, List.getElem?_cons_succ, List.getElem?_cons_zero]; with_reducible rfl))
          intro K hK
          go_simp
          have HS2 : Hid (Below V.heap.size V (v3.alloc (.cells #[.int .u8 125, .string ⟨#[125]⟩, .int .i64 7] 36))) := HS.out.alloc HS.out.size _
          have HR2 := Lib.hid (HR.out.alloc (.cells #[.int .u8 125, .string ⟨#[125]⟩, .int .i64 7] 36))
          have HF2 := Lib.hid (HF.out.alloc (.cells #[.int .u8 125, .string ⟨#[125]⟩, .int .i64 7] 36))
          have HE2 : Hid (RowAt (v3.alloc (.cells #[.int .u8 125, .string ⟨#[125]⟩, .int .i64 7] 36)) v3.heap.size 36 #[.int .u8 125, .string ⟨#[125]⟩, .int .i64 7]) := RowAt.new _ _ _
          clear HS HR HF
          refine hK.out _ _ HS2.out ?_
          clear hK K
          (try simp only [Act.put, List.setIfInBounds_toArray, List.set_cons_zero, List.set_cons_succ])
          generalize (v3.alloc (.cells #[.int .u8 125, .string ⟨#[125]⟩, .int .i64 7] 36)) = v4 at *
          generalize v3.heap.size = g5 at *
          have HS := HS2; clear HS2
          have HR := HR2; clear HR2
          have HE := HE2; clear HE2
          have HF := HF2; clear HF2
          (refine wpOU_solo (o := ?_) ?_ ?_; rotate_left 1; (simp only [List.getElem?_toArray, List.getElem?_cons_succ, List.getElem?_cons_zero]; with_reducible rfl))
          intro K hK
          rw [if_pos (by rfl)]
          refine wp_cat _ _ 22 rfl 36 (.agg #[.int .u8 0, .string ⟨#[]⟩, .int .i64 0]) 3 32 Try.underlying22 infoTok rfl (by decide) (by decide) V.heap.size X3 (1 + nl) d3 (tkcells (⟨123, ⟨#[123]⟩, -5⟩ :: l)) rfl HR.out (v4.heap.size) (some ⟨g5, 0, none⟩) 1 1 [.int .u8 125, .string ⟨#[125]⟩, .int .i64 7] rfl rfl (by decide) (fun _ => ⟨g5, 0, rfl, HE.out.lt, fun j u hu => by rw [Nat.zero_add]; exact (HE.out.cell j).trans (by simpa using hu)⟩) (by simp [Value.oneCell']) (by omega) HS.out.size ?_
          intro X6 d6 v5 hown6 hb6 hg6
          have HS2 : Hid (Below V.heap.size V v5) := HS.out.trans hb6
          have HR2 : Hid (v5.ownsRow V.heap.size 36 3 (.slice X6 (1 + nl + 1) d6) (1 + nl + 1) (tkcells (⟨123, ⟨#[123]⟩, -5⟩ :: (l ++ [⟨125, ⟨#[125]⟩, 7⟩])))) := by
            have e : tkcells (⟨123, ⟨#[123]⟩, -5⟩ :: (l ++ [⟨125, ⟨#[125]⟩, 7⟩])) = tkcells (⟨123, ⟨#[123]⟩, -5⟩ :: l) ++ tkcells [⟨125, ⟨#[125]⟩, 7⟩] := by rw [← tkcells_append]; rfl
            rw [e]; exact hown6
          have HF2 := Lib.hid (HF.out.grown hg6 (own_ne_row HR.out HF.out (by decide)))
          clear HS HR HE HF hown6 hb6 hg6
          refine hK.out _ _ HS2.out ?_
          clear hK K
          (try simp only [Act.put, List.setIfInBounds_toArray, List.set_cons_zero, List.set_cons_succ])
          have HS := HS2; clear HS2
          have HR := HR2; clear HR2
          have HF := HF2; clear HF2
          (refine wpOU_solo (o := ?_) ?_ ?_; rotate_left 1; (simp only [List.getElem?_toArray, List.getElem?_cons_succ, List.getElem?_cons_zero]; with_reducible rfl))
          intro K hK
          go_simp
          go_at_call 9
          refine (HRD.out X6 d6 v5 (Sl.of_own HR.out)).mono ?_
          rintro e v6 ⟨hb7, X7, n7, d7, c7, p7, rfl, hq7⟩
          have HS2 : Hid (Below V.heap.size V v6) := HS.out.trans (hb7.mono HS.out.size)
          have HQ2 := Lib.hid hq7
          have HF2 := Lib.hid (HF.out.below hb7 HF.out.lt)
          clear HS HR HF hb7 hq7
          refine hK.out _ _ HS2.out ?_
          clear hK K
          (try simp only [Act.put, List.setIfInBounds_toArray, List.set_cons_zero, List.set_cons_succ])
          have HS := HS2; clear HS2
          have HF := HF2; clear HF2
          have HQ := HQ2; clear HQ2
          iterate 3
            (refine wpOU_step (o := ?_) ?_ ?_; rotate_left 1; (simp only [List.getElem?_toArray, List.getElem?_cons_succ, List.getElem?_cons_zero]; with_reducible rfl))
            (first
                | (refine wpOU_skip (by rfl) ?_)
                | (refine wpOU_take (v := ?_) (by rfl) ?_ ?_; rotate_left 1; (intro wx hSx; go_simp; try with_reducible rfl)))
            (try simp only [Act.put, List.setIfInBounds_toArray, List.set_cons_zero, List.set_cons_succ])
          iterate 1
            (refine wpOU_step (o := ?_) ?_ ?_; rotate_left 1; (simp only [List.getElem?_toArray, List.getElem?_cons_succ, List.getElem?_cons_zero]; with_reducible rfl))
            (first
                | (refine wpOU_skip (by rfl) ?_)
                | (refine wpOU_take (v := ?_) (by rfl) ?_ ?_; rotate_left 1; (intro wx hSx; go_simp; try with_reducible rfl)))
            (try simp only [Act.put, List.setIfInBounds_toArray, List.set_cons_zero, List.set_cons_succ])
          (refine wpOU_solo (o := ?_) ?_ ?_; rotate_left 1; (simp only [List.getElem?_toArray, List.getElem?_cons_succ, List.getElem?_cons_zero]; with_reducible rfl))
          intro K hK
          rw [if_pos (by rfl)]
          refine wp_store_row _ _ _ rfl g11 #[.int .i64 c7, .int .i64 p7] rfl rfl _ _ HF.out (fault_info _ _) rfl (by simp [Value.oneCell']) ?_
          have HF2 := Lib.hid (HF.out.setRow #[.int .i64 c7, .int .i64 p7])
          have HB2 : Hid (But g11 v6 (v6.setRow g11 #[.int .i64 c7, .int .i64 p7])) := But.setRow _ _ _
          have HS2 : Hid (Below V.heap.size V (v6.setRow g11 #[.int .i64 c7, .int .i64 p7])) := HS.out.trans (below_setRow HG11.out _)
          have HQ2 := Lib.hid (HQ.out.setRow HF.out #[.int .i64 c7, .int .i64 p7])
          clear HS HF HQ
          refine hK.out _ _ HS2.out ?_
          clear hK K
          (try simp only [Act.put])
          refine wpOU_done ?_
          go_wp2_with fail
          go_meet
          case rel => exact ⟨X7, n7, d7, c7, p7, g11, rfl, rfl, HF2.out, HQ2.out, HS2.out⟩
        · (refine wpOU_solo (o := ?_) ?_ ?_; rotate_left 1; (simp only [List.getElem?_toArray, List.getElem?_cons_succ, List.getElem?_cons_zero]; with_reducible rfl))
          intro K hK
          go_simp
          have HS2 : Hid (Below V.heap.size V (v2.alloc (.cells #[.int .u8 125, .string ⟨#[125]⟩, .int .i64 7] 36))) := HS.out.alloc HS.out.size _
          have HR2 := Lib.hid (HR.out.alloc (.cells #[.int .u8 125, .string ⟨#[125]⟩, .int .i64 7] 36))
          have HF2 := Lib.hid (HF.out.alloc (.cells #[.int .u8 125, .string ⟨#[125]⟩, .int .i64 7] 36))
          have HE2 : Hid (RowAt (v2.alloc (.cells #[.int .u8 125, .string ⟨#[125]⟩, .int .i64 7] 36)) v2.heap.size 36 #[.int .u8 125, .string ⟨#[125]⟩, .int .i64 7]) := RowAt.new _ _ _
          have h15 : v2.heap.size ≠ g1 := by have := (HR.out.lt g1 rfl).2; omega
          clear HS HR HF
          refine hK.out _ _ HS2.out ?_
          clear hK K
          (try simp only [Act.put, List.setIfInBounds_toArray, List.set_cons_zero, List.set_cons_succ])
          generalize (v2.alloc (.cells #[.int .u8 125, .string ⟨#[125]⟩, .int .i64 7] 36)) = v3 at *
          generalize v2.heap.size = g5 at *
          have HS := HS2; clear HS2
          have HR := HR2; clear HR2
          have HE := HE2; clear HE2
          have HF := HF2; clear HF2
          (refine wpOU_solo (o := ?_) ?_ ?_; rotate_left 1; (simp only [List.getElem?_toArray, List.getElem?_cons_succ, List.getElem?_cons_zero]; with_reducible rfl))
          intro K hK
          rw [if_pos (by rfl)]
          refine wp_cat _ _ 22 rfl 36 (.agg #[.int .u8 0, .string ⟨#[]⟩, .int .i64 0]) 3 32 Try.underlying22 infoTok rfl (by decide) (by decide) V.heap.size (some ⟨g1, 0, none⟩) 1 1 (tkcells [⟨123, ⟨#[123]⟩, -5⟩]) rfl HR.out _ A nl c (tkcells l) rfl (by rw [tkcells_length, HNL.out]) (by omega) (HL.out _ HS.out) (tk_one _) (by decide) HS.out.size ?_
          intro X3 d3 v4 hown3 hb3 hg3
          have HS2 : Hid (Below V.heap.size V v4) := HS.out.trans hb3
          have HR2 : Hid (v4.ownsRow V.heap.size 36 3 (.slice X3 (1 + nl) d3) (1 + nl) (tkcells (⟨123, ⟨#[123]⟩, -5⟩ :: l))) := by
            have e : tkcells (⟨123, ⟨#[123]⟩, -5⟩ :: l) = tkcells [⟨123, ⟨#[123]⟩, -5⟩] ++ tkcells l := by rw [← tkcells_append]; rfl
            rw [e]; exact hown3
          have HE2 := Lib.hid (HE.out.grown hg3 (fun e => h15 (by have e2 : some g1 = some g5 := e; injection e2 with e2; exact e2.symm)))
          have HF2 := Lib.hid (HF.out.grown hg3 (own_ne_row HR.out HF.out (by decide)))
          clear HS HR HE HF hown3 hb3 hg3
          refine hK.out _ _ HS2.out ?_
          clear hK K
          (try simp only [Act.put, List.setIfInBounds_toArray, List.set_cons_zero, List.set_cons_succ])
          have HS := HS2; clear HS2
          have HR := HR2; clear HR2
          have HE := HE2; clear HE2
          have HF := HF2; clear HF2
          (refine wpOU_solo (o := ?_) ?_ ?_; rotate_left 1; (simp only [List.getElem?_toArray, List.getElem?_cons_succ, List.getElem?_cons_zero]; with_reducible rfl))
          intro K hK
          rw [if_pos (by rfl)]
          refine wp_cat _ _ 22 rfl 36 (.agg #[.int .u8 0, .string ⟨#[]⟩, .int .i64 0]) 3 32 Try.underlying22 infoTok rfl (by decide) (by decide) V.heap.size X3 (1 + nl) d3 (tkcells (⟨123, ⟨#[123]⟩, -5⟩ :: l)) rfl HR.out (v4.heap.size) (some ⟨g5, 0, none⟩) 1 1 [.int .u8 125, .string ⟨#[125]⟩, .int .i64 7] rfl rfl (by decide) (fun _ => ⟨g5, 0, rfl, HE.out.lt, fun j u hu => by rw [Nat.zero_add]; exact (HE.out.cell j).trans (by simpa using hu)⟩) (by simp [Value.oneCell']) (by omega) HS.out.size ?_
          intro X6 d6 v5 hown6 hb6 hg6
          have HS2 : Hid (Below V.heap.size V v5) := HS.out.trans hb6
          have HR2 : Hid (v5.ownsRow V.heap.size 36 3 (.slice X6 (1 + nl + 1) d6) (1 + nl + 1) (tkcells (⟨123, ⟨#[123]⟩, -5⟩ :: (l ++ [⟨125, ⟨#[125]⟩, 7⟩])))) := by
            have e : tkcells (⟨123, ⟨#[123]⟩, -5⟩ :: (l ++ [⟨125, ⟨#[125]⟩, 7⟩])) = tkcells (⟨123, ⟨#[123]⟩, -5⟩ :: l) ++ tkcells [⟨125, ⟨#[125]⟩, 7⟩] := by rw [← tkcells_append]; rfl
            rw [e]; exact hown6
          have HF2 := Lib.hid (HF.out.grown hg6 (own_ne_row HR.out HF.out (by decide)))
          clear HS HR HE HF hown6 hb6 hg6
          refine hK.out _ _ HS2.out ?_
          clear hK K
          (try simp only [Act.put, List.setIfInBounds_toArray, List.set_cons_zero, List.set_cons_succ])
          have HS := HS2; clear HS2
          have HR := HR2; clear HR2
          have HF := HF2; clear HF2
          (refine wpOU_solo (o := ?_) ?_ ?_; rotate_left 1; (simp only [List.getElem?_toArray, List.getElem?_cons_succ, List.getElem?_cons_zero]; with_reducible rfl))
          intro K hK
          go_simp
          go_at_call 9
          refine (HRD.out X6 d6 v5 (Sl.of_own HR.out)).mono ?_
          rintro e v6 ⟨hb7, X7, n7, d7, c7, p7, rfl, hq7⟩
          have HS2 : Hid (Below V.heap.size V v6) := HS.out.trans (hb7.mono HS.out.size)
          have HQ2 := Lib.hid hq7
          have HF2 := Lib.hid (HF.out.below hb7 HF.out.lt)
          clear HS HR HF hb7 hq7
          refine hK.out _ _ HS2.out ?_
          clear hK K
          (try simp only [Act.put, List.setIfInBounds_toArray, List.set_cons_zero, List.set_cons_succ])
          have HS := HS2; clear HS2
          have HF := HF2; clear HF2
          have HQ := HQ2; clear HQ2
          iterate 3
            (refine wpOU_step (o := ?_) ?_ ?_; rotate_left 1; (simp only [List.getElem?_toArray, List.getElem?_cons_succ, List.getElem?_cons_zero]; with_reducible rfl))
            (first
                | (refine wpOU_skip (by rfl) ?_)
                | (refine wpOU_take (v := ?_) (by rfl) ?_ ?_; rotate_left 1; (intro wx hSx; go_simp; try with_reducible rfl)))
            (try simp only [Act.put, List.setIfInBounds_toArray, List.set_cons_zero, List.set_cons_succ])
          iterate 1
            (refine wpOU_step (o := ?_) ?_ ?_; rotate_left 1; (simp only [List.getElem?_toArray, List.getElem?_cons_succ, List.getElem?_cons_zero]; with_reducible rfl))
            (first
                | (refine wpOU_skip (by rfl) ?_)
                | (refine wpOU_take (v := ?_) (by rfl) ?_ ?_; rotate_left 1; (intro wx hSx; go_simp; try with_reducible rfl)))
            (try simp only [Act.put, List.setIfInBounds_toArray, List.set_cons_zero, List.set_cons_succ])
          (refine wpOU_solo (o := ?_) ?_ ?_; rotate_left 1; (simp only [List.getElem?_toArray, List.getElem?_cons_succ, List.getElem?_cons_zero]; with_reducible rfl))
          intro K hK
          rw [if_pos (by rfl)]
          refine wp_store_row _ _ _ rfl g11 #[.int .i64 c7, .int .i64 p7] rfl rfl _ _ HF.out (fault_info _ _) rfl (by simp [Value.oneCell']) ?_
          have HF2 := Lib.hid (HF.out.setRow #[.int .i64 c7, .int .i64 p7])
          have HB2 : Hid (But g11 v6 (v6.setRow g11 #[.int .i64 c7, .int .i64 p7])) := But.setRow _ _ _
          have HS2 : Hid (Below V.heap.size V (v6.setRow g11 #[.int .i64 c7, .int .i64 p7])) := HS.out.trans (below_setRow HG11.out _)
          have HQ2 := Lib.hid (HQ.out.setRow HF.out #[.int .i64 c7, .int .i64 p7])
          clear HS HF HQ
          refine hK.out _ _ HS2.out ?_
          clear hK K
          (try simp only [Act.put])
          refine wpOU_done ?_
          go_wp2_with fail
          go_meet
          case rel => exact ⟨X7, n7, d7, c7, p7, g11, rfl, rfl, HF2.out, HQ2.out, HS2.out⟩
      · (refine wpOU_solo (o := ?_) ?_ ?_; rotate_left 1; (simp only [List.getElem?_toArray, List.getElem?_cons_succ, List.getElem?_cons_zero]; with_reducible rfl))
        intro K hK
        go_simp
        have HS2 : Hid (Below V.heap.size V (v1.alloc (.cells #[.int .u8 125, .string ⟨#[125]⟩, .int .i64 7] 36))) := HS.out.alloc HS.out.size _
        have HF2 := Lib.hid (HF.out.alloc (.cells #[.int .u8 125, .string ⟨#[125]⟩, .int .i64 7] 36))
        have HE2 : Hid (RowAt (v1.alloc (.cells #[.int .u8 125, .string ⟨#[125]⟩, .int .i64 7] 36)) v1.heap.size 36 #[.int .u8 125, .string ⟨#[125]⟩, .int .i64 7]) := RowAt.new _ _ _
        clear HS HF
        refine hK.out _ _ HS2.out ?_
        clear hK K
        (try simp only [Act.put, List.setIfInBounds_toArray, List.set_cons_zero, List.set_cons_succ])
        generalize (v1.alloc (.cells #[.int .u8 125, .string ⟨#[125]⟩, .int .i64 7] 36)) = v2 at *
        generalize v1.heap.size = g5 at *
        have HS := HS2; clear HS2
        have HE := HE2; clear HE2
        have HF := HF2; clear HF2
        (refine wpOU_solo (o := ?_) ?_ ?_; rotate_left 1; (simp only [List.getElem?_toArray, List.getElem?_cons_succ, List.getElem?_cons_zero]; with_reducible rfl))
        intro K hK
        go_simp
        have HS2 : Hid (Below V.heap.size V (v2.alloc (.cells #[.int .u8 123, .string ⟨#[123]⟩, .int .i64 (-5)] 36))) := HS.out.alloc HS.out.size _
        have HE2 := Lib.hid (HE.out.alloc (.cells #[.int .u8 123, .string ⟨#[123]⟩, .int .i64 (-5)] 36))
        have HF2 := Lib.hid (HF.out.alloc (.cells #[.int .u8 123, .string ⟨#[123]⟩, .int .i64 (-5)] 36))
        have HR2 : Hid ((v2.alloc (.cells #[.int .u8 123, .string ⟨#[123]⟩, .int .i64 (-5)] 36)).ownsRow V.heap.size 36 3 (.slice (some ⟨v2.heap.size, 0, none⟩) 1 1) 1 (tkcells [⟨123, ⟨#[123]⟩, -5⟩])) := ⟨rfl, .inr ⟨v2.heap.size, 1, _, rfl, HS.out.size, heap_alloc_new v2 _, Nat.le_refl _, by decide, rfl, rfl⟩⟩
        have h15 : g5 ≠ v2.heap.size := by have := HE.out.lt; omega
        clear HS HE HF
        refine hK.out _ _ HS2.out ?_
        clear hK K
        (try simp only [Act.put, List.setIfInBounds_toArray, List.set_cons_zero, List.set_cons_succ])
        generalize (v2.alloc (.cells #[.int .u8 123, .string ⟨#[123]⟩, .int .i64 (-5)] 36)) = v3 at *
        generalize v2.heap.size = g1 at *
        have HS := HS2; clear HS2
        have HR := HR2; clear HR2
        have HE := HE2; clear HE2
        have HF := HF2; clear HF2
        (refine wpOU_solo (o := ?_) ?_ ?_; rotate_left 1; (simp only [List.getElem?_toArray, List.getElem?_cons_succ, List.getElem?_cons_zero]; with_reducible rfl))
        intro K hK
        rw [if_pos (by rfl)]
        refine wp_cat _ _ 22 rfl 36 (.agg #[.int .u8 0, .string ⟨#[]⟩, .int .i64 0]) 3 32 Try.underlying22 infoTok rfl (by decide) (by decide) V.heap.size (some ⟨g1, 0, none⟩) 1 1 (tkcells [⟨123, ⟨#[123]⟩, -5⟩]) rfl HR.out _ A nl c (tkcells l) rfl (by rw [tkcells_length, HNL.out]) (by omega) (HL.out _ HS.out) (tk_one _) (by decide) HS.out.size ?_
        intro X3 d3 v4 hown3 hb3 hg3
        have HS2 : Hid (Below V.heap.size V v4) := HS.out.trans hb3
        have HR2 : Hid (v4.ownsRow V.heap.size 36 3 (.slice X3 (1 + nl) d3) (1 + nl) (tkcells (⟨123, ⟨#[123]⟩, -5⟩ :: l))) := by
          have e : tkcells (⟨123, ⟨#[123]⟩, -5⟩ :: l) = tkcells [⟨123, ⟨#[123]⟩, -5⟩] ++ tkcells l := by rw [← tkcells_append]; rfl
          rw [e]; exact hown3
        have HE2 := Lib.hid (HE.out.grown hg3 (fun e => h15 (by have e2 : some g1 = some g5 := e; injection e2 with e2; exact e2.symm)))
        have HF2 := Lib.hid (HF.out.grown hg3 (own_ne_row HR.out HF.out (by decide)))
        clear HS HR HE HF hown3 hb3 hg3
        refine hK.out _ _ HS2.out ?_
        clear hK K
        (try simp only [Act.put, List.setIfInBounds_toArray, List.set_cons_zero, List.set_cons_succ])
        have HS := HS2; clear HS2
        have HR := HR2; clear HR2
        have HE := HE2; clear HE2
        have HF := HF2; clear HF2
        (refine wpOU_solo (o := ?_) ?_ ?_; rotate_left 1; (simp only [List.getElem?_toArray, List.getElem?_cons_succ, List.getElem?_cons_zero]; with_reducible rfl))
        intro K hK
        rw [if_pos (by rfl)]
        refine wp_cat _ _ 22 rfl 36 (.agg #[.int .u8 0, .string ⟨#[]⟩, .int .i64 0]) 3 32 Try.underlying22 infoTok rfl (by decide) (by decide) V.heap.size X3 (1 + nl) d3 (tkcells (⟨123, ⟨#[123]⟩, -5⟩ :: l)) rfl HR.out (v4.heap.size) (some ⟨g5, 0, none⟩) 1 1 [.int .u8 125, .string ⟨#[125]⟩, .int .i64 7] rfl rfl (by decide) (fun _ => ⟨g5, 0, rfl, HE.out.lt, fun j u hu => by rw [Nat.zero_add]; exact (HE.out.cell j).trans (by simpa using hu)⟩) (by simp [Value.oneCell']) (by omega) HS.out.size ?_
        intro X6 d6 v5 hown6 hb6 hg6
        have HS2 : Hid (Below V.heap.size V v5) := HS.out.trans hb6
        have HR2 : Hid (v5.ownsRow V.heap.size 36 3 (.slice X6 (1 + nl + 1) d6) (1 + nl + 1) (tkcells (⟨123, ⟨#[123]⟩, -5⟩ :: (l ++ [⟨125, ⟨#[125]⟩, 7⟩])))) := by
          have e : tkcells (⟨123, ⟨#[123]⟩, -5⟩ :: (l ++ [⟨125, ⟨#[125]⟩, 7⟩])) = tkcells (⟨123, ⟨#[123]⟩, -5⟩ :: l) ++ tkcells [⟨125, ⟨#[125]⟩, 7⟩] := by rw [← tkcells_append]; rfl
          rw [e]; exact hown6
        have HF2 := Lib.hid (HF.out.grown hg6 (own_ne_row HR.out HF.out (by decide)))
        clear HS HR HE HF hown6 hb6 hg6
        refine hK.out _ _ HS2.out ?_
        clear hK K
        (try simp only [Act.put, List.setIfInBounds_toArray, List.set_cons_zero, List.set_cons_succ])
        have HS := HS2; clear HS2
        have HR := HR2; clear HR2
        have HF := HF2; clear HF2
        (refine wpOU_solo (o := ?_) ?_ ?_; rotate_left 1; (simp only [List.getElem?_toArray, List.getElem?_cons_succ, List.getElem?_cons_zero]; with_reducible rfl))
        intro K hK
        go_simp
        go_at_call 9
        refine (HRD.out X6 d6 v5 (Sl.of_own HR.out)).mono ?_
        rintro e v6 ⟨hb7, X7, n7, d7, c7, p7, rfl, hq7⟩
        have HS2 : Hid (Below V.heap.size V v6) := HS.out.trans (hb7.mono HS.out.size)
        have HQ2 := Lib.hid hq7
        have HF2 := Lib.hid (HF.out.below hb7 HF.out.lt)
        clear HS HR HF hb7 hq7
        refine hK.out _ _ HS2.out ?_
        clear hK K
        (try simp only [Act.put, List.setIfInBounds_toArray, List.set_cons_zero, List.set_cons_succ])
        have HS := HS2; clear HS2
        have HF := HF2; clear HF2
        have HQ := HQ2; clear HQ2
        iterate 3
          (refine wpOU_step (o := ?_) ?_ ?_; rotate_left 1; (simp only [List.getElem?_toArray, List.getElem?_cons_succ, List.getElem?_cons_zero]; with_reducible rfl))
          (first
              | (refine wpOU_skip (by rfl) ?_)
              | (refine wpOU_take (v := ?_) (by rfl) ?_ ?_; rotate_left 1; (intro wx hSx; go_simp; try with_reducible rfl)))
          (try simp only [Act.put, List.setIfInBounds_toArray, List.set_cons_zero, List.set_cons_succ])
        iterate 1
          (refine wpOU_step (o := ?_) ?_ ?_; rotate_left 1; (simp only [List.getElem?_toArray, List.getElem?_cons_succ, List.getElem?_cons_zero]; with_reducible rfl))
          (first
              | (refine wpOU_skip (by rfl) ?_)
              | (refine wpOU_take (v := ?_) (by rfl) ?_ ?_; rotate_left 1; (intro wx hSx; go_simp; try with_reducible rfl)))
          (try simp only [Act.put, List.setIfInBounds_toArray, List.set_cons_zero, List.set_cons_succ])
        (refine wpOU_solo (o := ?_) ?_ ?_; rotate_left 1; (simp only [List.getElem?_toArray, List.getElem?_cons_succ, List.getElem?_cons_zero]; with_reducible rfl))
        intro K hK
        rw [if_pos (by rfl)]
        refine wp_store_row _ _ _ rfl g11 #[.int .i64 c7, .int .i64 p7] rfl rfl _ _ HF.out (fault_info _ _) rfl (by simp [Value.oneCell']) ?_
        have HF2 := Lib.hid (HF.out.setRow #[.int .i64 c7, .int .i64 p7])
        have HB2 : Hid (But g11 v6 (v6.setRow g11 #[.int .i64 c7, .int .i64 p7])) := But.setRow _ _ _
        have HS2 : Hid (Below V.heap.size V (v6.setRow g11 #[.int .i64 c7, .int .i64 p7])) := HS.out.trans (below_setRow HG11.out _)
        have HQ2 := Lib.hid (HQ.out.setRow HF.out #[.int .i64 c7, .int .i64 p7])
        clear HS HF HQ
        refine hK.out _ _ HS2.out ?_
        clear hK K
        (try simp only [Act.put])
        refine wpOU_done ?_
        go_wp2_with fail
        go_meet
        case rel => exact ⟨X7, n7, d7, c7, p7, g11, rfl, rfl, HF2.out, HQ2.out, HS2.out⟩
  case rest =>
    clear C0 C1 C2 C3 C4 C5 HL HL0 HRD
    obtain ⟨X3, n3, d3, c3, p3, g12, rfl, rfl, hf12, hrt, hbv3⟩ := hcut
    have HF12 := Lib.hid hf12
    have HRT := Lib.hid hrt
    have HB3 := Lib.hid (HBV.out.trans (hbv3.mono HBV.out.size))
    have HO3 := Lib.hid (HOV.out.below hbv3 HOV.out.lt)
    have HT13 := Lib.hid ((HT1V.out.below hbv3).mono hbv3.size)
    have HT23 := Lib.hid ((HT2V.out.below hbv3).mono hbv3.size)
    clear hf12 hrt hbv3 HOV HT1V HT2V HBV
    have HDC : Hid (∀ W, Trs W W.heap.size X1 us1 → Calls Try.prog 16 #[.slice X1 us1.length d1] W fun e w' => e = .returned (.int .i64 ((dep t1 : Nat) : Int)) ∧ Below W.heap.size W w') := fun W h => by
      have h2 := depth9_any X1 d1 us1 W (by have := HN1.out us1 HU1.out; omega) h HC1.out
      rw [← dep_er us1, HU1.out] at h2
      exact h2
    rcases HHR1.out with ⟨hdp, p, hR⟩ | ⟨hdp, hR⟩
    · rw [hR] at HRT
      obtain ⟨rfl, rfl, rfl, rfl, rfl⟩ := HRT.out
      have hdi : decide ((24 : Int) ≤ ((dep t1 : Nat) : Int)) = true := decide_eq_true (by omega)
      have hdn : (24 : Int) ≤ ((dep t1 : Nat) : Int) := by omega
      clear HRT hR hdp HHR1 HO3 HT23 HRB HN1 HN2 HU1 HU2 HC1 HC2 HA HM HNM HNL
      generalize dep t1 = dp at *
      go_wp2_with fail
      refine (HDC.out _ HT13.out).mono ?_
      rintro e w4 ⟨rfl, hb4⟩
      have HB4 := Lib.hid (HB3.out.trans (hb4.mono HB3.out.size))
      have f0 := ((HF12.out.below hb4 HF12.out.lt).cell 0).trans rfl
      clear hb4
      go_wp2_with fail
      refine (alive9_any _).mono ?_
      rintro e wz ⟨rfl, hb⟩
      have HBZ := Lib.hid (HB4.out.trans (hb.mono HB4.out.size)); clear hb
      go_wp2
      go_ret
      exact ⟨rfl, HBZ.out⟩
    · rw [hR] at HRT
      obtain ⟨rfl, rfl, us, hn3, hus, hcap, htr⟩ := HRT.out
      obtain ⟨A4, c4, ks, rfl, hks⟩ := er_node1 hus
      obtain rfl : n3 = 1 := hn3
      have HK3 : Hid (WK w g9 g12 X1 X2 X3 us1 us2 [.mk ⟨123, ⟨#[123]⟩, -5⟩ A4 c4 ks 7] wc) := ⟨HF12.out, HO3.out, HT13.out, HT23.out, htr, HB3.out⟩
      have HKS := Lib.hid hks
      have hdi : decide ((24 : Int) ≤ ((dep t1 : Nat) : Int)) = false := decide_eq_false (by omega)
      have hdn : ((dep t1 : Nat) : Int) < 24 := by omega
      clear HRT hR hdp HHR1 HO3 HT23 HT13 hus hcap htr hks HF12 HB3
      generalize hdd : dep t1 = dp at *
      clear hdd
      go_wp2_with fail
      refine (HDC.out _ HK3.out.2.2.1).mono ?_
      rintro e w4 ⟨rfl, hb4⟩
      have HK4 := Lib.hid (HK3.out.keep hb4)
      clear hb4 HDC HK3
      have HAL : Hid (∀ W, Below w.heap.size w W → Sl W W.heap.size A (tkcells l)) := fun W h => HA.out.below h
      have HBM : Hid (∀ W, Below w.heap.size w W → Sl W W.heap.size B (tkcells m)) := fun W h => HM.out.below h
      have HL1 : Hid (us1.length ≤ 140 ∧ us2.length ≤ 140) := ⟨Nat.le_trans (length_nodes us1) (HN1.out us1 HU1.out), Nat.le_trans (length_nodes us2) (HN2.out us2 HU2.out)⟩
      have HSB : Hid (∀ X Y e f us3 W, er us3 = t1 ++ t2 → Trs W W.heap.size X us3 → Trs W W.heap.size Y (us1 ++ us2) → Calls Try.prog 18 #[.slice X us3.length e, .slice Y (us1.length + us2.length) f] W fun e w' => e = .returned (.bool true) ∧ Below W.heap.size W w') := fun X Y e f us3 W h3 hx hy => by
        have hee : er us3 = er (us1 ++ us2) := by rw [h3, er_append, HU1.out, HU2.out]
        have hn : (nodes us3).length ≤ 280 := by
          rw [← nodes_er us3, hee, nodes_er, nodes_append, List.length_append]
          have := HN1.out us1 HU1.out; have := HN2.out us2 HU2.out; omega
        have hs := treeSame_any X Y e f us3 (us1 ++ us2) W (by omega) hx hy
        rw [(same_er us3 (us1 ++ us2)).2 hee, List.length_append] at hs
        exact hs
      have HSK : Hid (∀ W, WK w g9 g12 X1 X2 X3 us1 us2 [.mk ⟨123, ⟨#[123]⟩, -5⟩ A4 c4 ks 7] W → Calls Try.prog 18 #[.slice A4 ks.length c4, .slice X1 us1.length d1] W fun e w' => e = .returned (.bool true) ∧ Below W.heap.size W w') := fun W h => by
        have hee : er ks = er us1 := by rw [HKS.out, HU1.out]
        have hn : (nodes ks).length ≤ 140 := HN1.out ks HKS.out
        have hs := treeSame_any A4 X1 c4 d1 ks us1 W (by omega) (h.2.2.2.2.1.kid (x := .mk ⟨123, ⟨#[123]⟩, -5⟩ A4 c4 ks 7) (by simp)) h.2.2.1
        rw [(same_er ks us1).2 hee] at hs
        exact hs
      clear HA HM HN1 HN2 HC1 HC2 HU1 HU2 HKS
      have HBN : Hid (Below w4.heap.size w4 (w4.alloc (.cells #[] 36))) := (Below.refl _ _).alloc (Nat.le_refl _) _
      have HKN := Lib.hid (HK4.out.keep HBN.out)
      have HON : Hid ((w4.alloc (.cells #[] 36)).ownsRow w4.heap.size 36 3 (.slice (some ⟨w4.heap.size, 0, none⟩) 0 0) 0 []) := World.ownsRow_made w4 #[] 0 (Nat.le_refl _) (by decide) rfl
      go_wp2_with (at_builtin; refine wpList_cat rfl _ _ 22 rfl 36 (.agg #[.int .u8 0, .string ⟨#[]⟩, .int .i64 0]) 3 32 Try.underlying22 infoTok rfl (by decide) (by decide) w4.heap.size (some ⟨w4.heap.size, 0, none⟩) 0 0 [] rfl HON.out _ A nl c (tkcells l) rfl (by rw [tkcells_length, HNL.out]) (by omega) (HAL.out _ HKN.out.2.2.2.2.2) (tk_one _) (by decide) HBN.out.size ?_)
      intro X9 e9 w9 hown9 hb9 _
      try simp only [Nat.zero_add, List.nil_append] at hown9
      try simp only [Nat.zero_add]
      have HB9 := Lib.hid (HBN.out.trans hb9)
      have HK9 := Lib.hid (HK4.out.keep HB9.out)
      have HO9 := Lib.hid hown9
      clear hown9 hb9 HBN HKN HON
      go_wp2_with (at_builtin; refine wpList_cat rfl _ _ 22 rfl 36 (.agg #[.int .u8 0, .string ⟨#[]⟩, .int .i64 0]) 3 32 Try.underlying22 infoTok rfl (by decide) (by decide) w4.heap.size X9 nl e9 (tkcells l) rfl HO9.out _ B nm d (tkcells m) rfl (by rw [tkcells_length, HNM.out]) (by omega) (HBM.out _ HK9.out.2.2.2.2.2) (tk_one _) (by omega) HB9.out.size ?_)
      intro X10 e10 w10 hown10 hb10 _
      have HK10 := Lib.hid (HK4.out.keep (HB9.out.trans hb10))
      have HX10 : Hid (Toks w10 X10 (l ++ m)) := by
        rw [← tkcells_append] at hown10
        exact Sl.of_own hown10
      clear hown10 hb10 HO9 HK9 HB9 HK4
      go_wp2_with fail
      refine (HRB.out X10 e10 _ HX10.out).mono ?_
      rintro e w11 ⟨hb11, X11, d11, us3, rfl, hu3, hc3, ht3⟩
      have HK11 := Lib.hid (HK10.out.keep (hb11.alloc hb11.size (.cells #[.int .i64 0, .int .i64 0] 27)))
      have hba : Below w11.heap.size w11 (w11.alloc (.cells #[.int .i64 0, .int .i64 0] 27)) := (Below.refl _ _).alloc (Nat.le_refl _) _
      have HT3 := Lib.hid (Trs.mono (ht3.below hba) hba.size)
      have HU3 := Lib.hid hu3
      have HRF := Lib.hid (RowAt.new w11 27 #[.int .i64 0, .int .i64 0])
      have k0 := (HRF.out.cell 0).trans rfl
      have k1 := (HRF.out.cell 1).trans rfl
      have HBN : Hid (Below (w11.heap.size + 1) (w11.alloc (.cells #[.int .i64 0, .int .i64 0] 27)) ((w11.alloc (.cells #[.int .i64 0, .int .i64 0] 27)).alloc (.cells #[] 38))) := by
        have h := (Below.refl _ (w11.alloc (.cells #[.int .i64 0, .int .i64 0] 27))).alloc (Nat.le_refl _) (.cells #[] 38)
        rw [World.size_alloc] at h
        exact h
      have HON : Hid (((w11.alloc (.cells #[.int .i64 0, .int .i64 0] 27)).alloc (.cells #[] 38)).ownsRow (w11.heap.size + 1) 38 5 (.slice (some ⟨w11.heap.size + 1, 0, none⟩) 0 0) 0 []) := by
        have h := World.ownsRow_made (base := w11.heap.size + 1) (e := 38) (size := 5) (w11.alloc (.cells #[.int .i64 0, .int .i64 0] 27)) #[] 0 (by rw [World.size_alloc]; exact Nat.le_refl _) (by decide) rfl
        rw [World.size_alloc] at h
        exact h
      have HSZ : Hid ((w11.alloc (.cells #[.int .i64 0, .int .i64 0] 27)).heap.size = w11.heap.size + 1) := World.size_alloc _ _
      have HKN := Lib.hid (HK11.out.keep (by rw [HSZ.out]; exact HBN.out))
      clear hb11 hba ht3 hu3 hc3 HRF HX10 HK10 HRB
      go_wp2_with (at_builtin; refine wpList_want (by rfl) ?_; intro K hK; refine wp_cat _ _ 25 rfl 38 (.agg #[.int .u8 0, .string ⟨#[]⟩, .int .i64 0, .slice none 0 0, .int .i64 0]) 5 64 Try.underlying25 infoTree rfl (by decide) (by decide) (w11.heap.size + 1) (some ⟨w11.heap.size + 1, 0, none⟩) 0 0 [] rfl HON.out _ X1 us1.length d1 (tcs us1) rfl (tcs_length us1) (by have := HL1.out; omega) HKN.out.2.2.1.1 (tcs_onecell us1) (by decide) (by simp) ?_)
      intro X13 e13 w13 hown13 hb13 _
      refine hK _ _ ?_
      clear hK K
      try simp only [Nat.zero_add, List.nil_append] at hown13
      try simp only [Nat.zero_add]
      have HB13 := Lib.hid (HBN.out.trans hb13)
      have HK13 := Lib.hid (HK11.out.keep (by rw [HSZ.out]; exact HB13.out))
      have HO13 := Lib.hid hown13
      clear hown13 hb13 HBN HON HKN k0 k1
      go_wp2_with (at_builtin; refine wpList_want (by rfl) ?_; intro K hK; refine wp_cat _ _ 25 rfl 38 (.agg #[.int .u8 0, .string ⟨#[]⟩, .int .i64 0, .slice none 0 0, .int .i64 0]) 5 64 Try.underlying25 infoTree rfl (by decide) (by decide) (w11.heap.size + 1) X13 us1.length e13 (tcs us1) rfl HO13.out _ X2 us2.length d2 (tcs us2) rfl (tcs_length us2) (by have := HL1.out; omega) HK13.out.2.2.2.1.1 (tcs_onecell us2) (by have := HL1.out; omega) (by have := HB13.out.size; rw [HSZ.out] at this; exact this) ?_)
      intro X14 e14 w14 hown14 hb14 _
      refine hK _ _ ?_
      clear hK K
      have HB14 := Lib.hid (HB13.out.trans hb14)
      have HK14 := Lib.hid (HK11.out.keep (by rw [HSZ.out]; exact HB14.out))
      have HT14 : Hid (Trs w14 w14.heap.size X14 (us1 ++ us2)) := by
        rw [← tcs_append] at hown14
        exact Trs.append HK14.out.2.2.1 HK14.out.2.2.2.1 (Sl.of_own hown14)
      have hb14' : Below (w11.alloc (.cells #[.int .i64 0, .int .i64 0] 27)).heap.size (w11.alloc (.cells #[.int .i64 0, .int .i64 0] 27)) w14 := by rw [HSZ.out]; exact HB14.out
      have HT34 := Lib.hid (Trs.mono (HT3.out.below hb14') hb14'.size)
      clear hown14 hb14 hb14' HB13 HB14 HK13 HO13 HK11 HT3 HSZ
      go_wp2_with fail
      refine (HSB.out X11 X14 d11 e14 us3 _ HU3.out HT34.out HT14.out).mono ?_
      rintro e w15 ⟨rfl, hb15⟩
      have HK15 := Lib.hid (HK14.out.keep hb15)
      clear hb15 HT34 HT14 HK14 HU3 HSB
      go_upto_region 12 with fail
      obtain ⟨b, o, rfl, _, _⟩ := HK15.out.2.2.2.2.1.at (k := 0) (by simp)
      obtain ⟨S, HS, HKK, HBEL, keep⟩ := ex_kept w.heap.size (WK w g9 g12 X1 X2 (some ⟨b, o, none⟩) us1 us2 [.mk ⟨123, ⟨#[123]⟩, -5⟩ A4 c4 ks 7]) (fun _ _ h hb => h.keep hb) w w15 HK15.out HK15.out.2.2.2.2.2
      have keepS := keep.out HK15.out.2.2.2.2.2.size
      clear keep
      have D0 : ∀ w', S w' → w'.cell? ⟨g12, 0, none⟩ = some (.int .i64 0) := fun w' h => ((HKK.out w' h).1.cell 0).trans rfl
      have D1 : ∀ w', S w' → w'.cell? ⟨g12, 1, none⟩ = some (.int .i64 0) := fun w' h => ((HKK.out w' h).1.cell 1).trans rfl
      have D2 : ∀ w', S w' → w'.cell? ⟨g9, 0, none⟩ = some (.int .u8 123) := fun w' h => ((HKK.out w' h).2.1.cell 0).trans rfl
      have D3 : ∀ w', S w' → w'.cell? ⟨g9, 1, none⟩ = some (.string ⟨#[123]⟩) := fun w' h => ((HKK.out w' h).2.1.cell 1).trans rfl
      have D4 : ∀ w', S w' → w'.cell? ⟨g9, 2, none⟩ = some (.int .i64 (-5)) := fun w' h => ((HKK.out w' h).2.1.cell 2).trans rfl
      have D5 : ∀ w', S w' → w'.cell? ⟨b, o, none⟩ = some (.int .u8 123) := fun w' h => (HKK.out w' h).root.1
      have D6 : ∀ w', S w' → w'.cell? ⟨b, o + 1, none⟩ = some (.string ⟨#[123]⟩) := fun w' h => (HKK.out w' h).root.2.1
      have D7 : ∀ w', S w' → w'.cell? ⟨b, o + 2, none⟩ = some (.int .i64 (-5)) := fun w' h => (HKK.out w' h).root.2.2.1
      have D8 : ∀ w', S w' → w'.cell? ⟨b, o + 3, none⟩ = some (.slice A4 ks.length c4) := fun w' h => (HKK.out w' h).root.2.2.2.1
      have D9 : ∀ w', S w' → w'.cell? ⟨b, o + 4, none⟩ = some (.int .i64 7) := fun w' h => (HKK.out w' h).root.2.2.2.2
      refine wp_region_ord S [(0, true), (1, true), (2, true), (3, true), (4, true), (5, true), (6, true), (7, true), (8, true), (9, true), (10, true), (11, true), (12, true), (13, true), (14, true), (15, true), (16, true), (17, true), (18, true), (19, true), (20, true), (21, true), (22, true), (23, true), (24, true), (25, true), (26, true), (27, true), (28, true), (29, false), (30, true), (31, true), (32, false), (33, true), (34, true)] (by kernel_rfl) (by kernel_rfl) rfl (by kernel_rfl) HS.out ?_
      iterate 29
        (refine wpOrd_step (o := ?_) ?_ ?_; rotate_left 1; (simp only [List.getElem?_toArray, List.getElem?_cons_succ, List.getElem?_cons_zero]; with_reducible rfl))
        (first
            | (refine wpOrd_skip (by rfl) ?_)
            | (refine wpOrd_take (v := ?_) (by rfl) ?_ ?_; rotate_left 1; (intro wx hSx; have hc_0 := D0 wx hSx; have hc_1 := D1 wx hSx; have hc_2 := D2 wx hSx; have hc_3 := D3 wx hSx; have hc_4 := D4 wx hSx; have hc_5 := D5 wx hSx; have hc_6 := D6 wx hSx; have hc_7 := D7 wx hSx; have hc_8 := D8 wx hSx; have hc_9 := D9 wx hSx; go_simp; try with_reducible rfl)))
        (try simp only [Act.put, List.setIfInBounds_toArray, List.set_cons_zero, List.set_cons_succ])
      (refine wpOrd_solo (o := ?_) ?_ ?_; rotate_left 1; (simp only [List.getElem?_toArray, List.getElem?_cons_succ, List.getElem?_cons_zero]; with_reducible rfl))
      intro K hK
      go_simp
      go_at_call 18
      refine (HSK.out _ (HKK.out _ HS.out)).mono ?_
      rintro e w16 ⟨rfl, hb⟩
      have hS := keepS _ _ HS.out hb
      clear HS
      have HS := Lib.hid hS; clear hS hb
      refine hK.out _ _ HS.out ?_
      clear hK K
      (try simp only [Act.put, List.setIfInBounds_toArray, List.set_cons_zero, List.set_cons_succ])
      iterate 2
        (refine wpOrd_step (o := ?_) ?_ ?_; rotate_left 1; (simp only [List.getElem?_toArray, List.getElem?_cons_succ, List.getElem?_cons_zero]; with_reducible rfl))
        (first
            | (refine wpOrd_skip (by rfl) ?_)
            | (refine wpOrd_take (v := ?_) (by rfl) ?_ ?_; rotate_left 1; (intro wx hSx; have hc_0 := D0 wx hSx; have hc_1 := D1 wx hSx; have hc_2 := D2 wx hSx; have hc_3 := D3 wx hSx; have hc_4 := D4 wx hSx; have hc_5 := D5 wx hSx; have hc_6 := D6 wx hSx; have hc_7 := D7 wx hSx; have hc_8 := D8 wx hSx; have hc_9 := D9 wx hSx; go_simp; try with_reducible rfl)))
        (try simp only [Act.put, List.setIfInBounds_toArray, List.set_cons_zero, List.set_cons_succ])
      (refine wpOrd_solo (o := ?_) ?_ ?_; rotate_left 1; (simp only [List.getElem?_toArray, List.getElem?_cons_succ, List.getElem?_cons_zero]; with_reducible rfl))
      intro K hK
      go_simp
      go_at_call 8
      refine (alive9_any _).mono ?_
      rintro e w17 ⟨rfl, hb⟩
      have hS := keepS _ _ HS.out hb
      clear HS
      have HS := Lib.hid hS; clear hS hb
      refine hK.out _ _ HS.out ?_
      clear hK K
      (try simp only [Act.put, List.setIfInBounds_toArray, List.set_cons_zero, List.set_cons_succ])
      iterate 2
        (refine wpOrd_step (o := ?_) ?_ ?_; rotate_left 1; (simp only [List.getElem?_toArray, List.getElem?_cons_succ, List.getElem?_cons_zero]; with_reducible rfl))
        (first
            | (refine wpOrd_skip (by rfl) ?_)
            | (refine wpOrd_take (v := ?_) (by rfl) ?_ ?_; rotate_left 1; (intro wx hSx; have hc_0 := D0 wx hSx; have hc_1 := D1 wx hSx; have hc_2 := D2 wx hSx; have hc_3 := D3 wx hSx; have hc_4 := D4 wx hSx; have hc_5 := D5 wx hSx; have hc_6 := D6 wx hSx; have hc_7 := D7 wx hSx; have hc_8 := D8 wx hSx; have hc_9 := D9 wx hSx; go_simp; try with_reducible rfl)))
        (try simp only [Act.put, List.setIfInBounds_toArray, List.set_cons_zero, List.set_cons_succ])
      refine wpOrd_done ?_
      go_wp2
      go_ret
      exact ⟨rfl, (HKK.out _ HS.out).2.2.2.2.2⟩

set_option maxRecDepth 100000 in
theorem treeWraps_any (A B : Option Addr) (c d : Nat) (l m : List Tk) (w : World) (hA : Toks w A l) (hB : Toks w B m) (hl : l.length ≤ 1048576) (hm : m.length ≤ 1048576) :
    Calls Try.prog 6 #[.slice A l.length c, .slice B m.length d] w fun e w' => e = .returned (.bool true) ∧ Below w.heap.size w w' := by
  by_cases h : l.length ≤ 140 ∧ m.length ≤ 140 ∧ bigB l = false ∧ bigB m = false ∧ (∃ ts, parse l = .ok ts) ∧ ∃ ts, parse m = .ok ts
  · obtain ⟨h1, h2, h3, h4, ⟨t1, h5⟩, t2, h6⟩ := h
    exact wraps_both A B c d l m w hA hB h1 h2 h3 h4 t1 t2 h5 h6
  · exact wraps_alive A B c d l m w hA hB hl hm h
end Go.Proofs.Ytnaaejemanmgnaa
