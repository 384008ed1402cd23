/-
  What One of package shape and Big of the statements return. Conditions: a factor, or a slice of factors, in memory.
-/
import Derived.Test.YtpgkcddhpeoiiaaDoorShapeH
namespace Go.Proofs.YtpgkcddhpeoiiaaDoor
open Go.RowKit RM

theorem fac_of_row {w : World} {g : Nat} {f : Fac} (h : RowAt w g 36 (fv f)) (hok : FacOk w f) : Facs w (some ⟨g, 0, none⟩) [f] where
  sl := fun _ => ⟨g, 0, rfl, h.lt, fun j u hu => by
    rw [Nat.zero_add]
    have e : fscells [f] = fcells f := by simp [fscells]
    rw [e] at hu
    exact (h.cell j).trans (by unfold fv; simpa using hu)⟩
  ok := fun g hg => by
    rw [List.mem_singleton] at hg
    subst hg; exact hok
theorem infoFac2 : (Tryd.prog.info? 36).map (fun i => (i.zero.isSome, i.size)) = some (true, 67) := by kernel_rfl
/-- A slice of one factor is made. -/
theorem wp_oneF {o : Oper} {a : Act} {w : World} {K : Act → World → Prop} {Q : Exit → Act → World → Prop} (x : Operand) (ho : o.op = .buildSlice 22 1 #[(0, x)])
    (f : Fac) (hl : RW f.l) (hx : a.eval x = .agg (fv f))
    (h : ∀ w', RowAt w' w.heap.size 36 (fv f) → Below w.heap.size w w' → K (a.put o.dst (.slice (some ⟨w.heap.size, 0, none⟩) 1 1)) w') : o.wp Tryd.prog a w K Q := by
  cases hi : Tryd.prog.info? 36 with
  | none => have h0 := infoFac2; rw [hi] at h0; cases h0
  | some i =>
    have h0 := infoFac2
    rw [hi] at h0
    simp only [Option.map_some, Option.some.injEq, Prod.mk.injEq] at h0
    obtain ⟨z, hz⟩ := Option.isSome_iff_exists.1 h0.1
    have hs := h0.2
    have e1 : (Value.agg (fv f)).cells = fv f := rfl
    refine wp_buildSlice 22 36 1 _ ho (fv f) i z Tryd.underlying22 hi hz (by rw [hs]; decide) (by rw [hs]; decide) ?_ ?_
    · have hp : ((#[(0, x)] : Array (Nat × Operand)).map fun (i, x) => (i, a.eval x)).toList = (([Value.agg (fv f)] : List Value).zipIdx 0).map fun x => (x.2, x.1) := by
        simp [hx]
      rw [hp, hs]
      have := Great.fill_whole (s := 67) (by decide) [Value.agg (fv f)] ((Array.range (1 * 67)).map (z.cells[· % z.cells.size]!)) (by
        intro v hv
        rw [List.mem_singleton] at hv
        subst hv
        rw [e1, fv_size f hl]) (by simp)
      rw [this]
      simp [e1]
    · exact h _ (RowAt.new _ _ _) ((Below.refl _ _).alloc (Nat.le_refl _) _)
theorem wpList_oneF {ops : Array Oper} {rest : List Oper} {o : Oper} {a : Act} {w : World} {Q : Exit → Act → World → Prop} (hgd : Region.wanted o (yielded ops a.tmps) = true) (x : Operand) (ho : o.op = .buildSlice 22 1 #[(0, x)])
    (f : Fac) (hl : RW f.l) (hx : a.eval x = .agg (fv f))
    (h : ∀ w', RowAt w' w.heap.size 36 (fv f) → Below w.heap.size w w' → wpList Tryd.prog ops Q rest (a.put o.dst (.slice (some ⟨w.heap.size, 0, none⟩) 1 1)) w') : wpList Tryd.prog ops Q (o :: rest) a w :=
  wpList_wanted hgd fun _ hK => wp_oneF x ho f hl hx fun w' h1 h2 => hK _ _ (h w' h1 h2)

set_option maxRecDepth 8000 in
set_option maxHeartbeats 1000000 in
theorem one_any (f : Fac) (w : World) (hf : FacOk w f) (hm : f.names.length ≤ 65536) :
    Calls Tryd.prog 9 #[.agg (fv f)] w fun e w' => ∃ A' c' gs, e = .returned (.agg (sv false A' gs.length c')) ∧ w'.ownsRow w.heap.size 36 67 (.slice A' gs.length c') gs.length (fscells gs) ∧
      (∀ g ∈ gs, FacO w' w.heap.size g) ∧ gs.map core = [core f] ∧ Below w.heap.size w w' := by
  have hl := hf.rows
  have r0 : RowAt ((w.alloc (.cells (fv f) 36)).alloc (.cells (sv false none 0 0) 24)) w.heap.size 36 (fv f) := (RowAt.new w _ _).alloc _
  have q0 : RowAt ((w.alloc (.cells (fv f) 36)).alloc (.cells (sv false none 0 0) 24)) (w.heap.size + 1) 24 (sv false none 0 0) := by
    have := RowAt.new (w.alloc (.cells (fv f) 36)) 24 (sv false none 0 0)
    simpa using this
  have HB0 : Hid (Below w.heap.size w ((w.alloc (.cells (fv f) 36)).alloc (.cells (sv false none 0 0) 24))) := ((Below.refl _ _).alloc (Nat.le_refl _) _).alloc (by simp) _
  have HD1 : Hid (36 ≠ 24) := by show (36 : Nat) ≠ 24; decide
  have HD3 : Hid (9 ≠ 24) := by show (9 : Nat) ≠ 24; decide
  have HOK : Hid (∀ W, Below w.heap.size w W → FacOk W f) := fun W h => hf.below h
  have HM := Lib.hid hm
  clear hf hm
  go_enter Tryd.func9, Tryd.ntmps9
  go_upto_region 1 with fail
  have hz : (sv false none 0 0) = #[.bool false, .slice none 0 0] := rfl
  rw [← hz]
  clear hz
  generalize (w.alloc (.cells (fv f) 36)).alloc (.cells (sv false none 0 0) 24) = w0 at *
  go_wp2_with (first | (refine wpList_loadFac (by rfl) _ rfl w.heap.size rfl f hl r0 ?_) | (refine wpList_oneF (by rfl) _ rfl f hl rfl ?_; intro w1 r1 hb1))
  have HB1 : Hid (Below w.heap.size w w1) := HB0.out.trans (hb1.mono HB0.out.size)
  have q1 := q0.below hb1 q0.lt
  have hcp := copied_any (some ⟨w0.heap.size, 0, none⟩) 1 [f] w1 (fac_of_row r1 (HOK.out _ HB1.out)) (by simp) (fun g hg => by rw [List.mem_singleton] at hg; subst hg; exact HM.out) (fun h => by cases h)
  clear hb1 r0 q0 HB0 r1
  refine hcp.mono ?_
  rintro e w2 ⟨A2, c2, gs, rfl, hown, hn, hc, hb⟩
  have HB2 : Hid (Below w.heap.size w w2) := HB1.out.trans (hb.mono HB1.out.size)
  have q2 := q1.below hb q1.lt
  have HO := Lib.hid (own_mono hown HB1.out.size)
  have HN : Hid (∀ g ∈ gs, FacO w2 w.heap.size g) := fun g hg => (hn g hg).mono HB1.out.size
  have HC := Lib.hid hc
  clear hown hn hc hb q1 HB1 hcp
  go_wp2_with (refine wpList_storeShape (by rfl) _ _ rfl (w.heap.size + 1) rfl false A2 gs.length c2 rfl _ zero_shape_size q2 ?_; intro w7 q7 he)
  refine bodyPost_ret (ret_shape rfl _ _ (w.heap.size + 1) false A2 gs.length c2 rfl q7) rfl ⟨A2, c2, gs, rfl, ?_, ?_, HC.out, HB2.out.trans (he.below (by omega))⟩
  · exact own_other HO.out he HD1.out q2
  · exact fun g hg => ⟨own_other (HN.out g hg).own he HD3.out q2, (HN.out g hg).rows⟩

/-! Big. -/
def okF (f : Fac) : Bool := decide (f.names.length ≤ 70) && f.names.all fun s => decide (s.size ≤ 40)
def bigB (fs : List Fac) : Bool := decide (12 < fs.length) || !fs.all okF
theorem big_no {fs : List Fac} (h : bigB fs = false) : fs.length ≤ 12 ∧ ∀ f ∈ fs, f.names.length ≤ 70 := by
  unfold bigB at h
  rw [Bool.or_eq_false_iff] at h
  have h1 := h.1
  have h2 := h.2
  rw [decide_eq_false_iff_not] at h1
  rw [Bool.not_eq_false', List.all_eq_true] at h2
  refine ⟨by omega, fun f hf => ?_⟩
  have := h2 f hf
  unfold okF at this
  rw [Bool.and_eq_true, decide_eq_true_eq] at this
  exact this.1
theorem big_bad {fs : List Fac} {k : Nat} (hk : k < fs.length) (h : okF (fs.getD k f0) = false) : bigB fs = true := by
  unfold bigB
  have : fs.all okF = false := by
    rw [List.all_eq_false]
    exact ⟨_, getD_mem hk, by rw [h]; simp⟩
  rw [this]; simp
theorem big_end {fs : List Fac} (h1 : fs.length ≤ 12) (h : ∀ k, k < fs.length → okF (fs.getD k f0) = true) : bigB fs = false := by
  unfold bigB
  have : fs.all okF = true := by
    rw [List.all_eq_true]
    intro x hx
    obtain ⟨k, hk, rfl⟩ := List.mem_iff_getElem.1 hx
    have := h k hk
    rw [List.getD_eq_getElem?_getD, List.getElem?_eq_getElem hk] at this
    simpa using this
  rw [this, decide_eq_false (by omega)]; rfl
theorem okF_long {f : Fac} (h : 70 < f.names.length) : okF f = false := by unfold okF; rw [decide_eq_false (by omega)]; rfl
theorem okF_bad {f : Fac} {k : Nat} (hk : k < f.names.length) (h : 40 < (f.names.getD k ⟨#[]⟩).size) : okF f = false := by
  unfold okF
  have : (f.names.all fun s => decide (s.size ≤ 40)) = false := by
    rw [List.all_eq_false]
    refine ⟨f.names[k], List.getElem_mem hk, ?_⟩
    rw [List.getD_eq_getElem?_getD, List.getElem?_eq_getElem hk] at h
    simp only [Option.getD_some] at h
    simp; omega
  rw [this, Bool.and_false]
theorem okF_end {f : Fac} (h1 : f.names.length ≤ 70) (h : ∀ k, k < f.names.length → ¬ 40 < (f.names.getD k ⟨#[]⟩).size) : okF f = true := by
  unfold okF
  have : (f.names.all fun s => decide (s.size ≤ 40)) = true := by
    rw [List.all_eq_true]
    intro x hx
    obtain ⟨k, hk, rfl⟩ := List.mem_iff_getElem.1 hx
    have := h k hk
    rw [List.getD_eq_getElem?_getD, List.getElem?_eq_getElem hk] at this
    simp only [Option.getD_some] at this
    simp; omega
  rw [this, decide_eq_true h1]; rfl

set_option maxRecDepth 8000 in
set_option maxHeartbeats 2000000 in
theorem big_any (t : Bool) (A : Option Addr) (c : Nat) (fs : List Fac) (w : World) (hF : Facs w A fs) :
    Calls Tryd.prog 5 #[.agg (sv t A fs.length c)] w fun x w' => x = .returned (.bool (bigB fs)) ∧ Below w.heap.size w w' := by
  have r0 := RowAt.new w 24 (sv t A fs.length c)
  have HB0 : Hid (Below w.heap.size w (w.alloc (.cells (sv t A fs.length c) 24))) := (Below.refl _ _).alloc (Nat.le_refl _) _
  have HS : Hid (∀ W, RowAt W w.heap.size 24 (sv t A fs.length c) → W.cell? ⟨w.heap.size, 0, none⟩ = some (.bool t) ∧ W.cell? ⟨w.heap.size, 1, none⟩ = some (.slice A fs.length c)) := fun W h => shape_cells h
  have HF : Hid (∀ W, Below w.heap.size w W → Facs W A fs) := fun W h => hF.below h
  clear hF
  by_cases hbig : 12 < fs.length
  · have hbb : bigB fs = true := by unfold bigB; rw [decide_eq_true hbig]; rfl
    rw [hbb]
    clear hbb HF
    obtain ⟨c0, c1⟩ := HS.out _ r0
    generalize fs.length = n at *
    go_enter Tryd.func5, Tryd.ntmps5
    go_wp2_with fail
    go_ret
    exact ⟨rfl, HB0.out⟩
  · have hsm : fs.length ≤ 12 := by omega
    have HBAD : Hid (∀ k, k < fs.length → okF (fs.getD k f0) = false → bigB fs = true) := fun k => big_bad
    have HEND : Hid ((∀ k, k < fs.length → okF (fs.getD k f0) = true) → bigB fs = false) := big_end hsm
    generalize bigB fs = res at *
    generalize hn : fs.length = n at *
    have HN := Lib.hid hn; clear hn hbig
    generalize sv t A n c = V at *
    obtain ⟨c0, c1⟩ := HS.out _ r0
    go_enter Tryd.func5, Tryd.ntmps5
    go_wp2_with fail
    clear c0 c1
    go_loopw [3, 4, 5] (fun kv _ _ wr => ∃ k : Nat, k ≤ n ∧ kv = .int .i64 k ∧ RowAt wr w.heap.size 24 V ∧ Hid (∀ j, j < k → okF (fs.getD j f0) = true) ∧ Hid (Below w.heap.size w wr)) (fun kv _ _ _ => n - (intOf kv).toNat)
    case atStart => exact ⟨0, by omega, rfl, r0, fun j hj => by omega, HB0⟩
    case round =>
      clear r0 HB0
      obtain ⟨k, hk, rfl, r1, HK, HB1⟩ := hrel
      obtain ⟨c0, c1⟩ := HS.out _ r1
      by_cases hlt : k < n
      · have hFk := HF.out _ HB1.out
        obtain ⟨b, o, rfl, _, hr⟩ := hFk.at (k := k) (by rw [HN.out]; exact hlt)
        have hrg := hr k (by rw [HN.out]; exact hlt)
        have hl := (hFk.okAt (i := k) (by rw [HN.out]; exact hlt)).rows
        have HOK : Hid (∀ W, Below w.heap.size w W → FacOk W (fs.getD k f0)) := fun W h => (HF.out W h).okAt (by rw [HN.out]; exact hlt)
        clear hr hFk
        have HKN : Hid (okF (fs.getD k f0) = true → ∀ j, j < k + 1 → okF (fs.getD j f0) = true) := fun h j hj => by
          by_cases e : j = k
          · subst e; exact h
          · exact HK.out j (by omega)
        have HR := Lib.hid (HBAD.out k hlt)
        have HLG : Hid (70 < (fs.getD k f0).names.length → okF (fs.getD k f0) = false) := okF_long
        have HIB : Hid (∀ j, j < (fs.getD k f0).names.length → 40 < ((fs.getD k f0).names.getD j ⟨#[]⟩).size → okF (fs.getD k f0) = false) := fun j => okF_bad
        have HIE : Hid ((fs.getD k f0).names.length ≤ 70 → (∀ j, j < (fs.getD k f0).names.length → ¬ 40 < ((fs.getD k f0).names.getD j ⟨#[]⟩).size) → okF (fs.getD k f0) = true) := okF_end
        generalize okF (fs.getD k f0) = ok at *
        generalize fs.getD k f0 = f at *
        have HST : Hid (∀ W, Below w.heap.size w W → Strs W f.A f.names) := fun W h => (HOK.out W h).strs
        have HFC : Hid (∀ W g, RowAt W g 36 (fv f) → W.cell? ⟨g, 1, none⟩ = some (.slice f.A f.names.length f.c)) := fun W g h => (fac_cells h).2.1
        clear HOK
        by_cases h70 : 70 < f.names.length
        · have HR2 := Lib.hid (HR.out (HLG.out h70))
          clear HR HLG HIB HIE HKN HST
          generalize f.names.length = m at *
          go_wp2_with (first
            | (refine wpList_loadFacIn (by rfl) _ rfl b (o + k * 67) rfl f hl hrg ?_)
            | (refine wpList_storeFac (by rfl) _ _ rfl wr.heap.size rfl f hl rfl _ zero_fac_size (RowAt.new _ _ _) ?_; intro w2 r2 he; have q2 := (r1.alloc (.cells Tryd.zeroCells36 36)).other he (Nat.ne_of_lt r1.lt); have HB2 := Lib.hid (below_made HB1.out HB1.out.size he); clear he r1 HB1 c0 c1; have d1 := HFC.out _ _ r2))
          go_ret
          exact ⟨ret_eq (bool_eq HR2.out.symm), HB2.out⟩
        · have h71 : f.names.length ≤ 70 := by omega
          have HIE2 := Lib.hid (HIE.out h71)
          clear HIE HLG h70
          generalize hm : f.names.length = m at *
          have HM := Lib.hid hm; clear hm
          go_wp2_with (first
            | (refine wpList_loadFacIn (by rfl) _ rfl b (o + k * 67) rfl f hl hrg ?_)
            | (refine wpList_storeFac (by rfl) _ _ rfl wr.heap.size rfl f hl rfl _ zero_fac_size (RowAt.new _ _ _) ?_; intro w2 r2 he; have q2 := (r1.alloc (.cells Tryd.zeroCells36 36)).other he (Nat.ne_of_lt r1.lt); have HB2 := Lib.hid (below_made HB1.out HB1.out.size he); clear he r1 HB1 c0 c1; have d1 := HFC.out _ _ r2))
          go_loopw [5] (fun jv wq => ∃ j : Nat, j ≤ m ∧ jv = .int .i64 j ∧ wq = w2 ∧ Hid (∀ i, i < j → ¬ 40 < (f.names.getD i ⟨#[]⟩).size)) (fun jv _ => m - (intOf jv).toNat)
          case atStart => exact ⟨0, by omega, rfl, rfl, fun j hj => by omega⟩
          case round =>
            obtain ⟨j, hj, rfl, hq, HJ⟩ := hrel
            subst hq
            by_cases hlt2 : j < m
            · obtain ⟨b2, o2, hA, hc⟩ := (HST.out _ HB2.out).at (k := j) (by rw [HM.out]; exact hlt2)
              have hcj := hc j (by rw [HM.out]; exact hlt2)
              rw [hA] at d1
              have HIB2 := Lib.hid (HIB.out j hlt2)
              have HJN : Hid (¬ 40 < (f.names.getD j ⟨#[]⟩).size → ∀ i, i < j + 1 → ¬ 40 < (f.names.getD i ⟨#[]⟩).size) := fun h i hi => by
                by_cases e : i = j
                · subst e; exact h
                · exact HJ.out i (by omega)
              clear hc hA
              generalize f.names.getD j ⟨#[]⟩ = x at *
              by_cases h40 : 40 < x.size
              · have HR2 := Lib.hid (HR.out (HIB2.out h40))
                clear HR HIB HIE2 HKN HJN HIB2
                go_wp2
                go_ret
                exact ⟨ret_eq (bool_eq HR2.out.symm), HB2.out⟩
              · have HJ2 := Lib.hid (HJN.out h40)
                clear HJN HIB2
                go_wp2
                go_roundw
                case rel => exact ⟨j + 1, by omega, by go_num, by trivial, HJ2⟩
                case measure => simp [intOf]; omega
            · have e1 : j = m := by omega
              subst e1
              have HKN2 := Lib.hid (HKN.out (HIE2.out HJ.out))
              go_wp2
              go_roundw
              case rel => exact ⟨k + 1, by omega, by go_num, q2, HKN2, HB2⟩
              case measure => simp [intOf]; omega
      · have e1 : k = n := by omega
        subst e1
        have HE2 := Lib.hid (HEND.out HK.out)
        go_wp2_with fail
        go_ret
        exact ⟨ret_eq (bool_eq HE2.out.symm), HB1.out⟩
end Go.Proofs.YtpgkcddhpeoiiaaDoor
