/-
  The example of the statements: a chain of three and a powerset of two. Conditions: the table of math/bits in memory.
-/
import Derived.Test.YtpgkcddhpeoiiaaDoorShapeI
import Derived.Test.YtpgkcddhpeoiiaaDoorShapeF
namespace Go.Proofs.YtpgkcddhpeoiiaaDoor
open Go.RowKit RM

/-! What depends on where names stand: nothing. -/
theorem core_fac (f : Fac) : facB (core f) = facB f := rfl
theorem getD_core (fs : List Fac) (i : Nat) : (fs.map core).getD i f0 = core (fs.getD i f0) := by
  rw [List.getD_eq_getElem?_getD, List.getD_eq_getElem?_getD, List.getElem?_map]
  cases fs[i]? <;> rfl
theorem rightS_core (t : Bool) (fs : List Fac) : rightS t (fs.map core) = rightS t fs := by
  unfold rightS
  rw [List.length_map, List.all_map]
  rfl
theorem heightE_core (t : Bool) (fs : List Fac) : heightE t (fs.map core) = heightE t fs := by
  unfold heightE
  rw [rightS_core, List.length_map]
  congr 2
  refine List.map_congr_left fun i _ => ?_
  rw [getD_core]; rfl
theorem endE_core (t : Bool) (fs : List Fac) (F : Fac → Nat) (hF : ∀ f, F (core f) = F f) : endE t (fs.map core) F = endE t fs F := by
  unfold endE
  rw [rightS_core]
  congr 1
  refine List.map_congr_left fun i _ => ?_
  unfold endS
  rw [List.length_map, getD_core, hF]
theorem fitsE_core (t : Bool) (fs : List Fac) (e : List Nat) : fitsE t (fs.map core) e = fitsE t fs e := by
  unfold fitsE
  rw [rightS_core]
  congr 1
  have : slotB (fs.map core) e = slotB fs e := by
    funext i
    unfold slotB
    rw [List.length_map, getD_core]; rfl
  rw [this]

theorem core_few {gs cs : List Fac} {N : Nat} (h : gs.map core = cs) (hc : ∀ f ∈ cs, f.names.length ≤ N) : ∀ f ∈ gs, f.names.length ≤ N := fun f hf => by
  have h1 : core f ∈ gs.map core := List.mem_map_of_mem hf
  rw [h] at h1
  have h2 := hc (core f) h1
  exact h2

/-! A slice of shapes is made. -/
theorem infoSh : (Tryd.prog.info? 24).map (fun i => (i.zero.isSome, i.size)) = some (true, 2) := by kernel_rfl
set_option maxRecDepth 100000 in
theorem wpList_shapes {ops : Array Oper} {rest : List Oper} {o : Oper} {a : Act} {w : World} {Q : Exit → Act → World → Prop} (hgd : Region.wanted o (yielded ops a.tmps) = true) (xs : Array (Nat × Operand)) (m : Nat) (ho : o.op = .buildSlice 48 m xs)
    (L : List Shp) (hm : L.length = m) (h0 : 0 < m) (h1 : m ≤ 100) (hx : (xs.map fun (i, x) => (i, a.eval x)).toList = ((L.map fun s => Value.agg (sv s.t s.A s.fs.length s.c)).zipIdx 0).map fun x => (x.2, x.1))
    (h : ∀ w', Sl w' w'.heap.size (some ⟨w.heap.size, 0, none⟩) (shcells L) → Below w.heap.size w w' → wpList Tryd.prog ops Q rest (a.put o.dst (.slice (some ⟨w.heap.size, 0, none⟩) m m)) w') : wpList Tryd.prog ops Q (o :: rest) a w := by
  refine wpList_wanted hgd fun K hK => ?_
  cases hi : Tryd.prog.info? 24 with
  | none => have h0 := infoSh; rw [hi] at h0; cases h0
  | some i =>
    have h2 := infoSh
    rw [hi] at h2
    simp only [Option.map_some, Option.some.injEq, Prod.mk.injEq] at h2
    obtain ⟨z, hz⟩ := Option.isSome_iff_exists.1 h2.1
    have hs := h2.2
    refine wp_buildSlice 48 24 m _ ho (shcells L).toArray i z Tryd.underlying48 hi hz (by rw [hs]; omega) (by rw [hs]; omega) ?_ ?_
    · rw [hx, hs]
      have := Great.fill_whole (s := 2) (by decide) (L.map fun s => Value.agg (sv s.t s.A s.fs.length s.c)) ((Array.range (m * 2)).map (z.cells[· % z.cells.size]!)) (by
        intro v hv
        obtain ⟨s, _, rfl⟩ := List.mem_map.1 hv
        rfl) (by simp [hm])
      rw [this]
      congr 1
      unfold shcells
      rw [List.flatMap_map]
      rfl
    · refine hK _ _ (h _ (fun _ => ⟨w.heap.size, 0, rfl, by simp, fun j u hu => ?_⟩) ((Below.refl _ _).alloc (Nat.le_refl _) _))
      rw [Nat.zero_add, cell_of_row _ w.heap.size j _ 24 (0, 0) (heap_alloc_new w _)]
      simpa using hu

theorem wpList_shapes2 {ops : Array Oper} {rest : List Oper} {o : Oper} {a : Act} {w : World} {Q : Exit → Act → World → Prop} (hgd : Region.wanted o (yielded ops a.tmps) = true) (x y : Operand) (ho : o.op = .buildSlice 48 2 #[(0, x), (1, y)])
    (s u : Shp) (hx : a.eval x = .agg (sv s.t s.A s.fs.length s.c)) (hy : a.eval y = .agg (sv u.t u.A u.fs.length u.c))
    (h : ∀ w', Sl w' w'.heap.size (some ⟨w.heap.size, 0, none⟩) (shcells [s, u]) → Below w.heap.size w w' → wpList Tryd.prog ops Q rest (a.put o.dst (.slice (some ⟨w.heap.size, 0, none⟩) 2 2)) w') : wpList Tryd.prog ops Q (o :: rest) a w :=
  wpList_shapes hgd _ 2 ho [s, u] rfl (by omega) (by omega) (by simp [hx, hy]) h
theorem wpList_shapes3 {ops : Array Oper} {rest : List Oper} {o : Oper} {a : Act} {w : World} {Q : Exit → Act → World → Prop} (hgd : Region.wanted o (yielded ops a.tmps) = true) (x y z : Operand) (ho : o.op = .buildSlice 48 3 #[(0, x), (1, y), (2, z)])
    (s u v : Shp) (hx : a.eval x = .agg (sv s.t s.A s.fs.length s.c)) (hy : a.eval y = .agg (sv u.t u.A u.fs.length u.c)) (hz : a.eval z = .agg (sv v.t v.A v.fs.length v.c))
    (h : ∀ w', Sl w' w'.heap.size (some ⟨w.heap.size, 0, none⟩) (shcells [s, u, v]) → Below w.heap.size w w' → wpList Tryd.prog ops Q rest (a.put o.dst (.slice (some ⟨w.heap.size, 0, none⟩) 3 3)) w') : wpList Tryd.prog ops Q (o :: rest) a w :=
  wpList_shapes hgd _ 3 ho [s, u, v] rfl (by omega) (by omega) (by simp [hx, hy, hz]) h

/-! The example. -/
def abc : List ByteArray := [⟨#[97]⟩, ⟨#[98]⟩, ⟨#[99]⟩]
def xy : List ByteArray := [⟨#[120]⟩, ⟨#[121]⟩]
def fA (g : Nat) : Fac := ⟨1, some ⟨g, 0, none⟩, 3, abc, 0, zs⟩
def fB (g : Nat) : Fac := ⟨2, some ⟨g, 0, none⟩, 2, xy, 0, zs⟩
theorem zero_fac : Tryd.zeroCells36 = fv f0 := by kernel_rfl
theorem builtA (g : Nat) : ((Tryd.zeroCells36.setIfInBounds 0 (Value.int IntKind.i64 1)).setIfInBounds 1 (.slice (some ⟨g, 0, none⟩) 3 3)) = fv (fA g) := by
  rw [zero_fac]
  rfl
theorem builtB (g : Nat) : ((Tryd.zeroCells36.setIfInBounds 0 (Value.int IntKind.i64 2)).setIfInBounds 1 (.slice (some ⟨g, 0, none⟩) 2 2)) = fv (fB g) := by
  rw [zero_fac]
  rfl
theorem strs_new (w : World) (xs : List ByteArray) : Strs (w.alloc (.cells (scells xs).toArray 9)) (some ⟨w.heap.size, 0, none⟩) xs := fun _ => ⟨w.heap.size, 0, rfl, by simp, fun j u hu => by
  rw [Nat.zero_add, cell_of_row _ w.heap.size j _ 9 (0, 0) (heap_alloc_new w _)]
  simpa using hu⟩
theorem fA_ok (w : World) : FacOk (w.alloc (.cells (scells abc).toArray 9)) (fA w.heap.size) := ⟨strs_new w abc, RW.zs, (fun h => by cases h), Nat.le_refl _, (by show 3 ≤ maxLen; simp [maxLen])⟩
theorem fB_ok (w : World) : FacOk (w.alloc (.cells (scells xy).toArray 9)) (fB w.heap.size) := ⟨strs_new w xy, RW.zs, (fun h => by cases h), Nat.le_refl _, (by show 2 ≤ maxLen; simp [maxLen])⟩
def ex7 : List Fac := [core (fA 0), core (fB 0)]
theorem ex_named1 : namedB abc = true := by kernel_rfl
theorem ex_named2 : namedB xy = true := by kernel_rfl
theorem ex_right : rightS true ex7 = true := by
  have h1 : facB (core (fA 0)) = true := by
    show (namedB abc && relB 1 0 zs 3) = true
    rw [ex_named1]
    kernel_rfl
  have h2 : facB (core (fB 0)) = true := by
    show (namedB xy && relB 2 0 zs 2) = true
    rw [ex_named2]
    kernel_rfl
  unfold rightS ex7
  simp only [List.all_cons, h1, h2]
  rfl
theorem ex_height : heightE true ex7 = 4 := by
  unfold heightE
  rw [ex_right, if_pos rfl]
  rfl
theorem ex_top : endE true ex7 topW = [3, 3, 0, 0, 0, 0, 0, 0] := by
  unfold endE
  rw [ex_right, if_pos rfl]
  have h1 : topW (core (fA 0)) = 3 := by
    show MM.belowN 2 = 3
    kernel_rfl
  have h2 : topW (core (fB 0)) = 3 := by
    show MM.belowN 2 = 3
    kernel_rfl
  have e : ∀ i, endS ex7 topW i = if i = 0 then topW (core (fA 0)) else if i = 1 then topW (core (fB 0)) else 0 := fun i => by
    unfold endS ex7
    match i with
    | 0 => rfl
    | 1 => rfl
    | i + 2 =>
      simp
      intro h
      omega
  rw [show endS ex7 topW = fun i => if i = 0 then 3 else if i = 1 then 3 else 0 by funext i; rw [e, h1, h2]]
  rfl
theorem ex_fits : fitsE true ex7 [1, 2, 0, 0, 0, 0, 0, 0] = true := by
  unfold fitsE
  rw [ex_right, Bool.true_and]
  have h1 : wordB (core (fA 0)) 1 = true := by
    show RG.lvB 3 1 = true
    kernel_rfl
  have h2 : wordB (core (fB 0)) 2 = true := by
    show MM.subN 2 (MM.belowN 2) = true
    kernel_rfl
  rw [List.all_eq_true]
  intro i hi
  have hi := List.mem_range.1 hi
  unfold slotB ex7
  match i, hi with
  | 0, _ => exact h1
  | 1, _ => exact h2
  | i + 2, h =>
    rw [if_neg (by simp)]
    match i, h with
    | 0, _ => rfl
    | 1, _ => rfl
    | 2, _ => rfl
    | 3, _ => rfl
    | 4, _ => rfl
    | 5, _ => rfl

set_option maxRecDepth 8000 in
set_option maxHeartbeats 4000000 in
theorem alive7_any (w : World) (hT : Tab w) : Calls Tryd.prog 6 #[] w fun e w' => e = .returned (.bool true) ∧ Below w.heap.size w w' := by
  have HT := Lib.hid hT; clear hT
  have HOA : Hid (∀ w : World, Calls Tryd.prog 9 #[.agg (((Tryd.zeroCells36.setIfInBounds 0 (Value.int IntKind.i64 1)).setIfInBounds 1 (.slice (some ⟨w.heap.size, 0, none⟩) 3 3)))] (w.alloc (.cells (scells abc).toArray 9)) fun e w' => ∃ A' c' gs, e = .returned (.agg (sv false A' gs.length c')) ∧ w'.ownsRow (w.alloc (.cells (scells abc).toArray 9)).heap.size 36 67 (.slice A' gs.length c') gs.length (fscells gs) ∧
      (∀ g ∈ gs, FacO w' (w.alloc (.cells (scells abc).toArray 9)).heap.size g) ∧ gs.map core = [core (fA 0)] ∧ Below (w.alloc (.cells (scells abc).toArray 9)).heap.size (w.alloc (.cells (scells abc).toArray 9)) w') := fun w => by
    rw [builtA]
    exact one_any (fA w.heap.size) _ (fA_ok w) (show 3 ≤ 65536 by decide)
  have HOB : Hid (∀ w : World, Calls Tryd.prog 9 #[.agg (((Tryd.zeroCells36.setIfInBounds 0 (Value.int IntKind.i64 2)).setIfInBounds 1 (.slice (some ⟨w.heap.size, 0, none⟩) 2 2)))] (w.alloc (.cells (scells xy).toArray 9)) fun e w' => ∃ A' c' gs, e = .returned (.agg (sv false A' gs.length c')) ∧ w'.ownsRow (w.alloc (.cells (scells xy).toArray 9)).heap.size 36 67 (.slice A' gs.length c') gs.length (fscells gs) ∧
      (∀ g ∈ gs, FacO w' (w.alloc (.cells (scells xy).toArray 9)).heap.size g) ∧ gs.map core = [core (fB 0)] ∧ Below (w.alloc (.cells (scells xy).toArray 9)).heap.size (w.alloc (.cells (scells xy).toArray 9)) w') := fun w => by
    rw [builtB]
    exact one_any (fB w.heap.size) _ (fB_ok w) (show 2 ≤ 65536 by decide)
  have habc : (#[.string ⟨#[97]⟩, .string ⟨#[98]⟩, .string ⟨#[99]⟩] : Array Value) = (scells abc).toArray := rfl
  have hxy : (#[.string ⟨#[120]⟩, .string ⟨#[121]⟩] : Array Value) = (scells xy).toArray := rfl
  have HABC := Lib.hid habc; have HXY := Lib.hid hxy; clear habc hxy
  have HB0 : Hid (Below w.heap.size w (w.alloc (.cells (scells abc).toArray 9))) := (Below.refl _ _).alloc (Nat.le_refl _) _
  generalize (scells abc).toArray = abcA at *
  generalize (scells xy).toArray = xyA at *
  go_enter Tryd.func6, Tryd.ntmps6
  go_wp2_with fail
  rw [HABC.out]
  refine (HOA.out w).mono ?_
  rintro e w1 ⟨A1, c1, g1, rfl, ho1, hn1, hc1, hb⟩
  have HB1 := Lib.hid (HB0.out.trans (hb.mono HB0.out.size))
  have HO1 := Lib.hid (show Facs w1 A1 g1 from ⟨Sl.of_own ho1, fun f hf => (hn1 f hf).ok⟩)
  have HN1 := Lib.hid (own_nil ho1)
  have HM1 : Hid (∀ f ∈ g1, f.names.length ≤ 65536) := fun f hf => core_few hc1 (by intro f hf; rw [List.mem_singleton] at hf; subst hf; decide) f hf
  have HC1 := Lib.hid hc1
  clear hb ho1 hn1 hc1 HB0
  go_wp2_with fail
  rw [HXY.out]
  have HB2 := Lib.hid (HB1.out.alloc HB1.out.size (.cells xyA 9))
  have HO2 := Lib.hid (HO1.out.below ((Below.refl _ _).alloc (Nat.le_refl _) (.cells xyA 9)))
  refine (HOB.out w1).mono ?_
  rintro e w2 ⟨A2, c2, g2, rfl, ho2, hn2, hc2, hb⟩
  have HB3 := Lib.hid (HB2.out.trans (hb.mono HB2.out.size))
  have HO3 := Lib.hid (HO2.out.below hb)
  have HO4 := Lib.hid (show Facs w2 A2 g2 from ⟨Sl.of_own ho2, fun f hf => (hn2 f hf).ok⟩)
  have HN2 := Lib.hid (own_nil ho2)
  have HM2 : Hid (∀ f ∈ g2, f.names.length ≤ 65536) := fun f hf => core_few hc2 (by intro f hf; rw [List.mem_singleton] at hf; subst hf; decide) f hf
  have HC2 := Lib.hid hc2
  have hl1 := core_len (show g1.map core = [fA 0].map core from HC1.out)
  have hl2 := core_len (show g2.map core = [fB 0].map core from hc2)
  have HL := Lib.hid (And.intro hl1 hl2)
  clear hb ho2 hn2 hc2 HB2 HB1 HO1 HO2 HOA HOB hl1 hl2
  go_wp2_with (refine wpList_shapes2 (by rfl) _ _ rfl ⟨false, A1, c1, g1⟩ ⟨false, A2, c2, g2⟩ rfl rfl ?_; intro w3 hsl hb3)
  have HB4 := Lib.hid (HB3.out.trans (hb3.mono HB3.out.size))
  have hpr := product_any (some ⟨w2.heap.size, 0, none⟩) 2 [⟨false, A1, c1, g1⟩, ⟨false, A2, c2, g2⟩] w3 hsl (fun s hs => by
    simp only [List.mem_cons, List.not_mem_nil, or_false] at hs
    rcases hs with rfl | rfl
    · exact ⟨HO3.out.below hb3, fun h => (HN1.out h).2, by have := HL.out.1; show g1.length ≤ 65536; rw [this]; decide, HM1.out⟩
    · exact ⟨HO4.out.below hb3, fun h => (HN2.out h).2, by have := HL.out.2; show g2.length ≤ 65536; rw [this]; decide, HM2.out⟩) (by simp) (by
      have := HL.out
      show (flat [⟨false, A1, c1, g1⟩, ⟨false, A2, c2, g2⟩]).length ≤ 65536
      unfold flat
      simp only [List.flatMap_cons, List.flatMap_nil, List.append_nil, List.length_append, this.1, this.2]
      decide)
  have HPC : Hid ((flat [⟨false, A1, c1, g1⟩, ⟨false, A2, c2, g2⟩]).map core = ex7) := by
    show (flat [⟨false, A1, c1, g1⟩, ⟨false, A2, c2, g2⟩]).map core = ex7
    unfold flat
    simp only [List.flatMap_cons, List.flatMap_nil, List.append_nil, List.map_append]
    rw [HC1.out, HC2.out]; rfl
  clear hsl hb3 HB3 HO3 HO4 HN1 HN2 HM1 HM2 HC1 HC2 HL
  refine hpr.mono ?_
  clear hpr
  rintro e w4 ⟨A5, c5, gs, rfl, ho, hn, hc, hb⟩
  have HB5 := Lib.hid (HB4.out.trans (hb.mono HB4.out.size))
  have HFS : Hid (Facs w4 A5 gs) := ⟨Sl.of_own ho, fun f hf => (hn f hf).ok⟩
  have hcx : gs.map core = ex7 := hc.trans HPC.out
  have hr : rightS true gs = true := by rw [← rightS_core, hcx]; exact ex_right
  have hh : heightE true gs = 4 := by rw [← heightE_core, hcx]; exact ex_height
  have ht : endE true gs topW = [3, 3, 0, 0, 0, 0, 0, 0] := by rw [← endE_core true gs topW (fun _ => rfl), hcx]; exact ex_top
  have hfi : fitsE true gs [1, 2, 0, 0, 0, 0, 0, 0] = true := by rw [← fitsE_core, hcx]; exact ex_fits
  have e8 : EW [1, 2, 0, 0, 0, 0, 0, 0] := ⟨rfl, fun x hx => by simp at hx; omega⟩
  have e33 : EW [3, 3, 0, 0, 0, 0, 0, 0] := ⟨rfl, fun x hx => by simp at hx; omega⟩
  have HRI : Hid (∀ W, Below w4.heap.size w4 W → Calls Tryd.prog 10 #[.agg (sv true A5 gs.length c5)] W fun x w' => x = .returned (.bool true) ∧ Below W.heap.size W w') := fun W h => by
    have := sright_any true A5 c5 gs W (HT.out.below (HB5.out.trans (h.mono HB5.out.size))) (HFS.out.below h)
    rw [hr] at this; exact this
  have HHE : Hid (∀ W, Below w4.heap.size w4 W → Calls Tryd.prog 15 #[.agg (sv true A5 gs.length c5)] W fun x w' => x = .returned (.int .i64 4) ∧ Below W.heap.size W w') := fun W h => by
    have := sheightE_any true A5 c5 gs W (HT.out.below (HB5.out.trans (h.mono HB5.out.size))) (HFS.out.below h)
    rw [hh] at this; exact this
  have HTO : Hid (∀ W, Below w4.heap.size w4 W → Calls Tryd.prog 13 #[.agg (sv true A5 gs.length c5)] W fun x w' => x = .returned (.agg (uv [3, 3, 0, 0, 0, 0, 0, 0])) ∧ Below W.heap.size W w') := fun W h => by
    have := stopE_any true A5 c5 gs W (HT.out.below (HB5.out.trans (h.mono HB5.out.size))) (HFS.out.below h)
    rw [ht] at this; exact this
  have HFI : Hid (∀ W, Below w4.heap.size w4 W → Calls Tryd.prog 12 #[.agg (sv true A5 gs.length c5), .agg #[.int .u64 1, .int .u64 2, .int .u64 0, .int .u64 0, .int .u64 0, .int .u64 0, .int .u64 0, .int .u64 0]] W fun x w' => x = .returned (.bool true) ∧ Below W.heap.size W w') := fun W h => by
    have := sfitsE_any true A5 c5 gs [1, 2, 0, 0, 0, 0, 0, 0] e8 W (HT.out.below (HB5.out.trans (h.mono HB5.out.size))) (HFS.out.below h)
    rw [hfi] at this; exact this
  have heq : ∀ W, (binOp .eql 40 (.agg (uv [3, 3, 0, 0, 0, 0, 0, 0])) (.agg #[.int .u64 3, .int .u64 3, .int .u64 0, .int .u64 0, .int .u64 0, .int .u64 0, .int .u64 0, .int .u64 0])).run Tryd.prog W = .ok (.bool true) W := fun W => run_eql_elem e33 e33 W
  clear ho hn hc hb hcx hr hh ht hfi e8 e33 HFS HPC HB4
  generalize uv [3, 3, 0, 0, 0, 0, 0, 0] = U3 at *
  generalize gs.length = n at *
  go_wp2_with (first | (refine wpList_storeShape (by rfl) _ _ rfl w4.heap.size rfl true A5 n c5 rfl _ zero_shape_size (RowAt.new _ _ _) ?_; intro w5 q5 he5; have HB6 : Hid (Below w4.heap.size w4 w5) := below_made (Below.refl _ _) (Nat.le_refl _) he5; clear he5) | (refine wpList_loadShape (by rfl) _ rfl w4.heap.size rfl true A5 n c5 q5 ?_))
  refine (HRI.out _ HB6.out).mono ?_
  rintro e w6 ⟨rfl, hb⟩
  have q6 := q5.below hb q5.lt
  have HB7 := Lib.hid (HB6.out.trans (hb.mono HB6.out.size))
  clear hb q5 HB6
  go_wp2_with (refine wpList_loadShape (by rfl) _ rfl w4.heap.size rfl true A5 n c5 q6 ?_)
  refine (HHE.out _ HB7.out).mono ?_
  rintro e w7 ⟨rfl, hb⟩
  have q7 := q6.below hb q6.lt
  have HB8 := Lib.hid (HB7.out.trans (hb.mono HB7.out.size))
  clear hb q6 HB7
  go_wp2_with (refine wpList_loadShape (by rfl) _ rfl w4.heap.size rfl true A5 n c5 q7 ?_)
  refine (HTO.out _ HB8.out).mono ?_
  rintro e w8 ⟨rfl, hb⟩
  have q8 := q7.below hb q7.lt
  have HB9 := Lib.hid (HB8.out.trans (hb.mono HB8.out.size))
  clear hb q7 HB8
  go_wp2_with (refine wpList_loadShape (by rfl) _ rfl w4.heap.size rfl true A5 n c5 q8 ?_)
  refine (HFI.out _ HB9.out).mono ?_
  rintro e w9 ⟨rfl, hb⟩
  have HB10 := Lib.hid (HB9.out.trans (hb.mono HB9.out.size))
  clear hb q8 HB9
  go_wp2_with fail
  go_ret
  exact ⟨rfl, HB5.out.trans (HB10.out.mono HB5.out.size)⟩
end Go.Proofs.YtpgkcddhpeoiiaaDoor
