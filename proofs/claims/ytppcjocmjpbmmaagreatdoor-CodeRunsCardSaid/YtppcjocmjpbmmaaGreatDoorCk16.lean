/- Texts that all the claims need. Conditions: those that each states. -/
import Derived.Great.BuildSlice
import Derived.Lib.SliceRun
import Derived.Test.YtppcjocmjpbmmaaGreatDoorCk15
set_option linter.unusedSimpArgs false
set_option linter.unusedVariables false
set_option maxRecDepth 100000
set_option maxHeartbeats 40000000
namespace Go.Proofs.YtppcjocmjpbmmaaGreatDoor
section
open Go.RowKit RM
section
variable {w w' : World} {base base2 size size2 n m : Nat} {e e2 t : TypeId} {v y : Value} {cs ds : List Value} {g : Nat} {rs : Array Value}
theorem own_ne2 (h : w.ownsRow base e size v n cs) (hr : RowAt w g t rs) (ht : e ≠ t) : v.ownBlock ≠ some g := by
 rcases h.2 with ⟨rfl, _⟩ | ⟨g', cap, cur, rfl, _, hh, _⟩
 ·simp [Value.ownBlock]
 ·intro hx
  have hx' : g' = g := by simpa [Value.ownBlock] using hx
  subst hx'
  have hr' : w.heap[g']? = some (.cells rs t (0, 0)) := hr
  rw [hh] at hr'
  simp only [Option.some.injEq, Obj.cells.injEq] at hr'
  exact ht hr'.2.1
theorem own_ne3 (h : w.ownsRow base e size v n cs) (h2 : w.ownsRow base2 e2 size2 y m ds) (ht : e ≠ e2) {k : Nat} (hk : y.ownBlock = some k) : v.ownBlock ≠ some k := by
 rcases h2.2 with ⟨rfl, _⟩ | ⟨g', cap, cur, rfl, _, hh, _⟩
 ·simp [Value.ownBlock] at hk
 ·have hk' : g' = k := by simpa [Value.ownBlock] using hk
  subst hk'
  exact own_ne2 h (show RowAt w g' e2 cur from hh) ht
theorem ownS_far (h : w.ownsRow base e size v n cs) (hr : RowAt w g t rs) (ht : e ≠ t) (o : Nat) (u : Value) : (w.setCell ⟨g, o, none⟩ u).ownsRow base e size v n cs := by
 have hne := own_ne2 h hr ht
 refine ⟨h.1, ?_⟩
 rcases h.2 with hn | ⟨g', cap, cur, rfl, hg, hh, rest⟩
 ·exact .inl hn
 ·refine .inr ⟨g', cap, cur, rfl, hg, ?_, rest⟩
  have : g ≠ g' := fun e => hne (by simp [Value.ownBlock, e])
  simp only [World.setCell, Array.getElem?_modify, if_neg this]
  exact hh
theorem own_grown (h : w.ownsRow base e size v n cs) (hg : w.grownBy w' y.ownBlock) (hne : ∀ k, y.ownBlock = some k → v.ownBlock ≠ some k) : w'.ownsRow base e size v n cs := by
 refine ⟨h.1, ?_⟩
 rcases h.2 with hn | ⟨g', cap, cur, rfl, hb, hh, rest⟩
 ·exact .inl hn
 ·have hlt := (Array.getElem?_eq_some_iff.1 hh).1
  refine .inr ⟨g', cap, cur, rfl, hb, (hg.block g' hlt (fun e => ?_)).trans hh, rest⟩
  exact hne g' e.symm (by simp [Value.ownBlock])
theorem ownS_set {c : Nat} (h : w.ownsRow base e size (.slice (some ⟨g, 0, none⟩) n c) n cs) (j : Nat) (u : Value) :
 (w.setCell ⟨g, j, none⟩ u).ownsRow base e size (.slice (some ⟨g, 0, none⟩) n c) n (cs.set j u) := by
 refine ⟨by rw [List.length_set]; exact h.1, ?_⟩
 rcases h.2 with ⟨hn, _⟩ | ⟨g', cap, cur, hv, hb, hh, h1, h2, h3, h4⟩
 ·cases hn
 ·injection hv with e1 e2 e3
  injection e1 with e1
  injection e1 with e1
  subst e1 e3
  refine .inr ⟨g, c, cur.setIfInBounds j u, rfl, hb, ?_, h1, h2, by simpa using h3, ?_⟩
  ·simp [World.setCell, Array.getElem?_modify, hh]
  ·rw [Array.toList_setIfInBounds, List.take_set, h4]
theorem ownS_row {c : Nat} (h : w.ownsRow base e size (.slice (some ⟨g, 0, none⟩) n c) n cs) : ∃ rs, RowAt w g e rs := by
 rcases h.2 with ⟨hn, _⟩ | ⟨g', cap, cur, hv, hb, hh, _⟩
 ·cases hn
 ·injection hv with e1 e2 e3
  injection e1 with e1
  injection e1 with e1
  subst e1
  exact ⟨cur, hh⟩
theorem own_free {c : Nat} (h : w.ownsRow base e size (.slice (some ⟨g, 0, none⟩) n c) n cs) (j : Nat) : w.frozen? ⟨g, j, none⟩ = false := by
 obtain ⟨rs, h⟩ := ownS_row h
 exact h.free j
theorem ownS_at {c : Nat} (h : w.ownsRow base e size (.slice (some ⟨g, 0, none⟩) n c) n cs) {j : Nat} {u : Value} (hj : cs[j]? = some u) : w.cell? ⟨g, j, none⟩ = some u := by
 obtain ⟨b, o, hA, _, hc⟩ := Sl.of_own h (fun e => by rw [e] at hj; simp at hj)
 injection hA with hA
 injection hA with h1 h2
 subst h1 h2
 have := hc j u hj
 rw [Nat.zero_add] at this
 exact this
end
def core (f : Fac) : Fac := { f with A := none, c := 0 }
structure FacO (w : World) (B : Nat) (f : Fac) : Prop where
 own : w.ownsRow B 9 1 (.slice f.A f.names.length f.c) f.names.length (scells f.names)
 rows : RW f.l
theorem FacO.ok {w : World} {B : Nat} {f : Fac} (h : FacO w B f) : FacOk w f := by
 obtain ⟨A', c', e, h1, h2⟩ := own_form h.own
 injection e with e1 e2 e3
 refine ⟨Sl.of_own h.own, h.rows, fun hn => ?_, by omega, by omega⟩
 rcases h.own.2 with ⟨e, _⟩ | ⟨g, cap, cur, e, _⟩
 ·injection e
 ·injection e with e _ _
  rw [hn] at e; cases e
theorem FacO.below {w w' : World} {B k : Nat} {f : Fac} (h : FacO w B f) (hb : Below k w w') (hk : w.heap.size ≤ k) : FacO w' B f := ⟨own_below h.own hb hk, h.rows⟩
theorem FacO.mono {w : World} {B B' : Nat} {f : Fac} (h : FacO w B f) (hb : B' ≤ B) : FacO w B' f := ⟨own_mono h.own hb, h.rows⟩
theorem FacO.far {w : World} {B g : Nat} {t : TypeId} {rs : Array Value} {f : Fac} (h : FacO w B f) (hr : RowAt w g t rs) (ht : 9 ≠ t) (o : Nat) (u : Value) : FacO (w.setCell ⟨g, o, none⟩ u) B f := ⟨ownS_far h.own hr ht o u, h.rows⟩
theorem FacO.grown {w w' : World} {B B2 size m : Nat} {e : TypeId} {y : Value} {ds : List Value} {f : Fac} (h : FacO w B f) (hy : w.ownsRow B2 e size y m ds) (ht : 9 ≠ e) (hg : w.grownBy w' y.ownBlock) : FacO w' B f :=
 ⟨own_grown h.own hg fun _ hk => own_ne3 h.own hy ht hk, h.rows⟩
structure Part (w : World) (B : Nat) (fs gs : List Fac) (k : Nat) : Prop where
 len : gs.length = fs.length
 same : gs.map core = fs.map core
 own : ∀ i, i < k → i < gs.length → FacO w B (gs.getD i f0)
 rest : ∀ i, k ≤ i → gs.getD i f0 = fs.getD i f0
theorem Part.zero (w : World) (B : Nat) (fs : List Fac) : Part w B fs fs 0 := ⟨rfl, rfl, fun i h => by omega, fun _ _ => rfl⟩
theorem Part.below {w w' : World} {B q k : Nat} {fs gs : List Fac} (h : Part w B fs gs k) (hb : Below q w w') (hq : w.heap.size ≤ q) : Part w' B fs gs k := ⟨h.len, h.same, fun i h1 h2 => (h.own i h1 h2).below hb hq, h.rest⟩
theorem Part.far {w : World} {B g k : Nat} {t : TypeId} {rs : Array Value} {fs gs : List Fac} (h : Part w B fs gs k) (hr : RowAt w g t rs) (ht : 9 ≠ t) (o : Nat) (u : Value) : Part (w.setCell ⟨g, o, none⟩ u) B fs gs k :=
 ⟨h.len, h.same, fun i h1 h2 => (h.own i h1 h2).far hr ht o u, h.rest⟩
theorem Part.all {w : World} {B : Nat} {fs gs : List Fac} (h : Part w B fs gs fs.length) : ∀ f ∈ gs, FacO w B f := fun f hf => by
 obtain ⟨i, hi, rfl⟩ := List.mem_iff_getElem.1 hf
 have := h.own i (by rw [← h.len]; exact hi) hi
 rw [List.getD_eq_getElem?_getD, List.getElem?_eq_getElem hi] at this
 exact this
end
section
open Go.RowKit RM
structure Shp where
 t : Bool
 A : Option Addr
 c : Nat
 fs : List Fac
def s0 : Shp := ⟨false, none, 0, []⟩
structure ShOk (w : World) (s : Shp) : Prop where
 facs : Facs w s.A s.fs
 nil : s.A = none → s.c = 0
 few : s.fs.length ≤ 65536
 names : ∀ f ∈ s.fs, f.names.length ≤ 65536
theorem ShOk.below {w w' : World} {s : Shp} (h : ShOk w s) (hb : Below w.heap.size w w') : ShOk w' s := ⟨h.facs.below hb, h.nil, h.few, h.names⟩
section
variable {ops : Array Oper} {rest : List Oper} {o : Oper} {a : Act} {w : World} {Q : Exit → Act → World → Prop}
end
end
section
open Go.RowKit RM
theorem fac_of_row {w : World} {g : Nat} {f : Fac} (h : RowAt w g 44 (fv f)) (hok : FacOk w f) : Facs w (some ⟨g, 0, none⟩) [f] where
 sl := fun _ => ⟨g, 0, rfl, h.lt, fun j u hu => by
  rw [Nat.zero_add]
  have e : fscells [f] = fcells f := by simp [fscells]
  rw [e] at hu
  exact (h.cell j).trans (by unfold fv; simpa using hu)⟩
 ok := fun g hg => by
  rw [List.mem_singleton] at hg
  subst hg; exact hok
theorem infoFac2 : (Tryz.prog.info? 44).map (fun i => (i.zero.isSome, i.size)) = some (true, 67) := by kernel_rfl
theorem wp_oneF {o : Oper} {a : Act} {w : World} {K : Act → World → Prop} {Q : Exit → Act → World → Prop} (x : Operand) (ho : o.op = .buildSlice 22 1 #[(0, x)])
 (f : Fac) (hl : RW f.l) (hx : a.eval x = .agg (fv f))
 (h : ∀ w', RowAt w' w.heap.size 44 (fv f) → Below w.heap.size w w' → K (a.put o.dst (.slice (some ⟨w.heap.size, 0, none⟩) 1 1)) w') : o.wp Tryz.prog a w K Q := by
 cases hi : Tryz.prog.info? 44 with
 | none => have h0 := infoFac2; rw [hi] at h0; cases h0
 | some i =>
   have h0 := infoFac2
   rw [hi] at h0
   simp only [Option.map_some, Option.some.injEq, Prod.mk.injEq] at h0
   obtain ⟨z, hz⟩ := Option.isSome_iff_exists.1 h0.1
   have hs := h0.2
   have e1 : (Value.agg (fv f)).cells = fv f := rfl
   refine wp_buildSlice 22 44 1 _ ho (fv f) i z Tryz.underlying22 hi hz (by rw [hs]; decide) (by rw [hs]; decide) ?_ ?_
   ·have hp : ((#[(0, x)] : Array (Nat × Operand)).map fun (i, x) => (i, a.eval x)).toList = (([Value.agg (fv f)] : List Value).zipIdx 0).map fun x => (x.2, x.1) := by
        simp [hx]
    rw [hp, hs]
    have := Great.fill_whole (s := 67) (by decide) [Value.agg (fv f)] ((Array.range (1 * 67)).map (z.cells[· % z.cells.size]!)) (by
        intro v hv
        rw [List.mem_singleton] at hv
        subst hv
        rw [e1, fv_size f hl]) (by simp)
    rw [this]
    simp [e1]
   ·exact h _ (RowAt.new _ _ _) ((zB _ _).alloc (zL _) _)
theorem wpList_oneF {ops : Array Oper} {rest : List Oper} {o : Oper} {a : Act} {w : World} {Q : Exit → Act → World → Prop} (hgd : Region.wanted o (yielded ops a.tmps) = true) (x : Operand) (ho : o.op = .buildSlice 22 1 #[(0, x)])
 (f : Fac) (hl : RW f.l) (hx : a.eval x = .agg (fv f))
 (h : ∀ w', RowAt w' w.heap.size 44 (fv f) → Below w.heap.size w w' → wpList Tryz.prog ops Q rest (a.put o.dst (.slice (some ⟨w.heap.size, 0, none⟩) 1 1)) w') : wpList Tryz.prog ops Q (o :: rest) a w :=
 wpList_wanted hgd fun _ hK => wp_oneF x ho f hl hx fun w' h1 h2 => hK _ _ (h w' h1 h2)
def okF (f : Fac) : Bool := decide (f.names.length ≤ 70) && f.names.all fun s => decide (s.size ≤ 40)
def bigShB (fs : List Fac) : Bool := decide (12 < fs.length) || !fs.all okF
theorem big_bad {fs : List Fac} {k : Nat} (hk : k < fs.length) (h : okF (fs.getD k f0) = false) : bigShB fs = true := by
 unfold bigShB
 have : fs.all okF = false := by
  rw [List.all_eq_false]
  exact ⟨_, getD_memF hk, by rw [h]; simp⟩
 rw [this]; simp
theorem big_end {fs : List Fac} (h1 : fs.length ≤ 12) (h : ∀ k, k < fs.length → okF (fs.getD k f0) = true) : bigShB fs = false := by
 unfold bigShB
 have : fs.all okF = true := by
  rw [List.all_eq_true]
  intro x hx
  obtain ⟨k, hk, rfl⟩ := List.mem_iff_getElem.1 hx
  have := h k hk
  rw [List.getD_eq_getElem?_getD, List.getElem?_eq_getElem hk] at this
  simpa using this
 rw [this, zF (by omega)]; rfl
theorem okF_long {f : Fac} (h : 70 < f.names.length) : okF f = false := by unfold okF; rw [zF (by omega)]; rfl
theorem okF_bad {f : Fac} {k : Nat} (hk : k < f.names.length) (h : 40 < (f.names.getD k ⟨#[]⟩).size) : okF f = false := by
 unfold okF
 have : (f.names.all fun s => decide (s.size ≤ 40)) = false := by
  rw [List.all_eq_false]
  refine ⟨f.names[k], List.getElem_mem hk, ?_⟩
  rw [List.getD_eq_getElem?_getD, List.getElem?_eq_getElem hk] at h
  simp only [Option.getD_some] at h
  simp; omega
 rw [this, Bool.and_false]
theorem okF_end {f : Fac} (h1 : f.names.length ≤ 70) (h : ∀ k, k < f.names.length → ¬ 40 < (f.names.getD k ⟨#[]⟩).size) : okF f = true := by
 unfold okF
 have : (f.names.all fun s => decide (s.size ≤ 40)) = true := by
  rw [List.all_eq_true]
  intro x hx
  obtain ⟨k, hk, rfl⟩ := List.mem_iff_getElem.1 hx
  have := h k hk
  rw [List.getD_eq_getElem?_getD, List.getElem?_eq_getElem hk] at this
  simp only [Option.getD_some] at this
  simp; omega
 rw [this, zE h1]; rfl
theorem bigS_any (t : Bool) (A : Option Addr) (c : Nat) (fs : List Fac) (w : World) (hF : Facs w A fs) :
 Calls Tryz.prog 4 #[.agg (sv t A fs.length c)] w fun x w' => x = .returned (.bool (bigShB fs)) ∧ Below w.heap.size w w' := by
 have r0 := RowAt.new w 24 (sv t A fs.length c)
 have HB0 : Hid (Below w.heap.size w (w.alloc (.cells (sv t A fs.length c) 24))) := (zB _ _).alloc (zL _) _
 have HS : Hid (∀ W, RowAt W w.heap.size 24 (sv t A fs.length c) → W.cell? ⟨w.heap.size, 0, none⟩ = some (.bool t) ∧ W.cell? ⟨w.heap.size, 1, none⟩ = some (.slice A fs.length c)) := fun W h => shape_cells h
 have HF : Hid (∀ W, Below w.heap.size w W → Facs W A fs) := fun W h => hF.below h
 clear hF
 by_cases hbig : 12 < fs.length
 ·have hbb : bigShB fs = true := by unfold bigShB; rw [zE hbig]; rfl
  rw [hbb]
  clear hbb HF
  obtain ⟨c0, c1⟩ := HS.out _ r0
  generalize fs.length = n at *
  go_enter Tryz.func4, Tryz.ntmps4
  go_wp2_with fail
  go_ret
  exact ⟨rfl, HB0.out⟩
 ·have hsm : fs.length ≤ 12 := by omega
  have HBAD : Hid (∀ k, k < fs.length → okF (fs.getD k f0) = false → bigShB fs = true) := fun k => big_bad
  have HEND : Hid ((∀ k, k < fs.length → okF (fs.getD k f0) = true) → bigShB fs = false) := big_end hsm
  generalize bigShB fs = res at *
  generalize hn : fs.length = n at *
  have HN := zh hn; clear hn hbig
  generalize sv t A n c = V at *
  obtain ⟨c0, c1⟩ := HS.out _ r0
  go_enter Tryz.func4, Tryz.ntmps4
  go_wp2_with fail
  clear c0 c1
  go_loopw [3, 4, 5] (fun kv _ _ wr => ∃ k : Nat, k ≤ n ∧ kv = .int .i64 k ∧ RowAt wr w.heap.size 24 V ∧ Hid (∀ j, j < k → okF (fs.getD j f0) = true) ∧ Hid (Below w.heap.size w wr)) (fun kv _ _ _ => n - (intOf kv).toNat)
  case atStart => exact ⟨0, by omega, rfl, r0, fun j hj => by omega, HB0⟩
  case round =>
   clear r0 HB0
   obtain ⟨k, hk, rfl, r1, HK, HB1⟩ := hrel
   obtain ⟨c0, c1⟩ := HS.out _ r1
   by_cases hlt : k < n
   ·have hFk := HF.out _ HB1.out
    obtain ⟨b, o, rfl, _, hr⟩ := hFk.at (k := k) (by rw [HN.out]; exact hlt)
    have hrg := hr k (by rw [HN.out]; exact hlt)
    have hl := (hFk.okAt (i := k) (by rw [HN.out]; exact hlt)).rows
    have HOK : Hid (∀ W, Below w.heap.size w W → FacOk W (fs.getD k f0)) := fun W h => (HF.out W h).okAt (by rw [HN.out]; exact hlt)
    clear hr hFk
    have HKN : Hid (okF (fs.getD k f0) = true → ∀ j, j < k + 1 → okF (fs.getD j f0) = true) := fun h j hj => by
     by_cases e : j = k
     ·subst e; exact h
     ·exact HK.out j (by omega)
    have HR := zh (HBAD.out k hlt)
    have HLG : Hid (70 < (fs.getD k f0).names.length → okF (fs.getD k f0) = false) := okF_long
    have HIB : Hid (∀ j, j < (fs.getD k f0).names.length → 40 < ((fs.getD k f0).names.getD j ⟨#[]⟩).size → okF (fs.getD k f0) = false) := fun j => okF_bad
    have HIE : Hid ((fs.getD k f0).names.length ≤ 70 → (∀ j, j < (fs.getD k f0).names.length → ¬ 40 < ((fs.getD k f0).names.getD j ⟨#[]⟩).size) → okF (fs.getD k f0) = true) := okF_end
    generalize okF (fs.getD k f0) = ok at *
    generalize fs.getD k f0 = f at *
    have HST : Hid (∀ W, Below w.heap.size w W → Strs W f.A f.names) := fun W h => (HOK.out W h).strs
    have HFC : Hid (∀ W g, RowAt W g 44 (fv f) → W.cell? ⟨g, 1, none⟩ = some (.slice f.A f.names.length f.c)) := fun W g h => (fac_cells h).2.1
    clear HOK
    by_cases h70 : 70 < f.names.length
    ·have HR2 := zh (HR.out (HLG.out h70))
     clear HR HLG HIB HIE HKN HST
     generalize f.names.length = m at *
     go_wp2_with (first
      | (refine wpList_loadFacIn (by rfl) _ rfl b (o + k * 67) rfl f hl hrg ?_)
      | (refine wpList_storeFac (by rfl) _ _ rfl wr.heap.size rfl f hl rfl _ zero_fac_size (RowAt.new _ _ _) ?_; intro w2 r2 he; have q2 := (r1.alloc (.cells Tryz.zeroCells44 44)).other he (Nat.ne_of_lt r1.lt); have HB2 := zh (below_made HB1.out HB1.out.size he); clear he r1 HB1 c0 c1; have d1 := HFC.out _ _ r2))
     go_ret
     exact ⟨ret_eq (bool_eq HR2.out.symm), HB2.out⟩
    ·have h71 : f.names.length ≤ 70 := by omega
     have HIE2 := zh (HIE.out h71)
     clear HIE HLG h70
     generalize hm : f.names.length = m at *
     have HM := zh hm; clear hm
     go_wp2_with (first
      | (refine wpList_loadFacIn (by rfl) _ rfl b (o + k * 67) rfl f hl hrg ?_)
      | (refine wpList_storeFac (by rfl) _ _ rfl wr.heap.size rfl f hl rfl _ zero_fac_size (RowAt.new _ _ _) ?_; intro w2 r2 he; have q2 := (r1.alloc (.cells Tryz.zeroCells44 44)).other he (Nat.ne_of_lt r1.lt); have HB2 := zh (below_made HB1.out HB1.out.size he); clear he r1 HB1 c0 c1; have d1 := HFC.out _ _ r2))
     go_loopw [5] (fun jv wq => ∃ j : Nat, j ≤ m ∧ jv = .int .i64 j ∧ wq = w2 ∧ Hid (∀ i, i < j → ¬ 40 < (f.names.getD i ⟨#[]⟩).size)) (fun jv _ => m - (intOf jv).toNat)
     case atStart => exact ⟨0, by omega, rfl, rfl, fun j hj => by omega⟩
     case round =>
      obtain ⟨j, hj, rfl, hq, HJ⟩ := hrel
      subst hq
      by_cases hlt2 : j < m
      ·obtain ⟨b2, o2, hA, hc⟩ := (HST.out _ HB2.out).at (k := j) (by rw [HM.out]; exact hlt2)
       have hcj := hc j (by rw [HM.out]; exact hlt2)
       rw [hA] at d1
       have HIB2 := zh (HIB.out j hlt2)
       have HJN : Hid (¬ 40 < (f.names.getD j ⟨#[]⟩).size → ∀ i, i < j + 1 → ¬ 40 < (f.names.getD i ⟨#[]⟩).size) := fun h i hi => by
        by_cases e : i = j
        ·subst e; exact h
        ·exact HJ.out i (by omega)
       clear hc hA
       generalize f.names.getD j ⟨#[]⟩ = x at *
       by_cases h40 : 40 < x.size
       ·have HR2 := zh (HR.out (HIB2.out h40))
        clear HR HIB HIE2 HKN HJN HIB2
        go_wp2
        go_ret
        exact ⟨ret_eq (bool_eq HR2.out.symm), HB2.out⟩
       ·have HJ2 := zh (HJN.out h40)
        clear HJN HIB2
        go_wp2
        go_roundw
        case rel => exact ⟨j + 1, by omega, by go_num, by trivial, HJ2⟩
        case measure => simp [intOf]; omega
      ·have e1 : j = m := by omega
       subst e1
       have HKN2 := zh (HKN.out (HIE2.out HJ.out))
       go_wp2
       go_roundw
       case rel => exact ⟨k + 1, by omega, by go_num, q2, HKN2, HB2⟩
       case measure => simp [intOf]; omega
   ·have e1 : k = n := by omega
    subst e1
    have HE2 := zh (HEND.out HK.out)
    go_wp2_with fail
    go_ret
    exact ⟨ret_eq (bool_eq HE2.out.symm), HB1.out⟩
end
section
open Go.RowKit RM
theorem strs_new (w : World) (xs : List ByteArray) : Strs (w.alloc (.cells (scells xs).toArray 9)) (some ⟨w.heap.size, 0, none⟩) xs := fun _ => ⟨w.heap.size, 0, rfl, by simp, fun j u hu => by
 rw [Nat.zero_add, cell_of_row _ w.heap.size j _ 9 (0, 0) (heap_alloc_new w _)]
 simpa using hu⟩
end
end Go.Proofs.YtppcjocmjpbmmaaGreatDoor
