/- Texts that all the claims need. Conditions: those that each states. -/
import Derived.Great.BuildSlice
import Derived.Lib.SliceRun
import Derived.Test.YtnfndapgcpdcpaaGreatDoorFa12
set_option linter.unusedSimpArgs false
set_option linter.unusedVariables false
set_option maxRecDepth 100000
set_option maxHeartbeats 40000000
namespace Go.Proofs.YtnfndapgcpdcpaaGreatDoor
section
open Go.RowKit RM
section
variable {w w' : World} {base base2 size size2 n m : Nat} {e e2 t : TypeId} {v y : Value} {cs ds : List Value} {g : Nat} {rs : Array Value}
theorem own_ne2 (h : w.ownsRow base e size v n cs) (hr : RowAt w g t rs) (ht : e ≠ t) : v.ownBlock ≠ some g := by
 rcases h.2 with ⟨rfl, _⟩ | ⟨g', cap, cur, rfl, _, hh, _⟩
 ·simp [Value.ownBlock]
 ·intro hx
  have hx' : g' = g := by simpa [Value.ownBlock] using hx
  subst hx'
  have hr' : w.heap[g']? = some (.cells rs t (0, 0)) := hr
  rw [hh] at hr'
  simp only [Option.some.injEq, Obj.cells.injEq] at hr'
  exact ht hr'.2.1
theorem own_ne3 (h : w.ownsRow base e size v n cs) (h2 : w.ownsRow base2 e2 size2 y m ds) (ht : e ≠ e2) {k : Nat} (hk : y.ownBlock = some k) : v.ownBlock ≠ some k := by
 rcases h2.2 with ⟨rfl, _⟩ | ⟨g', cap, cur, rfl, _, hh, _⟩
 ·simp [Value.ownBlock] at hk
 ·have hk' : g' = k := by simpa [Value.ownBlock] using hk
  subst hk'
  exact own_ne2 h (show RowAt w g' e2 cur from hh) ht
theorem own_grown (h : w.ownsRow base e size v n cs) (hg : w.grownBy w' y.ownBlock) (hne : ∀ k, y.ownBlock = some k → v.ownBlock ≠ some k) : w'.ownsRow base e size v n cs := by
 refine ⟨h.1, ?_⟩
 rcases h.2 with hn | ⟨g', cap, cur, rfl, hb, hh, rest⟩
 ·exact .inl hn
 ·have hlt := (Array.getElem?_eq_some_iff.1 hh).1
  refine .inr ⟨g', cap, cur, rfl, hb, (hg.block g' hlt (fun e => ?_)).trans hh, rest⟩
  exact hne g' e.symm (by simp [Value.ownBlock])
end
def core (f : Fac) : Fac := { f with A := none, c := 0 }
structure FacO (w : World) (B : Nat) (f : Fac) : Prop where
 own : w.ownsRow B 9 1 (.slice f.A f.names.length f.c) f.names.length (scells f.names)
 rows : RW f.l
theorem FacO.ok {w : World} {B : Nat} {f : Fac} (h : FacO w B f) : FacOk w f := by
 obtain ⟨A', c', e, h1, h2⟩ := own_form h.own
 injection e with e1 e2 e3
 refine ⟨Sl.of_own h.own, h.rows, fun hn => ?_, by omega, by omega⟩
 rcases h.own.2 with ⟨e, _⟩ | ⟨g, cap, cur, e, _⟩
 ·injection e
 ·injection e with e _ _
  rw [hn] at e; cases e
theorem FacO.below {w w' : World} {B k : Nat} {f : Fac} (h : FacO w B f) (hb : Below k w w') (hk : w.heap.size ≤ k) : FacO w' B f := ⟨own_below h.own hb hk, h.rows⟩
theorem FacO.mono {w : World} {B B' : Nat} {f : Fac} (h : FacO w B f) (hb : B' ≤ B) : FacO w B' f := ⟨own_mono h.own hb, h.rows⟩
theorem FacO.grown {w w' : World} {B B2 size m : Nat} {e : TypeId} {y : Value} {ds : List Value} {f : Fac} (h : FacO w B f) (hy : w.ownsRow B2 e size y m ds) (ht : 9 ≠ e) (hg : w.grownBy w' y.ownBlock) : FacO w' B f :=
 ⟨own_grown h.own hg fun _ hk => own_ne3 h.own hy ht hk, h.rows⟩
structure Part (w : World) (B : Nat) (fs gs : List Fac) (k : Nat) : Prop where
 len : gs.length = fs.length
 same : gs.map core = fs.map core
 own : ∀ i, i < k → i < gs.length → FacO w B (gs.getD i f0)
 rest : ∀ i, k ≤ i → gs.getD i f0 = fs.getD i f0
theorem Part.zero (w : World) (B : Nat) (fs : List Fac) : Part w B fs fs 0 := ⟨rfl, rfl, fun i h => by omega, fun _ _ => rfl⟩
theorem Part.below {w w' : World} {B q k : Nat} {fs gs : List Fac} (h : Part w B fs gs k) (hb : Below q w w') (hq : w.heap.size ≤ q) : Part w' B fs gs k := ⟨h.len, h.same, fun i h1 h2 => (h.own i h1 h2).below hb hq, h.rest⟩
theorem Part.all {w : World} {B : Nat} {fs gs : List Fac} (h : Part w B fs gs fs.length) : ∀ f ∈ gs, FacO w B f := fun f hf => by
 obtain ⟨i, hi, rfl⟩ := List.mem_iff_getElem.1 hf
 have := h.own i (by rw [← h.len]; exact hi) hi
 rw [List.getD_eq_getElem?_getD, List.getElem?_eq_getElem hi] at this
 exact this
end
section
open Go.RowKit RM
structure Shp where
 t : Bool
 A : Option Addr
 c : Nat
 fs : List Fac
def s0 : Shp := ⟨false, none, 0, []⟩
structure ShOk (w : World) (s : Shp) : Prop where
 facs : Facs w s.A s.fs
 nil : s.A = none → s.c = 0
 few : s.fs.length ≤ 65536
 names : ∀ f ∈ s.fs, f.names.length ≤ 65536
theorem ShOk.below {w w' : World} {s : Shp} (h : ShOk w s) (hb : Below w.heap.size w w') : ShOk w' s := ⟨h.facs.below hb, h.nil, h.few, h.names⟩
section
variable {ops : Array Oper} {rest : List Oper} {o : Oper} {a : Act} {w : World} {Q : Exit → Act → World → Prop}
end
end
section
open Go.RowKit RM
theorem fac_of_row {w : World} {g : Nat} {f : Fac} (h : RowAt w g 64 (fv f)) (hok : FacOk w f) : Facs w (some ⟨g, 0, none⟩) [f] where
 sl := fun _ => ⟨g, 0, rfl, h.lt, fun j u hu => by
  rw [Nat.zero_add]
  have e : fscells [f] = fcells f := by simp [fscells]
  rw [e] at hu
  exact (h.cell j).trans (by unfold fv; simpa using hu)⟩
 ok := fun g hg => by
  rw [List.mem_singleton] at hg
  subst hg; exact hok
theorem infoFac2 : (Tryz.prog.info? 64).map (fun i => (i.zero.isSome, i.size)) = some (true, 67) := by kernel_rfl
theorem wp_oneF {o : Oper} {a : Act} {w : World} {K : Act → World → Prop} {Q : Exit → Act → World → Prop} (x : Operand) (ho : o.op = .buildSlice 51 1 #[(0, x)])
 (f : Fac) (hl : RW f.l) (hx : a.eval x = .agg (fv f))
 (h : ∀ w', RowAt w' w.heap.size 64 (fv f) → Below w.heap.size w w' → K (a.put o.dst (.slice (some ⟨w.heap.size, 0, none⟩) 1 1)) w') : o.wp Tryz.prog a w K Q := by
 cases hi : Tryz.prog.info? 64 with
 | none => have h0 := infoFac2; rw [hi] at h0; cases h0
 | some i =>
   have h0 := infoFac2
   rw [hi] at h0
   simp only [Option.map_some, Option.some.injEq, Prod.mk.injEq] at h0
   obtain ⟨z, hz⟩ := Option.isSome_iff_exists.1 h0.1
   have hs := h0.2
   have e1 : (Value.agg (fv f)).cells = fv f := rfl
   refine wp_buildSlice 51 64 1 _ ho (fv f) i z Tryz.underlying51 hi hz (by rw [hs]; decide) (by rw [hs]; decide) ?_ ?_
   ·have hp : ((#[(0, x)] : Array (Nat × Operand)).map fun (i, x) => (i, a.eval x)).toList = (([Value.agg (fv f)] : List Value).zipIdx 0).map fun x => (x.2, x.1) := by
        simp [hx]
    rw [hp, hs]
    have := Great.fill_whole (s := 67) (by decide) [Value.agg (fv f)] ((Array.range (1 * 67)).map (z.cells[· % z.cells.size]!)) (by
        intro v hv
        rw [List.mem_singleton] at hv
        subst hv
        rw [e1, fv_size f hl]) (by simp)
    rw [this]
    simp [e1]
   ·exact h _ (RowAt.new _ _ _) ((zB _ _).alloc (zL _) _)
theorem wpList_oneF {ops : Array Oper} {rest : List Oper} {o : Oper} {a : Act} {w : World} {Q : Exit → Act → World → Prop} (hgd : Region.wanted o (yielded ops a.tmps) = true) (x : Operand) (ho : o.op = .buildSlice 51 1 #[(0, x)])
 (f : Fac) (hl : RW f.l) (hx : a.eval x = .agg (fv f))
 (h : ∀ w', RowAt w' w.heap.size 64 (fv f) → Below w.heap.size w w' → wpList Tryz.prog ops Q rest (a.put o.dst (.slice (some ⟨w.heap.size, 0, none⟩) 1 1)) w') : wpList Tryz.prog ops Q (o :: rest) a w :=
 wpList_wanted hgd fun _ hK => wp_oneF x ho f hl hx fun w' h1 h2 => hK _ _ (h w' h1 h2)
def okF (f : Fac) : Bool := decide (f.names.length ≤ 70) && f.names.all fun s => decide (s.size ≤ 40)
def bigShB (fs : List Fac) : Bool := decide (12 < fs.length) || !fs.all okF
theorem big_no {fs : List Fac} (h : bigShB fs = false) : fs.length ≤ 12 ∧ ∀ f ∈ fs, f.names.length ≤ 70 := by
 unfold bigShB at h
 rw [Bool.or_eq_false_iff] at h
 have h1 := h.1
 have h2 := h.2
 rw [decide_eq_false_iff_not] at h1
 rw [Bool.not_eq_false', List.all_eq_true] at h2
 refine ⟨by omega, fun f hf => ?_⟩
 have := h2 f hf
 unfold okF at this
 rw [Bool.and_eq_true, decide_eq_true_eq] at this
 exact this.1
end
section
open Go.RowKit RM
theorem strs_new (w : World) (xs : List ByteArray) : Strs (w.alloc (.cells (scells xs).toArray 9)) (some ⟨w.heap.size, 0, none⟩) xs := fun _ => ⟨w.heap.size, 0, rfl, by simp, fun j u hu => by
 rw [Nat.zero_add, cell_of_row _ w.heap.size j _ 9 (0, 0) (heap_alloc_new w _)]
 simpa using hu⟩
end
end Go.Proofs.YtnfndapgcpdcpaaGreatDoor
