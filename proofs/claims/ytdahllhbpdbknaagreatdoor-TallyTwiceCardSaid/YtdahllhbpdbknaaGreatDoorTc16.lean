/- Texts that all the claims need. Conditions: those that each states. -/

import Derived.Test.YtdahllhbpdbknaaGreatDoorTc14
import Derived.Test.YtdahllhbpdbknaaGreatDoorTc15
set_option linter.unusedSimpArgs false
set_option linter.unusedVariables false
set_option maxRecDepth 100000
set_option maxHeartbeats 40000000
namespace Go.Proofs.YtdahllhbpdbknaaGreatDoor
section
open Go.RowKit RM Go.Maps
structure But (M : Nat → Prop) (w w' : World) : Prop where
 os : w'.os = w.os
 tape : w'.tape = w.tape
 output : w'.output = w.output
 size : w.heap.size ≤ w'.heap.size
 block : ∀ k, k < w.heap.size → ¬ M k → w'.heap[k]? = w.heap[k]?
section
variable {M : Nat → Prop} {w w1 w2 : World} {B q g : Nat}
theorem But.refl (M : Nat → Prop) (w : World) : But M w w := ⟨rfl, rfl, rfl, zL _, fun _ _ _ => rfl⟩
theorem But.trans (h : But M w w1) (k : But M w1 w2) : But M w w2 := ⟨k.os.trans h.os, k.tape.trans h.tape, k.output.trans h.output, zM h.size k.size, fun j hj hm => (k.block j (zT hj h.size) hm).trans (h.block j hj hm)⟩
theorem But.of_below (h : Below w.heap.size w w1) (M : Nat → Prop) : But M w w1 := ⟨h.os, h.tape, h.output, h.size, fun k hk _ => h.block k hk⟩
theorem But.of_mut (h : Mut g w w1) (hg : M g) : But M w w1 := ⟨h.os, h.tape, h.output, h.size, fun k hk hm => h.block k hk (fun e => hm (e ▸ hg))⟩
theorem But.set (w : World) (g o : Nat) (u : Value) (hg : M g) : But M w (w.setCell ⟨g, o, none⟩ u) := But.of_mut (Mut.of_set w g o u) hg
theorem But.drew (h : But M w w1) : But M w w1.drew := ⟨h.os, h.tape, h.output, h.size, h.block⟩
theorem But.below (h : But M w w1) (hB : ∀ k, M k → B ≤ k) (hs : B ≤ w.heap.size) : Below B w w1 := ⟨h.os, h.tape, h.output, h.size, fun k hk => h.block k (by omega) (fun hm => by have := hB k hm; omega)⟩
theorem But.mono {M' : Nat → Prop} (h : But M w w1) (hm : ∀ k, M k → M' k) : But M' w w1 := ⟨h.os, h.tape, h.output, h.size, fun k hk hn => h.block k hk (fun e => hn (hm k e))⟩
theorem RowAt.but {t : TypeId} {cs : Array Value} (h : RowAt w q t cs) (hb : But M w w1) (hq : ¬ M q) : RowAt w1 q t cs := (hb.block q h.lt hq).trans h
theorem TblsAt.but {lo tb : Nat} {fs : List Fac} (h : TblsAt w lo tb fs) (hb : But M w w1) (hM : ∀ k, M k → k < lo) : TblsAt w1 lo tb fs := h.same fun k h1 h2 => hb.block k h2 (fun hm => by have := hM k hm; omega)
end
def JDone (W : World) (lo go gt : Nat) (t : Bool) (fs : List Fac) : Prop :=
 RowAt W go 97 (onceC 1 0) ∧ ((rightS t fs = false ∧ RowAt W gt 98 #[.slice none 0 0]) ∨ (rightS t fs = true ∧ ∃ tb, RowAt W gt 98 #[.slice (some ⟨tb, 0, none⟩) 8 8] ∧ TblsAt W lo tb fs))
def JSt (W : World) (lo go gt : Nat) (t : Bool) (fs : List Fac) : Prop :=
 (RowAt W go 97 (onceC 0 0) ∧ RowAt W gt 98 #[.slice none 0 0]) ∨ JDone W lo go gt t fs
theorem JDone.but {M : Nat → Prop} {W W' : World} {lo go gt : Nat} {t : Bool} {fs : List Fac} (h : JDone W lo go gt t fs) (hb : But M W W') (h1 : ¬ M go) (h2 : ¬ M gt) (hM : ∀ k, M k → k < lo) : JDone W' lo go gt t fs := by
 obtain ⟨h3, h4⟩ := h
 refine ⟨h3.but hb h1, ?_⟩
 rcases h4 with ⟨h5, h6⟩ | ⟨h5, tb, h6, h7⟩
 ·exact .inl ⟨h5, h6.but hb h2⟩
 ·exact .inr ⟨h5, tb, h6.but hb h2, h7.but hb hM⟩
theorem JSt.but {M : Nat → Prop} {W W' : World} {lo go gt : Nat} {t : Bool} {fs : List Fac} (h : JSt W lo go gt t fs) (hb : But M W W') (h1 : ¬ M go) (h2 : ¬ M gt) (hM : ∀ k, M k → k < lo) : JSt W' lo go gt t fs := by
 rcases h with ⟨h3, h4⟩ | h
 ·exact .inl ⟨h3.but hb h1, h4.but hb h2⟩
 ·exact .inr (h.but hb h1 h2 hM)
structure JIn (W : World) (lo go gp gt gs : Nat) (t : Bool) (A : Option Addr) (c : Nat) (fs : List Fac) : Prop where
 prep : RowAt W gp 1 #[.func (.func 41) #[] #[.pointer (some ⟨gs, 0, none⟩), .pointer (some ⟨gt, 0, none⟩)]]
 shp : RowAt W gs 24 (sv t A fs.length c)
 lol : lo ≤ W.heap.size
 glo : go < lo
 tlo : gt < lo
 ne : gs ≠ go ∧ gs ≠ gt ∧ gp ≠ go ∧ gp ≠ gt
 st : JSt W lo go gt t fs
theorem joinS_tbl {t : Bool} {fs : List Fac} (h : rightS t fs = true) {i : Nat} (x y : Nat) : joinS fs i x y = if i < fs.length ∧ (fs.getD i f0).kind = 4 then tblW (fs.getD i f0).n (fs.getD i f0).l x y else x ||| y := by
 unfold rightS at h
 simp only [Bool.and_eq_true, List.all_eq_true] at h
 unfold joinS joinW
 by_cases h1 : i < fs.length
 ·rw [if_pos h1]
  by_cases h2 : (fs.getD i f0).kind = 4
  ·rw [if_pos h2, if_pos ⟨h1, h2⟩]
   have hv := h.2 _ (getD_memF h1)
   rcases facB_kind hv with h3 | h3 | h3 | h3
   ·omega
   ·omega
   ·omega
   ·exact (tbl_raise h3.2 x y).symm
  ·rw [if_neg h2, if_neg (fun h => h2 h.2)]
 ·rw [if_neg h1, if_neg (fun h => h1 h.1)]
theorem tcall_any {t : Bool} {fs : List Fac} (hr : rightS t fs = true) {lo tb i : Nat} (hi : i < 8) {W : World} (hW : TblsAt W lo tb fs) : ∃ m s, (∀ W' : World, W'.heap[tb]? = W.heap[tb]? → W'.cell? ⟨tb, i * 2, none⟩ = some m ∧ W'.cell? ⟨tb, i * 2 + 1, none⟩ = some s) ∧
 ∀ (W' : World) (x y : Nat), (∀ k, lo ≤ k → k < W.heap.size → W'.heap[k]? = W.heap[k]?) → x < 18446744073709551616 → y < 18446744073709551616 →
   Calls Tryz.prog 45 #[.agg #[m, s], .int .u64 (x : Int), .int .u64 (y : Int)] W' fun e w' => e = .returned (.int .u64 ((joinS fs i x y : Nat) : Int)) ∧ Below W'.heap.size W' w' := by
 obtain ⟨cur, h1, h2, h3, h4⟩ := hW
 obtain ⟨m, s, h5, h6, h7⟩ := h4 i hi
 refine ⟨m, s, fun W' hW' => ?_, fun W' x y hk hx hy => ?_⟩
 ·have hr' : RowAt W' tb 104 cur := hW'.trans h2
  exact ⟨(hr'.cell _).trans h5, (hr'.cell _).trans h6⟩
 ·rw [joinS_tbl hr]
  split
  ·rename_i hc
   rw [if_pos hc] at h7
   obtain ⟨mb, jb, c, rfl, rfl, h8⟩ := h7
   exact tjoin_any lo mb jb c _ _ x y hx hy W' (h8.same hk)
  ·rename_i hc
   rw [if_neg hc] at h7
   obtain ⟨rfl, rfl⟩ := h7
   exact tjoin0_any x y hx hy W'
end
end Go.Proofs.YtdahllhbpdbknaaGreatDoor
