/- Texts that all the claims need. Conditions: those that each states. -/

import Derived.Test.YtnfndapgcpdcpaaGreatDoorFa2
import Derived.Test.YtnfndapgcpdcpaaGreatDoorFa12
set_option linter.unusedSimpArgs false
set_option linter.unusedVariables false
set_option maxRecDepth 100000
set_option maxHeartbeats 40000000
namespace Go.Proofs.YtnfndapgcpdcpaaGreatDoor
section
open Go.RowKit RM Go.Maps
structure Vl where
 s : ByteArray
 e : {l : List Nat // EW l}
abbrev El := {l : List Nat // EW l}
theorem vl_ext {x y : Vl} (h1 : x.s = y.s) (h2 : x.e.1 = y.e.1) : x = y := by
 obtain ⟨s, e, he⟩ := x
 obtain ⟨t, f, hf⟩ := y
 simp only at h1 h2
 subst h1 h2
 rfl
instance : DecidableEq Vl := fun x y => if h : x.s = y.s ∧ x.e.1 = y.e.1 then isTrue (vl_ext h.1 h.2) else isFalse fun e => h (by rw [e]; exact ⟨rfl, rfl⟩)
theorem EW_zero : EW (List.replicate 8 0) := EW.zeros
def el0 : El := ⟨List.replicate 8 0, EW_zero⟩
def vl0 : Vl := ⟨⟨#[]⟩, el0⟩
def elC (e : El) : List Value := ucells e.1
theorem elC_len (e : El) : (elC e).length = 8 := by unfold elC; rw [ucells_length]; exact e.2.1
def vlC (x : Vl) : List Value := .string x.s :: ucells x.e.1
theorem vlC_len (x : Vl) : (vlC x).length = 9 := by
 unfold vlC
 rw [zA8, ucells_length, x.e.2.1]
structure Rw where
 A : Option Addr
 c : Nat
 l : List Vl
def rw0 : Rw := ⟨none, 0, []⟩
def rwC (r : Rw) : List Value := [.slice r.A r.l.length r.c]
theorem rwC_len (r : Rw) : (rwC r).length = 1 := rfl
structure As where
 LA : Option Addr
 lc : Nat
 ls : List El
 RA : Option Addr
 rc : Nat
 rs : List Rw
def asv (a : As) : Array Value := #[.slice a.LA a.ls.length a.lc, .slice a.RA a.rs.length a.rc]
structure RwIn (w : World) (r : Rw) : Prop where
 at_ : Ls vlC w r.A r.l
 le : r.l.length ≤ r.c
 cap : r.c ≤ maxLen
 nil : r.A = none → r.c = 0
 name : ∀ v ∈ r.l, v.s.size ≤ maxLen
theorem RwIn.below {w w' : World} {r : Rw} (h : RwIn w r) (hb : Below w.heap.size w w') : RwIn w' r := ⟨h.at_.below hb, h.le, h.cap, h.nil, h.name⟩
structure AsIn (w : World) (a : As) : Prop where
 lab : Ls elC w a.LA a.ls
 lle : a.ls.length ≤ a.lc
 lcap : a.lc ≤ maxLen
 rows : Ls rwC w a.RA a.rs
 rle : a.rs.length ≤ a.rc
 rcap : a.rc ≤ maxLen
 row : ∀ r ∈ a.rs, RwIn w r
theorem AsIn.below {w w' : World} {a : As} (h : AsIn w a) (hb : Below w.heap.size w w') : AsIn w' a :=
 ⟨h.lab.below hb, h.lle, h.lcap, h.rows.below hb, h.rle, h.rcap, fun r hr => (h.row r hr).below hb⟩
theorem elC_one (e : El) : ∀ v ∈ elC e, v.oneCell' = true := by
 intro v hv
 unfold elC ucells at hv
 obtain ⟨x, _, rfl⟩ := List.mem_map.1 hv
 rfl
theorem vlC_one (x : Vl) : ∀ v ∈ vlC x, v.oneCell' = true := by
 intro v hv
 unfold vlC at hv
 rcases List.mem_cons.1 hv with rfl | hv
 ·rfl
 ·exact elC_one x.e v hv
theorem vlCs_one (l : List Vl) : ∀ v ∈ l.flatMap vlC, v.oneCell' = true := by
 intro v hv
 obtain ⟨x, _, hx⟩ := List.mem_flatMap.1 hv
 exact vlC_one x v hx
theorem vlCs_len (l : List Vl) : (l.flatMap vlC).length = l.length * 9 := by
 induction l with
 | nil => rfl
 | cons x l ih => rw [List.flatMap_cons, zA7, vlC_len, ih, zA8]; omega
section
variable {P : Program}
theorem run_copy_wide (w : World) (dT sT ty elem : TypeId) (sz g o dLen dCap : Nat) (a : Addr) (sLen sCap : Nat) (cur : Array Value) (t : TypeId) (cs : List Value)
 (hu : P.underlying dT = some (.slice elem)) (hs : (P.info? elem).map (·.size) = some sz)
 (hg : w.heap[g]? = some (.cells cur t (0, 0))) (hn : cs.length = Nat.min sLen dLen * sz)
 (hsrc : ∀ j v, cs[j]? = some v → w.cell? (a.add j) = some v) (hfit : o + cs.length ≤ cur.size) (h1 : ∀ v ∈ cs, v.oneCell' = true) :
 (Builtin.copy_ #[dT, sT] ty #[.slice (some ⟨g, o, none⟩) dLen dCap, .slice (some a) sLen sCap]).run P w =
  .ok (goInt (Nat.min sLen dLen : Nat)) (w.setRow g (cur.toList.take o ++ cs ++ cur.toList.drop (o + cs.length)).toArray) := by
 have hl := run_loadCells_list (P := P) w a cs hsrc
 have hst := run_storeCells_at P g o t cs 0 cur w hg (by simpa using hfit) h1
 cases hq : P.info? elem with
 | none => simp [hq] at hs
 | some i =>
   have hi : i.size = sz := by simpa [hq] using hs
   rw [hn] at hl
   simp [Builtin.copy_, run_underlying hu, Builtin.lenOf, Builtin.firstCells, sizeOf, typeInfo, hq, hi, hl, hst]
theorem run_copy_zero (w : World) (dT sT ty elem : TypeId) (sz : Nat) (d a : Option Addr) (dLen dCap sLen sCap : Nat) (hu : P.underlying dT = some (.slice elem)) (hs : (P.info? elem).map (·.size) = some sz) (hn : Nat.min sLen dLen = 0) :
 (Builtin.copy_ #[dT, sT] ty #[.slice d dLen dCap, .slice a sLen sCap]).run P w = .ok (goInt 0) w := by
 cases hq : P.info? elem with
 | none => simp [hq] at hs
 | some i =>
   have hl : ∀ (x : Addr), (loadCells x 0).run P w = .ok #[] w := fun x => by simpa using run_loadCells_list (P := P) w x [] (by simp)
   cases d <;> cases a <;> simp [Builtin.copy_, run_underlying hu, Builtin.lenOf, Builtin.firstCells, sizeOf, typeInfo, hq, hn, storeCells, hl]
theorem wp_copy_wide {w : World} {o : Oper} {a : Act} {K : Act → World → Prop} {Q : Exit → Act → World → Prop} (d s : Operand) (dT sT : TypeId)
 (ho : o.op = .call { callee := .builtin .copy, args := #[d, s], argTypes := #[dT, sT] }) (elem : TypeId) (sz : Nat) (hu : P.underlying dT = some (.slice elem)) (hsz : (P.info? elem).map (·.size) = some sz)
 (dp sp : Option Addr) (dLen dCap sLen sCap : Nat) (hd : a.eval d = .slice dp dLen dCap) (hs : a.eval s = .slice sp sLen sCap)
 (g off : Nat) (cur : List Value) (t : TypeId) (hg : w.heap[g]? = some (.cells cur.toArray t (0, 0))) (cs : List Value) (hn : cs.length = Nat.min sLen dLen * sz) (hz : 0 < sz)
 (hpos : 0 < cs.length → dp = some ⟨g, off, none⟩ ∧ ∃ ad, sp = some ad ∧ ∀ j v, cs[j]? = some v → w.cell? (ad.add j) = some v)
 (hfit : off + cs.length ≤ cur.length) (h1 : ∀ v ∈ cs, v.oneCell' = true) (B : Nat) (w0 : World) (hb : Below B w0 w) (hBg : B ≤ g)
 (h : ∀ w', Hid (w'.heap[g]? = some (.cells (splice cur off cs).toArray t (0, 0))) → Below B w0 w' → K (a.put o.dst (goInt (Nat.min sLen dLen : Nat))) w') :
 o.wp P a w K Q := by
 by_cases h0 : Nat.min sLen dLen = 0
 ·have hc : cs = [] := List.eq_nil_of_length_eq_zero (by rw [hn, h0]; omega)
  subst hc
  have hrun := run_copy_zero (P := P) w dT sT o.type elem sz dp sp dLen dCap sLen sCap hu hsz h0
  have hk := h w (show _ = _ by simpa [splice] using hg) hb
  unfold Oper.wp
  simp [execOp, ho, resolve, invoke, builtin, hd, hs, hrun, Result.andThen]
  rw [h0] at hk
  exact hk
 ·obtain ⟨rfl, ad, rfl, hsrc⟩ := hpos (by rw [hn]; exact Nat.mul_pos (by omega) hz)
  have hrun := run_copy_wide (P := P) w dT sT o.type elem sz g off dLen dCap ad sLen sCap cur.toArray t cs hu hsz hg hn hsrc (by simpa using hfit) h1
  have hk := h (w.setRow g (cur.take off ++ cs ++ cur.drop (off + cs.length)).toArray) (show _ = _ by simpa [splice] using setRow_heap w g _ _ t _ hg) (below_setRow hb hBg _)
  unfold Oper.wp
  simp [execOp, ho, resolve, invoke, builtin, hd, hs, hrun, Result.andThen]
  rw [List.append_assoc] at hk
  exact hk
theorem wpList_copy_wide {w : World} {ops : Array Oper} {rest : List Oper} {o : Oper} {a : Act} {Q : Exit → Act → World → Prop} (hgd : o.guard = none) (d s : Operand) (dT sT : TypeId)
 (ho : o.op = .call { callee := .builtin .copy, args := #[d, s], argTypes := #[dT, sT] }) (elem : TypeId) (sz : Nat) (hu : P.underlying dT = some (.slice elem)) (hsz : (P.info? elem).map (·.size) = some sz)
 (dp sp : Option Addr) (dLen dCap sLen sCap : Nat) (hd : a.eval d = .slice dp dLen dCap) (hs : a.eval s = .slice sp sLen sCap)
 (g off : Nat) (cur : List Value) (t : TypeId) (hg : w.heap[g]? = some (.cells cur.toArray t (0, 0))) (cs : List Value) (hn : cs.length = Nat.min sLen dLen * sz) (hz : 0 < sz)
 (hpos : 0 < cs.length → dp = some ⟨g, off, none⟩ ∧ ∃ ad, sp = some ad ∧ ∀ j v, cs[j]? = some v → w.cell? (ad.add j) = some v)
 (hfit : off + cs.length ≤ cur.length) (h1 : ∀ v ∈ cs, v.oneCell' = true) (B : Nat) (w0 : World) (hb : Below B w0 w) (hBg : B ≤ g)
 (h : ∀ w', Hid (w'.heap[g]? = some (.cells (splice cur off cs).toArray t (0, 0))) → Below B w0 w' → wpList P ops Q rest (a.put o.dst (goInt (Nat.min sLen dLen : Nat))) w') :
 wpList P ops Q (o :: rest) a w :=
 wpList_plain hgd fun K hK => wp_copy_wide d s dT sT ho elem sz hu hsz dp sp dLen dCap sLen sCap hd hs g off cur t hg cs hn hz hpos hfit h1 B w0 hb hBg fun w' h1 h2 => hK _ _ (h w' h1 h2)
end
end
section
open Go.RowKit RM Go.Maps
def ixV (l : List Vl) (o : ByteArray) : Int := NM.fst (fun j => decide ((l.getD j vl0).s = o)) l.length
def fdV (l : List Vl) (o : ByteArray) : Option Vl := l.find? (fun v => decide (v.s = o))
theorem getD_lt {α : Type} {l : List α} {i : Nat} (d : α) (h : i < l.length) : l.getD i d = l[i] := by
 rw [List.getD_eq_getElem?_getD, List.getElem?_eq_getElem h]; rfl
theorem ixV_cases (l : List Vl) (o : ByteArray) : (∃ k, ∃ h : k < l.length, ixV l o = k ∧ l[k].s = o ∧ (∀ j (hj : j < k), l[j].s ≠ o) ∧ fdV l o = some l[k]) ∨ (ixV l o = -1 ∧ (∀ v ∈ l, v.s ≠ o) ∧ fdV l o = none) := by
 unfold ixV
 rcases NM.fst_cases (fun j => decide ((l.getD j vl0).s = o)) l.length with ⟨k, hk, e, hp, h0⟩ | ⟨e, h0⟩
 ·have hp2 : l[k].s = o := by rw [getD_lt _ hk] at hp; simpa using hp
  have h2 : ∀ j (hj : j < k), l[j].s ≠ o := fun j hj => by
   have := h0 j hj
   rw [getD_lt _ (by omega)] at this
   simpa using this
  refine .inl ⟨k, hk, e, hp2, h2, ?_⟩
  unfold fdV
  rw [List.find?_eq_some_iff_getElem]
  exact ⟨by simpa using hp2, k, hk, rfl, fun j hj => by simpa using h2 j hj⟩
 ·have h2 : ∀ v ∈ l, v.s ≠ o := fun v hv => by
   obtain ⟨i, hi, rfl⟩ := List.mem_iff_getElem.1 hv
   have := h0 i hi
   rw [getD_lt _ hi] at this
   simpa using this
  refine .inr ⟨e, h2, ?_⟩
  unfold fdV
  rw [List.find?_eq_none]
  intro v hv
  simpa using h2 v hv
def getV (l : List Vl) (o : ByteArray) : El × Bool := match fdV l o with | some v => (v.e, true) | none => (el0, false)
theorem getV_hit {l : List Vl} {o : ByteArray} (h : 0 ≤ ixV l o) : getV l o = ((l.getD (ixV l o).toNat vl0).e, true) := by
 rcases ixV_cases l o with ⟨k, hk, e, _, _, hf⟩ | ⟨e, _⟩
 ·unfold getV
  rw [hf, e]
  show _ = ((l.getD ((k : Int)).toNat vl0).e, true)
  rw [Int.toNat_natCast, getD_lt _ hk]
 ·rw [e] at h; omega
theorem getV_miss {l : List Vl} {o : ByteArray} (h : ixV l o < 0) : getV l o = (el0, false) := by
 rcases ixV_cases l o with ⟨k, hk, e, _⟩ | ⟨e, _, hf⟩
 ·rw [e] at h; omega
 ·unfold getV
  rw [hf]
def lsV (l : List Vl) (o : ByteArray) : Int := NM.fst (fun j => NM.less o (l.getD j vl0).s) l.length
def poV (l : List Vl) (o : ByteArray) : Nat := if 0 ≤ ixV l o then (ixV l o).toNat else if 0 ≤ lsV l o then (lsV l o).toNat else l.length
def reV (l : List Vl) (o : ByteArray) : Nat := if 0 ≤ ixV l o then poV l o + 1 else poV l o
def wiV (l : List Vl) (o : ByteArray) (e : El) : List Vl := l.take (poV l o) ++ ⟨o, e⟩ :: l.drop (reV l o)
theorem ixV_lt (l : List Vl) (o : ByteArray) : -1 ≤ ixV l o ∧ ixV l o < l.length := NM.fst_bd _ _
theorem lsV_lt (l : List Vl) (o : ByteArray) : -1 ≤ lsV l o ∧ lsV l o < l.length := NM.fst_bd _ _
theorem poV_le (l : List Vl) (o : ByteArray) : poV l o ≤ l.length := by
 have h1 := ixV_lt l o
 have h2 := lsV_lt l o
 unfold poV
 split
 ·omega
 ·split <;> omega
theorem reV_le (l : List Vl) (o : ByteArray) : reV l o ≤ l.length := by
 have h1 := ixV_lt l o
 have h2 := poV_le l o
 unfold reV
 split
 ·rename_i h
  unfold poV
  rw [if_pos h]
  omega
 ·exact h2
theorem poV_re (l : List Vl) (o : ByteArray) : poV l o ≤ reV l o := by unfold reV; split <;> omega
theorem wiV_len (l : List Vl) (o : ByteArray) (e : El) : (wiV l o e).length = poV l o + 1 + l.length - reV l o := by
 have h1 := poV_le l o
 have h2 := reV_le l o
 unfold wiV
 rw [zA7, List.length_take, zA8, List.length_drop]
 omega
theorem fdV_app (a b : List Vl) (o : ByteArray) : fdV (a ++ b) o = (fdV a o).or (fdV b o) := by unfold fdV; rw [List.find?_append]
theorem fdV_none {l : List Vl} {o : ByteArray} (h : ∀ v ∈ l, v.s ≠ o) : fdV l o = none := by
 unfold fdV
 rw [List.find?_eq_none]
 intro v hv
 simpa using h v hv
theorem fdV_cons (x : Vl) (l : List Vl) (o : ByteArray) : fdV (x :: l) o = if x.s = o then some x else fdV l o := by
 unfold fdV
 rw [List.find?_cons]
 by_cases h : x.s = o
 ·simp [h]
 ·simp [h]
theorem take_miss {l : List Vl} {o : ByteArray} : ∀ v ∈ l.take (poV l o), v.s ≠ o := by
 intro v hv
 obtain ⟨j, hj, rfl⟩ := List.mem_iff_getElem.1 hv
 rw [List.length_take] at hj
 rw [List.getElem_take]
 rcases ixV_cases l o with ⟨k, hk, e, _, h2, _⟩ | ⟨e, h2, _⟩
 ·have : poV l o = k := by unfold poV; rw [e, if_pos (by omega)]; rfl
  exact h2 j (by omega)
 ·exact h2 _ (List.getElem_mem (by omega))
theorem getV_same (l : List Vl) (o : ByteArray) (e : El) : getV (wiV l o e) o = (e, true) := by
 unfold getV wiV
 rw [fdV_app, fdV_none take_miss, fdV_cons, if_pos rfl]
 rfl
theorem getV_else (l : List Vl) {o p : ByteArray} (e : El) (h : p ≠ o) : getV (wiV l o e) p = getV l p := by
 have key : fdV (wiV l o e) p = fdV l p := by
  unfold wiV
  rw [fdV_app, fdV_cons, if_neg (fun h2 => h h2.symm)]
  rcases ixV_cases l o with ⟨k, hk, e1, e2, h2, _⟩ | ⟨e1, h2, _⟩
  ·have hp : poV l o = k := by unfold poV; rw [e1, if_pos (by omega)]; rfl
   have hr : reV l o = k + 1 := by unfold reV; rw [e1, if_pos (by omega), hp]
   rw [hp, hr]
   have : fdV l p = fdV (l.take k ++ l.drop k) p := by rw [List.take_append_drop]
   rw [this, fdV_app, List.drop_eq_getElem_cons hk, fdV_cons, if_neg (by rw [e2]; exact fun h3 => h h3.symm)]
  ·have hr : reV l o = poV l o := by unfold reV; rw [if_neg (by omega)]
   rw [hr, ← fdV_app, List.take_append_drop]
 unfold getV
 rw [key]
def wiK (l : List Vl) (o : ByteArray) (e : El) (k : Nat) : List Vl := if k ≤ poV l o then l.take k else (wiV l o e).take (k + 1 - (reV l o - poV l o))
theorem wiK_zero (l : List Vl) (o : ByteArray) (e : El) : wiK l o e 0 = [] := by unfold wiK; rw [if_pos (by omega)]; rfl
theorem takeV_snoc {α : Type} (l : List α) (d : α) {k : Nat} (h : k < l.length) : l.take (k + 1) = l.take k ++ [l.getD k d] := by
 rw [List.take_add_one, List.getElem?_eq_getElem h, getD_lt d h]; rfl
theorem wiV_at {l : List Vl} {o : ByteArray} {e : El} {k : Nat} (h : reV l o ≤ k) (hk : k < l.length) : (wiV l o e).getD (k + 1 - (reV l o - poV l o)) vl0 = l.getD k vl0 := by
 have h1 := poV_le l o
 have h2 := reV_le l o
 have h3 := poV_re l o
 unfold wiV
 rw [List.getD_eq_getElem?_getD, List.getElem?_append_right (by rw [List.length_take]; omega), List.length_take, show k + 1 - (reV l o - poV l o) - min (poV l o) l.length = (k - reV l o) + 1 by omega, zA2, List.getElem?_drop, show reV l o + (k - reV l o) = k by omega, ← List.getD_eq_getElem?_getD]
theorem wiK_early {l : List Vl} {o : ByteArray} {e : El} {k : Nat} (h : k < poV l o) : wiK l o e (k + 1) = wiK l o e k ++ [l.getD k vl0] := by
 have h1 := poV_le l o
 unfold wiK
 rw [if_pos (by omega), if_pos (by omega), takeV_snoc l vl0 (by omega)]
theorem wiK_late {l : List Vl} {o : ByteArray} {e : El} {k : Nat} (h : poV l o < k) (hk : k < l.length) : wiK l o e (k + 1) = wiK l o e k ++ [l.getD k vl0] := by
 have h1 := poV_le l o
 have h2 := reV_le l o
 have h3 := poV_re l o
 have h4 : reV l o ≤ poV l o + 1 := by unfold reV; split <;> omega
 have hlen := wiV_len l o e
 have hl : k + 1 - (reV l o - poV l o) < (wiV l o e).length := by omega
 unfold wiK
 rw [if_neg (by omega), if_neg (by omega), show k + 1 + 1 - (reV l o - poV l o) = (k + 1 - (reV l o - poV l o)) + 1 by omega, takeV_snoc _ vl0 hl, wiV_at (by omega) hk]
theorem wiK_put {l : List Vl} {o : ByteArray} {e : El} (hp : poV l o < l.length) (h : 0 ≤ ixV l o) : wiK l o e (poV l o + 1) = wiK l o e (poV l o) ++ [⟨o, e⟩] := by
 have hr : reV l o = poV l o + 1 := by unfold reV; rw [if_pos h]
 unfold wiK
 rw [if_neg (by omega), if_pos (by omega), hr, show poV l o + 1 + 1 - (poV l o + 1 - poV l o) = poV l o + 1 by omega]
 unfold wiV
 have hlt : (l.take (poV l o)).length = poV l o := by rw [List.length_take]; omega
 rw [List.take_append, hlt, show poV l o + 1 - poV l o = 1 by omega, List.take_of_length_le (by omega)]
 rfl
theorem wiK_ins {l : List Vl} {o : ByteArray} {e : El} (hp : poV l o < l.length) (h : ¬ 0 ≤ ixV l o) : wiK l o e (poV l o + 1) = wiK l o e (poV l o) ++ [⟨o, e⟩] ++ [l.getD (poV l o) vl0] := by
 have hr : reV l o = poV l o := by unfold reV; rw [if_neg h]
 unfold wiK
 rw [if_neg (by omega), if_pos (by omega), hr, show poV l o + 1 + 1 - (poV l o - poV l o) = poV l o + 2 by omega]
 unfold wiV
 have hlt : (l.take (poV l o)).length = poV l o := by rw [List.length_take]; omega
 rw [List.take_append, hlt, show poV l o + 2 - poV l o = 2 by omega, List.take_of_length_le (by omega), hr, List.drop_eq_getElem_cons hp, getD_lt _ hp, List.append_assoc]
 rfl
theorem wiK_end {l : List Vl} {o : ByteArray} {e : El} (h : poV l o < l.length) : wiK l o e l.length = wiV l o e := by
 have h1 := poV_le l o
 have h2 := reV_le l o
 have h3 := poV_re l o
 have h4 : reV l o ≤ poV l o + 1 := by unfold reV; split <;> omega
 unfold wiK
 rw [if_neg (by omega)]
 exact List.take_of_length_le (by rw [wiV_len]; omega)
theorem wiK_last {l : List Vl} {o : ByteArray} {e : El} (h : poV l o = l.length) : wiK l o e l.length ++ [⟨o, e⟩] = wiV l o e := by
 have hr : reV l o = l.length := by
  have h1 := reV_le l o
  have h2 := poV_re l o
  omega
 unfold wiK wiV
 rw [if_pos (by omega), h, hr, List.drop_length]
end
section
open Go.RowKit RM Go.Maps
def lqV (m : List Vl) (v : Vl) : Bool := (getV m v.s).2 && leqE v.e.1 (getV m v.s).1.1
def lqR (l m : List Vl) : Bool := l.all (lqV m)
def lqL (a b : List El) : Bool := (List.range a.length).all fun i => leqE (a.getD i el0).1 (b.getD i el0).1
def As.fs (a : As) : List (List Vl) := a.rs.map Rw.l
theorem all_hit {α : Type} {p : α → Bool} {l : List α} (d : α) (k : Nat) (h : k < l.length) (hk : p (l.getD k d) = false) : l.all p = false := by
 rw [List.all_eq_false]
 exact ⟨l.getD k d, getD_mem' h, by rw [hk]; simp⟩
theorem all_done {α : Type} {p : α → Bool} {l : List α} (d : α) (h : ∀ i, i < l.length → p (l.getD i d) = true) : l.all p = true := by
 rw [List.all_eq_true]
 intro x hx
 obtain ⟨i, hi, rfl⟩ := List.mem_iff_getElem.1 hx
 have := h i hi
 rwa [getD_lt d hi] at this
theorem rng_hit {p : Nat → Bool} {n k : Nat} (h : k < n) (hk : p k = false) : (List.range n).all p = false := by
 rw [List.all_eq_false]
 exact ⟨k, List.mem_range.2 h, by rw [hk]; simp⟩
theorem rng_done {p : Nat → Bool} {n : Nat} (h : ∀ i, i < n → p i = true) : (List.range n).all p = true := by
 rw [List.all_eq_true]
 intro i hi
 exact h i (List.mem_range.1 hi)
end
end Go.Proofs.YtnfndapgcpdcpaaGreatDoor
