/- Texts that all the claims need. Conditions: those that each states. -/

import Derived.Test.YtnfndapgcpdcpaaGreatDoorFa16
import Derived.Test.YtnfndapgcpdcpaaGreatDoorFa17
set_option linter.unusedSimpArgs false
set_option linter.unusedVariables false
set_option maxRecDepth 100000
set_option maxHeartbeats 40000000
namespace Go.Proofs.YtnfndapgcpdcpaaGreatDoor
section
open Go.RowKit
structure Sc where
 LA : Option Addr
 lc : Nat
 ls : List (ByteArray × Shp)
 VA : Option Addr
 vc : Nat
 vs : List (ByteArray × Int × Int)
def latC (x : ByteArray × Shp) : List Value := [.string x.1, .bool x.2.t, .slice x.2.A x.2.fs.length x.2.c]
def lat0 : ByteArray × Shp := (⟨#[]⟩, s0)
def var0 : ByteArray × Int × Int := (⟨#[]⟩, 0, 0)
def scv (s : Sc) : Array Value := #[.slice s.LA s.ls.length s.lc, .slice s.VA s.vs.length s.vc]
def Sc.lnms (s : Sc) : List ByteArray := s.ls.map (·.1)
def Sc.vnms (s : Sc) : List ByteArray := s.vs.map (·.1)
structure ScOk (w : World) (s : Sc) : Prop where
 lats : Ls latC w s.LA s.ls
 sh : ∀ l ∈ s.ls, ShOk w l.2
 vars : Ls varC w s.VA s.vs
 lnil : s.LA = none → s.lc = 0
 vnil : s.VA = none → s.vc = 0
 lfew : s.ls.length ≤ 65536
 vfew : s.vs.length ≤ 65536
 lnm : ∀ x ∈ s.lnms, x.size ≤ maxLen
 vnm : ∀ x ∈ s.vnms, x.size ≤ maxLen
theorem ScOk.below {w w' : World} {s : Sc} (h : ScOk w s) (hb : Below w.heap.size w w') : ScOk w' s :=
 ⟨h.lats.below hb, fun l hl => (h.sh l hl).below hb, h.vars.below hb, h.lnil, h.vnil, h.lfew, h.vfew, h.lnm, h.vnm⟩
end
section
open Go.RowKit
structure Up (g : Nat) (v v' : Value) (w w' : World) : Prop where
 low : Below g w w'
 blk : ∀ k, k < w.heap.size → k ≠ g → v.ownBlock ≠ some k → w'.heap[k]? = w.heap[k]?
 row : v'.ownBlock = v.ownBlock ∨ ∃ b, v'.ownBlock = some b ∧ w.heap.size ≤ b
section
variable {g : Nat} {v v1 v2 : Value} {w w1 w2 : World}
theorem Up.refl (g : Nat) (v : Value) (w : World) : Up g v v w w := ⟨zB _ _, fun _ _ _ _ => rfl, .inl rfl⟩
theorem Up.ne (h : Up g v v1 w w1) {k : Nat} (hk : k < w.heap.size) (hv : v.ownBlock ≠ some k) : v1.ownBlock ≠ some k := by
 rcases h.row with e | ⟨b, e, hb⟩
 ·rw [e]; exact hv
 ·rw [e]; intro e2; cases e2; omega
theorem Up.trans (h : Up g v v1 w w1) (h2 : Up g v1 v2 w1 w2) : Up g v v2 w w2 := by
 refine ⟨h.low.trans h2.low, fun k hk hne hv => ?_, ?_⟩
 ·exact (h2.blk k (zT hk h.low.size) hne (h.ne hk hv)).trans (h.blk k hk hne hv)
 ·rcases h2.row with e | ⟨b, e, hb⟩
  ·rcases h.row with e2 | ⟨b, e2, hb⟩
   ·exact .inl (e.trans e2)
   ·exact .inr ⟨b, e.trans e2, hb⟩
  ·exact .inr ⟨b, e, zM h.low.size hb⟩
theorem Up.below (hg : g ≤ w.heap.size) (h : Below w.heap.size w w1) : Up g v v w w1 := ⟨h.mono hg, fun k hk _ _ => h.block k hk, .inl rfl⟩
theorem Up.size (h : Up g v v1 w w1) : w.heap.size ≤ w1.heap.size := h.low.size
end
end
section
open Go.RowKit
structure Cd where
 op : Int
 p : Int
 n : ByteArray × Int
 A : Option Addr
 c : Nat
 ws : List (ByteArray × Int)
 B : Option Addr
 d : Nat
 ps : List ((ByteArray × Int) × (ByteArray × Int))
 pp : Int
 rest : List Value
def Cd.txt (x : Cd) : List ByteArray := x.ws.map Prod.fst
structure CdOk (w : World) (K : Nat) (x : Cd) : Prop where
 ws : Sl w K x.A (x.ws.flatMap wdC)
 ps : Sl w K x.B (x.ps.flatMap pwC)
 rest : x.rest.length = 10
 wfew : x.ws.length ≤ 65536
 pfew : x.ps.length ≤ 65536
 nn : x.n.1.size ≤ maxLen
 wn : ∀ t ∈ x.txt, t.size ≤ maxLen
 pn : ∀ p ∈ x.ps, p.1.1.size ≤ maxLen ∧ p.2.1.size ≤ maxLen
theorem CdOk.below {w w' : World} {K : Nat} {x : Cd} (h : CdOk w K x) (hb : Below K w w') : CdOk w' K x := ⟨Sl.below h.ws hb, Sl.below h.ps hb, h.rest, h.wfew, h.pfew, h.nn, h.wn, h.pn⟩
theorem CdOk.mono {w : World} {K K' : Nat} {x : Cd} (h : CdOk w K x) (hb : K ≤ K') : CdOk w K' x := ⟨h.ws.mono hb, h.ps.mono hb, h.rest, h.wfew, h.pfew, h.nn, h.wn, h.pn⟩
def LiveOk (w : World) (fL fV : ByteArray → Int) (B1 B2 : Nat) : Prop := ∃ n1 n2, FMap w B1 n1 fL ∧ FMap w B2 n2 fV
section
variable {w w' : World} {fL fV : ByteArray → Int} {B1 B2 : Nat}
theorem LiveOk.below (h : LiveOk w fL fV B1 B2) (hb : Below w.heap.size w w') : LiveOk w' fL fV B1 B2 := by
 obtain ⟨n1, n2, h1, h2⟩ := h
 exact ⟨n1, n2, h1.below hb h1.lt, h2.below hb h2.lt⟩
theorem LiveOk.lo {K : Nat} (h : LiveOk w fL fV B1 B2) (hb : Below K w w') (h1 : B1 < K) (h2 : B2 < K) : LiveOk w' fL fV B1 B2 := by
 obtain ⟨n1, n2, h3, h4⟩ := h
 exact ⟨n1, n2, h3.below hb h1, h4.below hb h2⟩
theorem LiveOk.lt (h : LiveOk w fL fV B1 B2) : B1 < w.heap.size ∧ B2 < w.heap.size := by
 obtain ⟨n1, n2, h1, h2⟩ := h
 exact ⟨h1.lt, h2.lt⟩
end
end
section
open Go.RowKit
structure ScIn (w : World) (s : Sc) : Prop where
 lats : Ls latC w s.LA s.ls
 fac : ∀ l ∈ s.ls, Facs w l.2.A l.2.fs ∧ (l.2.A = none → l.2.c = 0)
 vars : Ls varC w s.VA s.vs
 lnil : s.LA = none → s.lc = 0
 vnil : s.VA = none → s.vc = 0
 lnm : ∀ x ∈ s.lnms, x.size ≤ maxLen
 vnm : ∀ x ∈ s.vnms, x.size ≤ maxLen
 lmax : s.ls.length ≤ maxLen
 vmax : s.vs.length ≤ maxLen
theorem ScIn.below {w w' : World} {s : Sc} (h : ScIn w s) (hb : Below w.heap.size w w') : ScIn w' s :=
 ⟨h.lats.below hb, fun l hl => ⟨(h.fac l hl).1.below hb, (h.fac l hl).2⟩, h.vars.below hb, h.lnil, h.vnil, h.lnm, h.vnm, h.lmax, h.vmax⟩
def lBig (l : ByteArray × Shp) : Bool := bigShB l.2.fs || decide (40 < l.1.size)
def vBig (v : ByteArray × Int × Int) : Bool := decide (40 < v.1.size)
def bigSc (s : Sc) : Bool := decide (20 < s.ls.length) || (decide (80 < s.vs.length) || (s.ls.any lBig || s.vs.any vBig))
theorem any_yes {α : Type} {xs : List α} {p : α → Bool} {k : Nat} {d : α} (hk : k < xs.length) (h : p (xs.getD k d) = true) : xs.any p = true := by
 rw [List.any_eq_true]
 exact ⟨_, getD_mem' hk, h⟩
theorem any_no {α : Type} {xs : List α} {p : α → Bool} (d : α) (h : ∀ k, k < xs.length → p (xs.getD k d) = false) : xs.any p = false := by
 rw [List.any_eq_false]
 intro y hy
 obtain ⟨i, hi, rfl⟩ := List.mem_iff_getElem.1 hy
 have := h i hi
 rw [List.getD_eq_getElem?_getD, List.getElem?_eq_getElem hi] at this
 simpa using this
theorem ScIn.ok {w : World} {s : Sc} (h : ScIn w s) (hb : bigSc s = false) : ScOk w s := by
 unfold bigSc at hb
 simp only [Bool.or_eq_false_iff, decide_eq_false_iff_not] at hb
 obtain ⟨h1, h2, h3, _⟩ := hb
 refine ⟨h.lats, fun l hl => ?_, h.vars, h.lnil, h.vnil, by omega, by omega, h.lnm, h.vnm⟩
 have hl2 := (List.any_eq_false.1 h3) l hl
 unfold lBig at hl2
 simp only [Bool.not_eq_true, Bool.or_eq_false_iff, decide_eq_false_iff_not] at hl2
 obtain ⟨e1, e2⟩ := big_no hl2.1
 exact ⟨(h.fac l hl).1, (h.fac l hl).2, by omega, fun f hf => by have := e2 f hf; omega⟩
end
end Go.Proofs.YtnfndapgcpdcpaaGreatDoor
