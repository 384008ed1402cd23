/- Texts that all the claims need. Conditions: those that each states. -/

import Derived.Test.YtmffnkfohmbbeaaGreatDoorCi12
set_option linter.unusedSimpArgs false
set_option linter.unusedVariables false
set_option maxRecDepth 100000
set_option maxHeartbeats 40000000
namespace Go.Proofs.YtmffnkfohmbbeaaGreatDoor
section
open Go.RowKit LX TR TM CM
section
variable {D : Nat} {w : World} {b : Nat} {A : Option Addr} {c : Nat} {l : List Tr} {e : Int} {f : Option Int}
theorem cterm_label (hD : 1 ≤ D) (hD2 : D ≤ 4294967296) (h : Cr w b A c l e f) (hN : (nodes l).length ≤ D - 1) :
 Calls Tryz.prog 115 #[.pointer (some ⟨b, 0, none⟩), .func (.func 116) #[] #[]] w fun e' w' => ∃ z A2 c2 l2 f2, e' = .returned (.agg (nv z)) ∧ DeepN w' (fun k => w.heap.size ≤ k) [z] ∧ Cr w' b A2 c2 l2 e f2 ∧ Mv b w w' ∧ StepL (labelR D) l e f (er1 z) l2 f2 := by
 obtain ⟨D, rfl⟩ : ∃ k, D = k + 1 := ⟨D - 1, by omega⟩
 exact cterm_any (fun args w => by kernel_rfl) (fun A c l i e w h1 h2 h3 => label_call D (by omega) A c l i e w h1 h2 h3) h hN
theorem cterm_row (hD : 1 ≤ D) (hD2 : D ≤ 4294967296) (h : Cr w b A c l e f) (hN : (nodes l).length ≤ D - 1) :
 Calls Tryz.prog 115 #[.pointer (some ⟨b, 0, none⟩), .func (.func 117) #[] #[]] w fun e' w' => ∃ z A2 c2 l2 f2, e' = .returned (.agg (nv z)) ∧ DeepN w' (fun k => w.heap.size ≤ k) [z] ∧ Cr w' b A2 c2 l2 e f2 ∧ Mv b w w' ∧ StepL (rowR D) l e f (er1 z) l2 f2 := by
 obtain ⟨D, rfl⟩ : ∃ k, D = k + 1 := ⟨D - 1, by omega⟩
 exact cterm_any (fun args w => by kernel_rfl) (fun A c l i e w h1 h2 h3 => row_call D (by omega) A c l i e w h1 h2 h3) h hN
end
namespace CM
def Hold (op : Nat) (p : Int) (x : Cm) (s : Cs) : Prop := x.op = op ∧ x.p = p ∧ x.n = s.n ∧ x.ws = s.ws ∧ x.ps = s.ps ∧ x.pp = s.pp ∧ er1 x.r = s.ts.getLastD n0 ∧ er1 x.l = s.ts.dropLast.getLastD n0
end CM
structure DeepC (w : World) (ok : Nat → Prop) (x : Cm) : Prop where
 ws : SlC w ok x.A (wcs x.ws)
 wc : x.ws.length ≤ x.c
 ps : SlC w ok x.B (pwcs x.ps)
 pc : x.ps.length ≤ x.d
 l : DeepN w ok [x.l]
 r : DeepN w ok [x.r]
section
variable {w w' : World} {ok ok' : Nat → Prop} {x : Cm} {b g B : Nat}
theorem DeepC.keep9 (h : DeepC w ok x) (hk : ∀ k, k < w.heap.size → ok k → w'.heap[k]? = w.heap[k]?) : DeepC w' ok x := ⟨h.ws.keep9 hk, h.wc, h.ps.keep9 hk, h.pc, h.l.keep9 hk, h.r.keep9 hk⟩
theorem DeepC.weak (h : DeepC w ok x) (hk : ∀ k, k < w.heap.size → ok k → ok' k) : DeepC w ok' x := ⟨h.ws.weak hk, h.wc, h.ps.weak hk, h.pc, h.l.weak hk, h.r.weak hk⟩
theorem DeepC.mv (h : DeepC w (fun k => B ≤ k ∧ k ≠ b ∧ k ≠ g) x) (hm : Mv2 b g w w') : DeepC w' (fun k => B ≤ k ∧ k ≠ b ∧ k ≠ g) x := h.keep9 fun k hk ho => hm.block k hk ho.2.1 ho.2.2
theorem Mv2.refl (b g : Nat) (w : World) : Mv2 b g w w := ⟨zB _ _, fun _ _ _ _ => rfl⟩
theorem Mv.two2 (h : Mv b w w') : Mv2 b g w w' := h.two g
end
theorem cmd_info (x : Cm) : (Tryz.prog.info? 30).map (·.size) = some (cv x).size := by kernel_rfl
def Parted (w : World) (b g B D op : Nat) (p : Int) (k : Nat) (s : Cs) (l : List Tr) (e : Int) (f : Option Int) (e' : Ending) (w' : World) : Prop :=
 ∃ (x2 : Cm) (A2 : Option Addr) (c2 : Nat) (l2 : List Tr) (f2 : Option Int) (s2 : Cs), e' = .returned (.tuple #[]) ∧ Cr w' b A2 c2 l2 e f2 ∧ RowAt w' g 30 (cv x2) ∧ DeepC w' (fun k => B ≤ k ∧ k ≠ b ∧ k ≠ g) x2 ∧ Mv2 b g w w' ∧ StepL (partR D k s) l e f s2 l2 f2 ∧ (f2 = none → Hold op p x2 s2)
section
variable {w w' : World} {b g B D : Nat} {x : Cm}
theorem Mv2.puts (h : Mv2 b g w w') (hbg : b < g) (ys : List Value) (o : Nat) : Mv2 b g w (w'.setCells g o ys) :=
 ⟨h.low.trans (setCells_below (Nat.le_of_lt hbg) o ys), fun k hk h1 h2 => (setCells_other w' g o ys k h2).trans (h.block k hk h1 h2)⟩
theorem Cr.puts {c : Nat} {A : Option Addr} {l : List Tr} {e : Int} {f : Option Int} (h : Cr w b A c l e f) (hbg : b < g) (ys : List Value) (o : Nat) : Cr (w.setCells g o ys) b A c l e f := h.low (setCells_below (zL g) o ys) hbg
theorem DeepC.puts (h : DeepC w (fun k => B ≤ k ∧ k ≠ b ∧ k ≠ g) x) (_ : b < g) (ys : List Value) (o : Nat) : DeepC (w.setCells g o ys) (fun k => B ≤ k ∧ k ≠ b ∧ k ≠ g) x := h.keep9 fun k _ ho => setCells_other w g o ys k ho.2.2
def putL (cs : Array Value) (o : Nat) : List Value → Array Value
 | [] => cs
 | y :: ys => putL (cs.setIfInBounds o y) (o + 1) ys
theorem RowAt.puts {t : TypeId} {cs : Array Value} (h : RowAt w g t cs) (ys : List Value) (o : Nat) : RowAt (w.setCells g o ys) g t (putL cs o ys) := by
 induction ys generalizing w cs o with
 | nil => exact h
 | cons y ys ih => exact ih (h.put o y) (o + 1)
theorem RowAt.there9 {t : TypeId} {cs : Array Value} (h : RowAt w g t cs) {o n : Nat} (hn : o + n ≤ cs.size) : w.there g o n := fun j hj => ⟨by rw [h.cell, Array.getElem?_eq_getElem (by omega)]; rfl, h.free _⟩
end
theorem StepL.none {α : Type} {rd : Rdr α} {l l2 : List Tr} {e : Int} {f f2 : Option Int} {x : α} (h : StepL rd l e f x l2 f2) (hf : f2 = none) : f = none := by
 cases f with
 | none => rfl
 | some p => have := h.bad p rfl; rw [hf] at this; cases this
section
variable {D op : Nat} {p : Int} {l l2 : List Tr} {e : Int} {f f2 : Option Int} {s : Cs} {x : Cm}
theorem step_n {y : Wd} (h : StepL nameR l e f y l2 f2) : StepL (partR D 110 s) l e f ⟨y, s.ws, s.ps, s.pp, s.ts⟩ l2 f2 := h.map (fun y => (⟨y, s.ws, s.ps, s.pp, s.ts⟩ : Cs))
theorem step_f {y : Wd} (h : StepL nameR l e f y l2 f2) : StepL (partR D 102 s) l e f ⟨s.n, [y], s.ps, s.pp, s.ts⟩ l2 f2 := h.map (fun y => (⟨s.n, [y], s.ps, s.pp, s.ts⟩ : Cs))
theorem step_w {y : List Wd} (h : StepL namesR l e f y l2 f2) : StepL (partR D 119 s) l e f ⟨s.n, y, s.ps, s.pp, s.ts⟩ l2 f2 := h.map (fun y => (⟨s.n, y, s.ps, s.pp, s.ts⟩ : Cs))
theorem step_p {y : List Pw × Int} (h : StepL prsA l e f y l2 f2) : StepL (partR D 112 s) l e f ⟨s.n, s.ws, y.1, y.2, s.ts⟩ l2 f2 := by
 have h1 := h.map (fun y => (⟨s.n, s.ws, y.1, y.2, s.ts⟩ : Cs))
 have e1 : ∀ ts e, bnd (prsA ts e) (fun y r => .ok ((⟨s.n, s.ws, y.1, y.2, s.ts⟩ : Cs), r)) = partR D 112 s ts e := fun ts e => by
  unfold prsA partR
  rw [if_neg (by decide), if_neg (by decide), if_neg (by decide), if_pos rfl]
  cases prsR ts e with
  | error p => rfl
  | ok yr => rfl
 exact ⟨h1.suf, h1.bad, fun hf => by have h2 := h1.good hf; rw [e1] at h2; exact h2⟩
theorem step_r {z : Nd} (h : StepL (rowR D) l e f z l2 f2) : StepL (partR D 114 s) l e f ⟨s.n, s.ws, s.ps, s.pp, s.ts ++ [z]⟩ l2 f2 := h.map (fun z => (⟨s.n, s.ws, s.ps, s.pp, s.ts ++ [z]⟩ : Cs))
theorem step_t {z : Nd} (h : StepL (labelR D) l e f z l2 f2) : StepL (partR D 116 s) l e f ⟨s.n, s.ws, s.ps, s.pp, s.ts ++ [z]⟩ l2 f2 := h.map (fun z => (⟨s.n, s.ws, s.ps, s.pp, s.ts ++ [z]⟩ : Cs))
theorem hold_n {y : Wd} (h : Hold op p x s) : Hold op p ⟨x.op, x.p, y, x.A, x.c, x.ws, x.B, x.d, x.ps, x.pp, x.l, x.r⟩ ⟨y, s.ws, s.ps, s.pp, s.ts⟩ := ⟨h.1, h.2.1, rfl, h.2.2.2.1, h.2.2.2.2.1, h.2.2.2.2.2.1, h.2.2.2.2.2.2⟩
theorem hold_w {Y : Option Addr} {cy : Nat} {y : List Wd} (h : Hold op p x s) : Hold op p ⟨x.op, x.p, x.n, Y, cy, y, x.B, x.d, x.ps, x.pp, x.l, x.r⟩ ⟨s.n, y, s.ps, s.pp, s.ts⟩ := ⟨h.1, h.2.1, h.2.2.1, rfl, h.2.2.2.2.1, h.2.2.2.2.2.1, h.2.2.2.2.2.2⟩
theorem hold_f {Y : Option Addr} {cy : Nat} {y : Wd} (h : Hold op p x s) : Hold op p ⟨x.op, x.p, x.n, Y, cy, [y], x.B, x.d, x.ps, x.pp, x.l, x.r⟩ ⟨s.n, [y], s.ps, s.pp, s.ts⟩ := hold_w h
theorem hold_p {Y : Option Addr} {cy : Nat} {y : List Pw × Int} (h : Hold op p x s) : Hold op p ⟨x.op, x.p, x.n, x.A, x.c, x.ws, Y, cy, y.1, y.2, x.l, x.r⟩ ⟨s.n, s.ws, y.1, y.2, s.ts⟩ := ⟨h.1, h.2.1, h.2.2.1, h.2.2.2.1, rfl, rfl, h.2.2.2.2.2.2⟩
theorem Mv2.drew0 {w w' : World} {b g : Nat} (h : Mv2 b g w.drew w') : Mv2 b g w w' := ⟨⟨h.low.os, h.low.tape, h.low.output, h.low.size, h.low.block⟩, h.block⟩
theorem hold_t {z : Nd} (h : Hold op p x s) : Hold op p ⟨x.op, x.p, x.n, x.A, x.c, x.ws, x.B, x.d, x.ps, x.pp, x.r, z⟩ ⟨s.n, s.ws, s.ps, s.pp, s.ts ++ [er1 z]⟩ :=
 ⟨h.1, h.2.1, h.2.2.1, h.2.2.2.1, h.2.2.2.2.1, h.2.2.2.2.2.1, by simp, by rw [List.dropLast_concat]; exact h.2.2.2.2.2.2.1⟩
end
theorem cpart_n {w : World} {b g B D op : Nat} {p : Int} {A : Option Addr} {c : Nat} {l : List Tr} {e : Int} {f : Option Int} {x : Cm} {s : Cs} (h : Cr w b A c l e f) (hr : RowAt w g 30 (cv x)) (hd : DeepC w (fun k => B ≤ k ∧ k ≠ b ∧ k ≠ g) x) (hB : B ≤ w.heap.size) (hg : b < g) (hx : f = none → Hold op p x s) :
 Calls Tryz.prog 95 #[.pointer (some ⟨b, 0, none⟩), .pointer (some ⟨g, 0, none⟩), .int .u8 110] w fun e' w' => Parted w b g B D op p 110 s l e f e' w' := by
 have hbw := h.lt
 have hgb : g ≠ b := by omega
 have hgw := hr.lt
 refine calls_hid fun Q' hQ => ?_
 have HQ := zh hQ; clear hQ
 have HC := zh (cname_any _ _ _ _ _ _ _ h)
 have HX := zh hx
 go_enter Tryz.func95, Tryz.ntmps95
 go_wp2_with fail
 refine HC.out.mono ?_
 rintro e' w1 ⟨v, y, A2, c2, l2, f2, rfl, rfl, hs, hm, hst⟩
 have hr1 := hr.mv hm hgb
 have hd1 := hd.mv (hm.two2 (g := g))
 have hm1 := hm.two2 (g := g)
 have hnew : w.heap.size ≤ w1.heap.size := hm.size
 unfold wv
 have q2 : w1.cell? ⟨g, 2, none⟩ = some (.string x.n.s) := (RowAt.cell hr1 2).trans rfl
 have u2 := RowAt.free hr1 2
 have q3 : w1.cell? ⟨g, 3, none⟩ = some (.int .i64 x.n.p) := (RowAt.cell hr1 3).trans rfl
 have u3 := RowAt.free hr1 3
 have HR2 : Hid (RowAt (w1.setCells g 2 [.string y.s, .int .i64 y.p]) g 30 (cv (⟨x.op, x.p, y, x.A, x.c, x.ws, x.B, x.d, x.ps, x.pp, x.l, x.r⟩ : Cm))) := zh ((hr1.puts [.string y.s, .int .i64 y.p] 2))
 have HM2 : Hid (Mv2 b g w (w1.setCells g 2 [.string y.s, .int .i64 y.p])) := zh ((hm1.puts hg [.string y.s, .int .i64 y.p] 2))
 have HS2 : Hid (Cr (w1.setCells g 2 [.string y.s, .int .i64 y.p]) b A2 c2 l2 e f2) := zh ((hs.puts hg [.string y.s, .int .i64 y.p] 2))
 have hd2 : DeepC (w1.setCells g 2 [.string y.s, .int .i64 y.p]) (fun k => B ≤ k ∧ k ≠ b ∧ k ≠ g) x := (hd1.puts hg [.string y.s, .int .i64 y.p] 2)
 have HD2 : Hid (DeepC (w1.setCells g 2 [.string y.s, .int .i64 y.p]) (fun k => B ≤ k ∧ k ≠ b ∧ k ≠ g) (⟨x.op, x.p, y, x.A, x.c, x.ws, x.B, x.d, x.ps, x.pp, x.l, x.r⟩ : Cm)) := zh (⟨hd2.ws, hd2.wc, hd2.ps, hd2.pc, hd2.l, hd2.r⟩)
 have HST := zh hst
 clear hs hm hst hr hd h hr1 hd1 hd2 hm1 HC hx
 go_wp2_with fail
 exact bodyPost_ret (results_none rfl _ _ _) rfl (HQ.out _ _ ⟨(⟨x.op, x.p, y, x.A, x.c, x.ws, x.B, x.d, x.ps, x.pp, x.l, x.r⟩ : Cm), A2, c2, l2, f2, ⟨y, s.ws, s.ps, s.pp, s.ts⟩, rfl, HS2.out, HR2.out, HD2.out, HM2.out, step_n HST.out, fun hf => hold_n (HX.out (HST.out.none hf))⟩)
theorem cpart_w {w : World} {b g B D op : Nat} {p : Int} {A : Option Addr} {c : Nat} {l : List Tr} {e : Int} {f : Option Int} {x : Cm} {s : Cs} (h : Cr w b A c l e f) (hr : RowAt w g 30 (cv x)) (hd : DeepC w (fun k => B ≤ k ∧ k ≠ b ∧ k ≠ g) x) (hB : B ≤ w.heap.size) (hg : b < g) (hx : f = none → Hold op p x s) :
 Calls Tryz.prog 95 #[.pointer (some ⟨b, 0, none⟩), .pointer (some ⟨g, 0, none⟩), .int .u8 119] w fun e' w' => Parted w b g B D op p 119 s l e f e' w' := by
 have hbw := h.lt
 have hgb : g ≠ b := by omega
 have hgw := hr.lt
 refine calls_hid fun Q' hQ => ?_
 have HQ := zh hQ; clear hQ
 have HC := zh (cwords_any _ _ _ _ _ _ _ h)
 have HX := zh hx
 go_enter Tryz.func95, Tryz.ntmps95
 go_wp2_with fail
 refine HC.out.mono ?_
 rintro e' w1 ⟨v, y, A2, c2, l2, f2, rfl, ⟨Y, cy, rfl, hcy, hsl⟩, hs, hm, hst⟩
 have hr1 := hr.mv hm hgb
 have hd1 := hd.mv (hm.two2 (g := g))
 have hm1 := hm.two2 (g := g)
 have hnew : w.heap.size ≤ w1.heap.size := hm.size
 have q4 : w1.cell? ⟨g, 4, none⟩ = some (.slice x.A x.ws.length x.c) := (RowAt.cell hr1 4).trans rfl
 have u4 := RowAt.free hr1 4
 have HR2 : Hid (RowAt (w1.setCells g 4 [.slice Y y.length cy]) g 30 (cv (⟨x.op, x.p, x.n, Y, cy, y, x.B, x.d, x.ps, x.pp, x.l, x.r⟩ : Cm))) := zh ((hr1.puts [.slice Y y.length cy] 4))
 have HM2 : Hid (Mv2 b g w (w1.setCells g 4 [.slice Y y.length cy])) := zh ((hm1.puts hg [.slice Y y.length cy] 4))
 have HS2 : Hid (Cr (w1.setCells g 4 [.slice Y y.length cy]) b A2 c2 l2 e f2) := zh ((hs.puts hg [.slice Y y.length cy] 4))
 have hd2 : DeepC (w1.setCells g 4 [.slice Y y.length cy]) (fun k => B ≤ k ∧ k ≠ b ∧ k ≠ g) x := (hd1.puts hg [.slice Y y.length cy] 4)
 have HD2 : Hid (DeepC (w1.setCells g 4 [.slice Y y.length cy]) (fun k => B ≤ k ∧ k ≠ b ∧ k ≠ g) (⟨x.op, x.p, x.n, Y, cy, y, x.B, x.d, x.ps, x.pp, x.l, x.r⟩ : Cm)) := zh (⟨((hsl.weak (ok' := fun k => B ≤ k ∧ k ≠ b ∧ k ≠ g) fun k _ hk => ⟨by omega, by omega, by omega⟩).keep9 fun k _ ho => setCells_other _ _ _ _ k ho.2.2), hcy, hd2.ps, hd2.pc, hd2.l, hd2.r⟩)
 have HST := zh hst
 clear hs hm hst hr hd h hr1 hd1 hd2 hm1 HC hx
 go_wp2_with fail
 exact bodyPost_ret (results_none rfl _ _ _) rfl (HQ.out _ _ ⟨(⟨x.op, x.p, x.n, Y, cy, y, x.B, x.d, x.ps, x.pp, x.l, x.r⟩ : Cm), A2, c2, l2, f2, ⟨s.n, y, s.ps, s.pp, s.ts⟩, rfl, HS2.out, HR2.out, HD2.out, HM2.out, step_w HST.out, fun hf => hold_w (HX.out (HST.out.none hf))⟩)
theorem cpart_p {w : World} {b g B D op : Nat} {p : Int} {A : Option Addr} {c : Nat} {l : List Tr} {e : Int} {f : Option Int} {x : Cm} {s : Cs} (h : Cr w b A c l e f) (hr : RowAt w g 30 (cv x)) (hd : DeepC w (fun k => B ≤ k ∧ k ≠ b ∧ k ≠ g) x) (hB : B ≤ w.heap.size) (hg : b < g) (hx : f = none → Hold op p x s) :
 Calls Tryz.prog 95 #[.pointer (some ⟨b, 0, none⟩), .pointer (some ⟨g, 0, none⟩), .int .u8 112] w fun e' w' => Parted w b g B D op p 112 s l e f e' w' := by
 have hbw := h.lt
 have hgb : g ≠ b := by omega
 have hgw := hr.lt
 refine calls_hid fun Q' hQ => ?_
 have HQ := zh hQ; clear hQ
 have HC := zh (cpairs_any _ _ _ _ _ _ _ h)
 have HX := zh hx
 go_enter Tryz.func95, Tryz.ntmps95
 go_wp2_with fail
 refine HC.out.mono ?_
 rintro e' w1 ⟨v, y, A2, c2, l2, f2, rfl, ⟨Y, cy, rfl, hcy, hsl⟩, hs, hm, hst⟩
 have hr1 := hr.mv hm hgb
 have hd1 := hd.mv (hm.two2 (g := g))
 have hm1 := hm.two2 (g := g)
 have hnew : w.heap.size ≤ w1.heap.size := hm.size
 have q5 : w1.cell? ⟨g, 5, none⟩ = some (.slice x.B x.ps.length x.d) := (RowAt.cell hr1 5).trans rfl
 have u5 := RowAt.free hr1 5
 have q6 : w1.cell? ⟨g, 6, none⟩ = some (.int .i64 x.pp) := (RowAt.cell hr1 6).trans rfl
 have u6 := RowAt.free hr1 6
 have HR2 : Hid (RowAt ((w1.setCells g 5 [.slice Y y.1.length cy]).setCells g 6 [.int .i64 y.2]) g 30 (cv (⟨x.op, x.p, x.n, x.A, x.c, x.ws, Y, cy, y.1, y.2, x.l, x.r⟩ : Cm))) := zh (((hr1.puts [.slice Y y.1.length cy] 5).puts [.int .i64 y.2] 6))
 have HM2 : Hid (Mv2 b g w ((w1.setCells g 5 [.slice Y y.1.length cy]).setCells g 6 [.int .i64 y.2])) := zh (((hm1.puts hg [.slice Y y.1.length cy] 5).puts hg [.int .i64 y.2] 6))
 have HS2 : Hid (Cr ((w1.setCells g 5 [.slice Y y.1.length cy]).setCells g 6 [.int .i64 y.2]) b A2 c2 l2 e f2) := zh (((hs.puts hg [.slice Y y.1.length cy] 5).puts hg [.int .i64 y.2] 6))
 have hd2 : DeepC ((w1.setCells g 5 [.slice Y y.1.length cy]).setCells g 6 [.int .i64 y.2]) (fun k => B ≤ k ∧ k ≠ b ∧ k ≠ g) x := ((hd1.puts hg [.slice Y y.1.length cy] 5).puts hg [.int .i64 y.2] 6)
 have HD2 : Hid (DeepC ((w1.setCells g 5 [.slice Y y.1.length cy]).setCells g 6 [.int .i64 y.2]) (fun k => B ≤ k ∧ k ≠ b ∧ k ≠ g) (⟨x.op, x.p, x.n, x.A, x.c, x.ws, Y, cy, y.1, y.2, x.l, x.r⟩ : Cm)) := zh (⟨hd2.ws, hd2.wc, (((hsl.weak (ok' := fun k => B ≤ k ∧ k ≠ b ∧ k ≠ g) fun k _ hk => ⟨by omega, by omega, by omega⟩).keep9 fun k _ ho => setCells_other _ _ _ _ k ho.2.2).keep9 fun k _ ho => setCells_other _ _ _ _ k ho.2.2), hcy, hd2.l, hd2.r⟩)
 have HST := zh hst
 clear hs hm hst hr hd h hr1 hd1 hd2 hm1 HC hx
 go_wp2_with fail
 exact bodyPost_ret (results_none rfl _ _ _) rfl (HQ.out _ _ ⟨(⟨x.op, x.p, x.n, x.A, x.c, x.ws, Y, cy, y.1, y.2, x.l, x.r⟩ : Cm), A2, c2, l2, f2, ⟨s.n, s.ws, y.1, y.2, s.ts⟩, rfl, HS2.out, HR2.out, HD2.out, HM2.out, step_p HST.out, fun hf => hold_p (HX.out (HST.out.none hf))⟩)
theorem cpart_f {w : World} {b g B D op : Nat} {p : Int} {A : Option Addr} {c : Nat} {l : List Tr} {e : Int} {f : Option Int} {x : Cm} {s : Cs} (h : Cr w b A c l e f) (hr : RowAt w g 30 (cv x)) (hd : DeepC w (fun k => B ≤ k ∧ k ≠ b ∧ k ≠ g) x) (hB : B ≤ w.heap.size) (hg : b < g) (hx : f = none → Hold op p x s) :
 Calls Tryz.prog 95 #[.pointer (some ⟨b, 0, none⟩), .pointer (some ⟨g, 0, none⟩), .int .u8 102] w fun e' w' => Parted w b g B D op p 102 s l e f e' w' := by
 have hbw := h.lt
 have hgb : g ≠ b := by omega
 have hgw := hr.lt
 refine calls_hid fun Q' hQ => ?_
 have HQ := zh hQ; clear hQ
 have HC := zh (cname_any _ _ _ _ _ _ _ h)
 have HX := zh hx
 go_enter Tryz.func95, Tryz.ntmps95
 go_wp2_with fail
 refine HC.out.mono ?_
 rintro e' w1 ⟨v, y, A2, c2, l2, f2, rfl, rfl, hs, hm, hst⟩
 have hr1 := hr.mv hm hgb
 have hd1 := hd.mv (hm.two2 (g := g))
 have hm1 := hm.two2 (g := g)
 have hnew : w.heap.size ≤ w1.heap.size := hm.size
 have hb1 : Below w1.heap.size w1 (w1.alloc (.cells #[.string y.s, .int .i64 y.p] 23)) := (zB _ _).alloc (zL _) _
 have hN := RowAt.new w1 23 #[.string y.s, .int .i64 y.p]
 have hs := hs.below hb1
 have hm1 := hm1.trans (Mv.two2 (g := g) (Mv.below (by have := hm.size; omega) hb1))
 have hr1 := hr1.below hb1 hr1.lt
 have hd1 := hd1.keep9 fun k hk _ => hb1.block k hk
 have hNE : w1.heap.size ≠ g := by omega
 unfold wv
 have q4 : (w1.alloc (.cells #[.string y.s, .int .i64 y.p] 23)).cell? ⟨g, 4, none⟩ = some (.slice x.A x.ws.length x.c) := (RowAt.cell hr1 4).trans rfl
 have u4 := RowAt.free hr1 4
 have HR2 : Hid (RowAt ((w1.alloc (.cells #[.string y.s, .int .i64 y.p] 23)).setCells g 4 [.slice (some ⟨w1.heap.size, 0, none⟩) 1 1]) g 30 (cv (⟨x.op, x.p, x.n, some ⟨w1.heap.size, 0, none⟩, 1, [y], x.B, x.d, x.ps, x.pp, x.l, x.r⟩ : Cm))) := zh ((hr1.puts [.slice (some ⟨w1.heap.size, 0, none⟩) 1 1] 4))
 have HM2 : Hid (Mv2 b g w ((w1.alloc (.cells #[.string y.s, .int .i64 y.p] 23)).setCells g 4 [.slice (some ⟨w1.heap.size, 0, none⟩) 1 1])) := zh ((hm1.puts hg [.slice (some ⟨w1.heap.size, 0, none⟩) 1 1] 4))
 have HS2 : Hid (Cr ((w1.alloc (.cells #[.string y.s, .int .i64 y.p] 23)).setCells g 4 [.slice (some ⟨w1.heap.size, 0, none⟩) 1 1]) b A2 c2 l2 e f2) := zh ((hs.puts hg [.slice (some ⟨w1.heap.size, 0, none⟩) 1 1] 4))
 have hd2 : DeepC ((w1.alloc (.cells #[.string y.s, .int .i64 y.p] 23)).setCells g 4 [.slice (some ⟨w1.heap.size, 0, none⟩) 1 1]) (fun k => B ≤ k ∧ k ≠ b ∧ k ≠ g) x := (hd1.puts hg [.slice (some ⟨w1.heap.size, 0, none⟩) 1 1] 4)
 have HD2 : Hid (DeepC ((w1.alloc (.cells #[.string y.s, .int .i64 y.p] 23)).setCells g 4 [.slice (some ⟨w1.heap.size, 0, none⟩) 1 1]) (fun k => B ≤ k ∧ k ≠ b ∧ k ≠ g) (⟨x.op, x.p, x.n, some ⟨w1.heap.size, 0, none⟩, 1, [y], x.B, x.d, x.ps, x.pp, x.l, x.r⟩ : Cm)) := zh (⟨fun _ => ⟨w1.heap.size, 0, rfl, by rw [setCells_size]; exact hN.lt, ⟨by omega, by omega, hNE⟩, fun j u hu => by rw [Nat.zero_add]; exact (RowAt.cell (show RowAt _ w1.heap.size 23 _ from (setCells_other _ g 4 _ w1.heap.size hNE).trans hN) j).trans (by simpa [wcs, wcells] using hu)⟩, zL _, hd2.ps, hd2.pc, hd2.l, hd2.r⟩)
 have HST := zh hst
 clear hs hm hst hr hd h hr1 hd1 hd2 hm1 HC hx
 go_wp2_with fail
 exact bodyPost_ret (results_none rfl _ _ _) rfl (HQ.out _ _ ⟨(⟨x.op, x.p, x.n, some ⟨w1.heap.size, 0, none⟩, 1, [y], x.B, x.d, x.ps, x.pp, x.l, x.r⟩ : Cm), A2, c2, l2, f2, ⟨s.n, [y], s.ps, s.pp, s.ts⟩, rfl, HS2.out, HR2.out, HD2.out, HM2.out, step_f HST.out, fun hf => hold_f (HX.out (HST.out.none hf))⟩)
theorem cpart_t {w : World} {b g B D op : Nat} {p : Int} {A : Option Addr} {c : Nat} {l : List Tr} {e : Int} {f : Option Int} {x : Cm} {s : Cs} (h : Cr w b A c l e f) (hr : RowAt w g 30 (cv x)) (hd : DeepC w (fun k => B ≤ k ∧ k ≠ b ∧ k ≠ g) x) (hB : B ≤ w.heap.size) (hg : b < g) (hx : f = none → Hold op p x s) (hN : (nodes l).length ≤ D - 1) (hD : 1 ≤ D) (hD2 : D ≤ 4294967296) :
 Calls Tryz.prog 95 #[.pointer (some ⟨b, 0, none⟩), .pointer (some ⟨g, 0, none⟩), .int .u8 116] w fun e' w' => Parted w b g B D op p 116 s l e f e' w' := by
 have hbw := h.lt
 have hgb : g ≠ b := by omega
 have hgw := hr.lt
 refine calls_hid fun Q' hQ => ?_
 have HQ := zh hQ; clear hQ
 have HC := zh (cterm_label (D := D) hD hD2 (h.drew) hN)
 have HX := zh hx
 have HRv0 := zh hr.drew
 have HDv0 : Hid (DeepC w.drew (fun k => B ≤ k ∧ k ≠ b ∧ k ≠ g) x) := zh (hd.keep9 fun _ _ _ => rfl)
 clear hr hd h hx
 go_enter Tryz.func95, Tryz.ntmps95
 go_upto_region 10 with fail
 obtain ⟨S, hSe⟩ : ∃ S : World → Prop, S = fun W => b < W.heap.size := ⟨_, rfl⟩
 have HSv0 : Hid (S w.drew) := by rw [hSe]; exact zh hbw
 have HSP : Hid (∀ V, Mv b w.drew V → S V) := by rw [hSe]; exact zh fun V hm => zT hbw hm.size
 have HSQ : Hid (∀ V o ys, S V → S (V.setCells g o ys)) := by rw [hSe]; exact zh fun V o ys h => by show b < _; rw [setCells_size]; exact h
 clear hSe
 refine wp_region_ot S ((.take 0 (.take 1 (.take 2 (.take 3 (.take 4 (.take 6 (.two 5 (.solo 7 (.take 8 (.take 9 (.solo 10 (.take 11 (.take 12 (.solo 13 .nil))))))) 7 (.solo 5 (.take 8 (.take 9 (.solo 10 (.take 11 (.take 12 (.solo 13 .nil))))))))))))))) (by kernel_rfl) (by kernel_rfl) rfl (by kernel_rfl) HSv0.out ?_
 have hBw : B ≤ w.drew.heap.size := hB
 have hgw0 : g < w.drew.heap.size := hgw
 have HD0 : Hid (∀ V, Mv2 b g w.drew V → Mv2 b g w V) := zh fun V h => h.drew0
 generalize w.drew = v0 at *
 iterate 6
  (refine wpOT_step (zO rfl) ?_)
  (first
        | (refine wpOT_skip (by rfl) ?_)
        | (refine wpOT_take (v := ?_) (by rfl) ?_ ?_; rotate_left 1; (intro wx hSx; go_simp; try with_reducible rfl)))
  (try simp only [Act.put, zA4, zA5, zA6])
 refine wpOT_two ?_ ?_
 ·(refine wpOT_solo (zO rfl) ?_)
  intro K hK
  rw [if_pos (by rfl)]
  have HSc := HSv0.out
  refine wp_load_mid _ _ rfl g 12 rfl (ncells x.r) _ (RowAt.range HRv0.out 12 (ncells x.r) (by intro j u hu; match j, hu with | 0, hu => exact hu | 1, hu => exact hu | 2, hu => exact hu | 3, hu => exact hu | 4, hu => exact hu)) Tryz.underlying28 rfl (by rw [show (ncells x.r).length = 5 from rfl]; kernel_rfl) ?_
  refine hK.out _ _ HSc ?_
  clear hK K HSc
  (try simp only [Act.put, zA4, zA5, zA6])
  (refine wpOT_solo (zO rfl) ?_)
  intro K hK
  go_simp
  go_at_call 115
  refine HC.out.mono ?_
  rintro e' v1 ⟨z, A2, c2, l2, f2, rfl, hdz, hs, hm, hst⟩
  have HSv1 : Hid (S v1) := zh (HSP.out v1 hm)
  have HRv1 := zh (HRv0.out.mv hm hgb)
  have HDv1 := zh (HDv0.out.mv (hm.two2 (g := g)))
  have HMv1 := zh (hm.two2 (g := g))
  have HCv1 := zh hs
  have HZv1 : Hid (DeepN v1 (fun k => B ≤ k ∧ k ≠ b ∧ k ≠ g) [z]) := zh (hdz.weak fun k _ hk => ⟨by omega, by omega, by omega⟩)
  have HST := zh hst
  clear hs hm hst hdz
  refine hK.out _ _ HSv1.out ?_
  clear hK K
  (try simp only [Act.put, zA4, zA5, zA6])
  iterate 2
   (refine wpOT_step (zO rfl) ?_)
   (first
    | (refine wpOT_skip (by rfl) ?_)
    | (refine wpOT_take (v := ?_) (by rfl) ?_ ?_; rotate_left 1; (intro wx hSx; go_simp; try with_reducible rfl)))
   (try simp only [Act.put, zA4, zA5, zA6])
  (refine wpOT_solo (zO rfl) ?_)
  intro K hK
  rw [if_pos (by rfl)]
  refine wp_store_mid _ _ _ rfl g 7 (nv x.r) rfl rfl (RowAt.there9 HRv1.out (by show 7 + 5 ≤ 17; omega)) (node_info _ _ _ _ _) (by simp [nv, Value.oneCell']) ?_
  have HSv2 : Hid (S (v1.setCells g 7 (nv x.r).toList)) := zh (HSQ.out _ _ _ HSv1.out)
  have HRv2 : Hid (RowAt (v1.setCells g 7 (nv x.r).toList) g 30 (cv (⟨x.op, x.p, x.n, x.A, x.c, x.ws, x.B, x.d, x.ps, x.pp, x.r, x.r⟩ : Cm))) := zh (RowAt.puts HRv1.out (nv x.r).toList 7)
  have hdv2 := HDv1.out.puts hg (nv x.r).toList 7
  have HDv2 : Hid (DeepC (v1.setCells g 7 (nv x.r).toList) (fun k => B ≤ k ∧ k ≠ b ∧ k ≠ g) (⟨x.op, x.p, x.n, x.A, x.c, x.ws, x.B, x.d, x.ps, x.pp, x.r, x.r⟩ : Cm)) := zh ⟨hdv2.ws, hdv2.wc, hdv2.ps, hdv2.pc, hdv2.r, hdv2.r⟩
  have HMv2 := zh (HMv1.out.puts hg (nv x.r).toList 7)
  have HCv2 := zh (HCv1.out.puts hg (nv x.r).toList 7)
  have HZv2 : Hid (DeepN (v1.setCells g 7 (nv x.r).toList) (fun k => B ≤ k ∧ k ≠ b ∧ k ≠ g) [z]) := zh (HZv1.out.keep9 fun k _ ho => setCells_other _ _ _ _ k ho.2.2)
  clear hdv2
  refine hK.out _ _ HSv2.out ?_
  clear hK K
  (try simp only [Act.put, zA4, zA5, zA6])
  generalize (v1.setCells g 7 (nv x.r).toList) = v2 at *
  iterate 2
   (refine wpOT_step (zO rfl) ?_)
   (first
    | (refine wpOT_skip (by rfl) ?_)
    | (refine wpOT_take (v := ?_) (by rfl) ?_ ?_; rotate_left 1; (intro wx hSx; go_simp; try with_reducible rfl)))
   (try simp only [Act.put, zA4, zA5, zA6])
  (refine wpOT_solo (zO rfl) ?_)
  intro K hK
  rw [if_pos (by rfl)]
  refine wp_store_mid _ _ _ rfl g 12 (nv z) rfl rfl (RowAt.there9 HRv2.out (by show 12 + 5 ≤ 17; omega)) (node_info _ _ _ _ _) (by simp [nv, Value.oneCell']) ?_
  have HSv3 : Hid (S (v2.setCells g 12 (nv z).toList)) := zh (HSQ.out _ _ _ HSv2.out)
  have HRv3 : Hid (RowAt (v2.setCells g 12 (nv z).toList) g 30 (cv (⟨x.op, x.p, x.n, x.A, x.c, x.ws, x.B, x.d, x.ps, x.pp, x.r, z⟩ : Cm))) := zh (RowAt.puts HRv2.out (nv z).toList 12)
  have hdv3 := HDv2.out.puts hg (nv z).toList 12
  have HDv3 : Hid (DeepC (v2.setCells g 12 (nv z).toList) (fun k => B ≤ k ∧ k ≠ b ∧ k ≠ g) (⟨x.op, x.p, x.n, x.A, x.c, x.ws, x.B, x.d, x.ps, x.pp, x.r, z⟩ : Cm)) := zh ⟨hdv3.ws, hdv3.wc, hdv3.ps, hdv3.pc, hdv3.l, HZv2.out.keep9 fun k _ ho => setCells_other _ _ _ _ k ho.2.2⟩
  have HMv3 := zh (HMv2.out.puts hg (nv z).toList 12)
  have HCv3 := zh (HCv2.out.puts hg (nv z).toList 12)
  have HZv3 : Hid (DeepN (v2.setCells g 12 (nv z).toList) (fun k => B ≤ k ∧ k ≠ b ∧ k ≠ g) [z]) := zh (HZv2.out.keep9 fun k _ ho => setCells_other _ _ _ _ k ho.2.2)
  clear hdv3
  refine hK.out _ _ HSv3.out ?_
  clear hK K
  (try simp only [Act.put, zA4, zA5, zA6])
  generalize (v2.setCells g 12 (nv z).toList) = v3 at *
  refine wpOT_done ?_
  go_wp2
  exact bodyPost_ret (results_none rfl _ _ _) rfl (HQ.out _ _ ⟨(⟨x.op, x.p, x.n, x.A, x.c, x.ws, x.B, x.d, x.ps, x.pp, x.r, z⟩ : Cm), A2, c2, l2, f2, ⟨s.n, s.ws, s.ps, s.pp, s.ts ++ [er1 z]⟩, rfl, HCv3.out, HRv3.out, HDv3.out, (HD0.out _ HMv3.out), step_t HST.out, fun hf => hold_t (HX.out (HST.out.none hf))⟩)
 ·(refine wpOT_solo (zO rfl) ?_)
  intro K hK
  go_simp
  go_at_call 115
  refine HC.out.mono ?_
  rintro e' v1 ⟨z, A2, c2, l2, f2, rfl, hdz, hs, hm, hst⟩
  have HSv1 : Hid (S v1) := zh (HSP.out v1 hm)
  have HRv1 := zh (HRv0.out.mv hm hgb)
  have HDv1 := zh (HDv0.out.mv (hm.two2 (g := g)))
  have HMv1 := zh (hm.two2 (g := g))
  have HCv1 := zh hs
  have HZv1 : Hid (DeepN v1 (fun k => B ≤ k ∧ k ≠ b ∧ k ≠ g) [z]) := zh (hdz.weak fun k _ hk => ⟨by omega, by omega, by omega⟩)
  have HST := zh hst
  clear hs hm hst hdz
  refine hK.out _ _ HSv1.out ?_
  clear hK K
  (try simp only [Act.put, zA4, zA5, zA6])
  (refine wpOT_solo (zO rfl) ?_)
  intro K hK
  rw [if_pos (by rfl)]
  have HSc := HSv1.out
  refine wp_load_mid _ _ rfl g 12 rfl (ncells x.r) _ (RowAt.range HRv1.out 12 (ncells x.r) (by intro j u hu; match j, hu with | 0, hu => exact hu | 1, hu => exact hu | 2, hu => exact hu | 3, hu => exact hu | 4, hu => exact hu)) Tryz.underlying28 rfl (by rw [show (ncells x.r).length = 5 from rfl]; kernel_rfl) ?_
  refine hK.out _ _ HSc ?_
  clear hK K HSc
  (try simp only [Act.put, zA4, zA5, zA6])
  iterate 2
   (refine wpOT_step (zO rfl) ?_)
   (first
    | (refine wpOT_skip (by rfl) ?_)
    | (refine wpOT_take (v := ?_) (by rfl) ?_ ?_; rotate_left 1; (intro wx hSx; go_simp; try with_reducible rfl)))
   (try simp only [Act.put, zA4, zA5, zA6])
  (refine wpOT_solo (zO rfl) ?_)
  intro K hK
  rw [if_pos (by rfl)]
  refine wp_store_mid _ _ _ rfl g 7 (nv x.r) rfl rfl (RowAt.there9 HRv1.out (by show 7 + 5 ≤ 17; omega)) (node_info _ _ _ _ _) (by simp [nv, Value.oneCell']) ?_
  have HSv2 : Hid (S (v1.setCells g 7 (nv x.r).toList)) := zh (HSQ.out _ _ _ HSv1.out)
  have HRv2 : Hid (RowAt (v1.setCells g 7 (nv x.r).toList) g 30 (cv (⟨x.op, x.p, x.n, x.A, x.c, x.ws, x.B, x.d, x.ps, x.pp, x.r, x.r⟩ : Cm))) := zh (RowAt.puts HRv1.out (nv x.r).toList 7)
  have hdv2 := HDv1.out.puts hg (nv x.r).toList 7
  have HDv2 : Hid (DeepC (v1.setCells g 7 (nv x.r).toList) (fun k => B ≤ k ∧ k ≠ b ∧ k ≠ g) (⟨x.op, x.p, x.n, x.A, x.c, x.ws, x.B, x.d, x.ps, x.pp, x.r, x.r⟩ : Cm)) := zh ⟨hdv2.ws, hdv2.wc, hdv2.ps, hdv2.pc, hdv2.r, hdv2.r⟩
  have HMv2 := zh (HMv1.out.puts hg (nv x.r).toList 7)
  have HCv2 := zh (HCv1.out.puts hg (nv x.r).toList 7)
  have HZv2 : Hid (DeepN (v1.setCells g 7 (nv x.r).toList) (fun k => B ≤ k ∧ k ≠ b ∧ k ≠ g) [z]) := zh (HZv1.out.keep9 fun k _ ho => setCells_other _ _ _ _ k ho.2.2)
  clear hdv2
  refine hK.out _ _ HSv2.out ?_
  clear hK K
  (try simp only [Act.put, zA4, zA5, zA6])
  generalize (v1.setCells g 7 (nv x.r).toList) = v2 at *
  iterate 2
   (refine wpOT_step (zO rfl) ?_)
   (first
    | (refine wpOT_skip (by rfl) ?_)
    | (refine wpOT_take (v := ?_) (by rfl) ?_ ?_; rotate_left 1; (intro wx hSx; go_simp; try with_reducible rfl)))
   (try simp only [Act.put, zA4, zA5, zA6])
  (refine wpOT_solo (zO rfl) ?_)
  intro K hK
  rw [if_pos (by rfl)]
  refine wp_store_mid _ _ _ rfl g 12 (nv z) rfl rfl (RowAt.there9 HRv2.out (by show 12 + 5 ≤ 17; omega)) (node_info _ _ _ _ _) (by simp [nv, Value.oneCell']) ?_
  have HSv3 : Hid (S (v2.setCells g 12 (nv z).toList)) := zh (HSQ.out _ _ _ HSv2.out)
  have HRv3 : Hid (RowAt (v2.setCells g 12 (nv z).toList) g 30 (cv (⟨x.op, x.p, x.n, x.A, x.c, x.ws, x.B, x.d, x.ps, x.pp, x.r, z⟩ : Cm))) := zh (RowAt.puts HRv2.out (nv z).toList 12)
  have hdv3 := HDv2.out.puts hg (nv z).toList 12
  have HDv3 : Hid (DeepC (v2.setCells g 12 (nv z).toList) (fun k => B ≤ k ∧ k ≠ b ∧ k ≠ g) (⟨x.op, x.p, x.n, x.A, x.c, x.ws, x.B, x.d, x.ps, x.pp, x.r, z⟩ : Cm)) := zh ⟨hdv3.ws, hdv3.wc, hdv3.ps, hdv3.pc, hdv3.l, HZv2.out.keep9 fun k _ ho => setCells_other _ _ _ _ k ho.2.2⟩
  have HMv3 := zh (HMv2.out.puts hg (nv z).toList 12)
  have HCv3 := zh (HCv2.out.puts hg (nv z).toList 12)
  have HZv3 : Hid (DeepN (v2.setCells g 12 (nv z).toList) (fun k => B ≤ k ∧ k ≠ b ∧ k ≠ g) [z]) := zh (HZv2.out.keep9 fun k _ ho => setCells_other _ _ _ _ k ho.2.2)
  clear hdv3
  refine hK.out _ _ HSv3.out ?_
  clear hK K
  (try simp only [Act.put, zA4, zA5, zA6])
  generalize (v2.setCells g 12 (nv z).toList) = v3 at *
  refine wpOT_done ?_
  go_wp2
  exact bodyPost_ret (results_none rfl _ _ _) rfl (HQ.out _ _ ⟨(⟨x.op, x.p, x.n, x.A, x.c, x.ws, x.B, x.d, x.ps, x.pp, x.r, z⟩ : Cm), A2, c2, l2, f2, ⟨s.n, s.ws, s.ps, s.pp, s.ts ++ [er1 z]⟩, rfl, HCv3.out, HRv3.out, HDv3.out, (HD0.out _ HMv3.out), step_t HST.out, fun hf => hold_t (HX.out (HST.out.none hf))⟩)
theorem cpart_r {w : World} {b g B D op : Nat} {p : Int} {A : Option Addr} {c : Nat} {l : List Tr} {e : Int} {f : Option Int} {x : Cm} {s : Cs} (h : Cr w b A c l e f) (hr : RowAt w g 30 (cv x)) (hd : DeepC w (fun k => B ≤ k ∧ k ≠ b ∧ k ≠ g) x) (hB : B ≤ w.heap.size) (hg : b < g) (hx : f = none → Hold op p x s) (hN : (nodes l).length ≤ D - 1) (hD : 1 ≤ D) (hD2 : D ≤ 4294967296) :
 Calls Tryz.prog 95 #[.pointer (some ⟨b, 0, none⟩), .pointer (some ⟨g, 0, none⟩), .int .u8 114] w fun e' w' => Parted w b g B D op p 114 s l e f e' w' := by
 have hbw := h.lt
 have hgb : g ≠ b := by omega
 have hgw := hr.lt
 refine calls_hid fun Q' hQ => ?_
 have HQ := zh hQ; clear hQ
 have HC := zh (cterm_row (D := D) hD hD2 (h.drew) hN)
 have HX := zh hx
 have HRv0 := zh hr.drew
 have HDv0 : Hid (DeepC w.drew (fun k => B ≤ k ∧ k ≠ b ∧ k ≠ g) x) := zh (hd.keep9 fun _ _ _ => rfl)
 clear hr hd h hx
 go_enter Tryz.func95, Tryz.ntmps95
 go_upto_region 12 with fail
 obtain ⟨S, hSe⟩ : ∃ S : World → Prop, S = fun W => b < W.heap.size := ⟨_, rfl⟩
 have HSv0 : Hid (S w.drew) := by rw [hSe]; exact zh hbw
 have HSP : Hid (∀ V, Mv b w.drew V → S V) := by rw [hSe]; exact zh fun V hm => zT hbw hm.size
 have HSQ : Hid (∀ V o ys, S V → S (V.setCells g o ys)) := by rw [hSe]; exact zh fun V o ys h => by show b < _; rw [setCells_size]; exact h
 clear hSe
 refine wp_region_ot S ((.take 0 (.take 1 (.take 2 (.take 3 (.take 4 (.take 6 (.two 5 (.solo 7 (.take 8 (.take 9 (.solo 10 (.take 11 (.take 12 (.solo 13 .nil))))))) 7 (.solo 5 (.take 8 (.take 9 (.solo 10 (.take 11 (.take 12 (.solo 13 .nil))))))))))))))) (by kernel_rfl) (by kernel_rfl) rfl (by kernel_rfl) HSv0.out ?_
 have hBw : B ≤ w.drew.heap.size := hB
 have hgw0 : g < w.drew.heap.size := hgw
 have HD0 : Hid (∀ V, Mv2 b g w.drew V → Mv2 b g w V) := zh fun V h => h.drew0
 generalize w.drew = v0 at *
 iterate 6
  (refine wpOT_step (zO rfl) ?_)
  (first
        | (refine wpOT_skip (by rfl) ?_)
        | (refine wpOT_take (v := ?_) (by rfl) ?_ ?_; rotate_left 1; (intro wx hSx; go_simp; try with_reducible rfl)))
  (try simp only [Act.put, zA4, zA5, zA6])
 refine wpOT_two ?_ ?_
 ·(refine wpOT_solo (zO rfl) ?_)
  intro K hK
  rw [if_pos (by rfl)]
  have HSc := HSv0.out
  refine wp_load_mid _ _ rfl g 12 rfl (ncells x.r) _ (RowAt.range HRv0.out 12 (ncells x.r) (by intro j u hu; match j, hu with | 0, hu => exact hu | 1, hu => exact hu | 2, hu => exact hu | 3, hu => exact hu | 4, hu => exact hu)) Tryz.underlying28 rfl (by rw [show (ncells x.r).length = 5 from rfl]; kernel_rfl) ?_
  refine hK.out _ _ HSc ?_
  clear hK K HSc
  (try simp only [Act.put, zA4, zA5, zA6])
  (refine wpOT_solo (zO rfl) ?_)
  intro K hK
  go_simp
  go_at_call 115
  refine HC.out.mono ?_
  rintro e' v1 ⟨z, A2, c2, l2, f2, rfl, hdz, hs, hm, hst⟩
  have HSv1 : Hid (S v1) := zh (HSP.out v1 hm)
  have HRv1 := zh (HRv0.out.mv hm hgb)
  have HDv1 := zh (HDv0.out.mv (hm.two2 (g := g)))
  have HMv1 := zh (hm.two2 (g := g))
  have HCv1 := zh hs
  have HZv1 : Hid (DeepN v1 (fun k => B ≤ k ∧ k ≠ b ∧ k ≠ g) [z]) := zh (hdz.weak fun k _ hk => ⟨by omega, by omega, by omega⟩)
  have HST := zh hst
  clear hs hm hst hdz
  refine hK.out _ _ HSv1.out ?_
  clear hK K
  (try simp only [Act.put, zA4, zA5, zA6])
  iterate 2
   (refine wpOT_step (zO rfl) ?_)
   (first
    | (refine wpOT_skip (by rfl) ?_)
    | (refine wpOT_take (v := ?_) (by rfl) ?_ ?_; rotate_left 1; (intro wx hSx; go_simp; try with_reducible rfl)))
   (try simp only [Act.put, zA4, zA5, zA6])
  (refine wpOT_solo (zO rfl) ?_)
  intro K hK
  rw [if_pos (by rfl)]
  refine wp_store_mid _ _ _ rfl g 7 (nv x.r) rfl rfl (RowAt.there9 HRv1.out (by show 7 + 5 ≤ 17; omega)) (node_info _ _ _ _ _) (by simp [nv, Value.oneCell']) ?_
  have HSv2 : Hid (S (v1.setCells g 7 (nv x.r).toList)) := zh (HSQ.out _ _ _ HSv1.out)
  have HRv2 : Hid (RowAt (v1.setCells g 7 (nv x.r).toList) g 30 (cv (⟨x.op, x.p, x.n, x.A, x.c, x.ws, x.B, x.d, x.ps, x.pp, x.r, x.r⟩ : Cm))) := zh (RowAt.puts HRv1.out (nv x.r).toList 7)
  have hdv2 := HDv1.out.puts hg (nv x.r).toList 7
  have HDv2 : Hid (DeepC (v1.setCells g 7 (nv x.r).toList) (fun k => B ≤ k ∧ k ≠ b ∧ k ≠ g) (⟨x.op, x.p, x.n, x.A, x.c, x.ws, x.B, x.d, x.ps, x.pp, x.r, x.r⟩ : Cm)) := zh ⟨hdv2.ws, hdv2.wc, hdv2.ps, hdv2.pc, hdv2.r, hdv2.r⟩
  have HMv2 := zh (HMv1.out.puts hg (nv x.r).toList 7)
  have HCv2 := zh (HCv1.out.puts hg (nv x.r).toList 7)
  have HZv2 : Hid (DeepN (v1.setCells g 7 (nv x.r).toList) (fun k => B ≤ k ∧ k ≠ b ∧ k ≠ g) [z]) := zh (HZv1.out.keep9 fun k _ ho => setCells_other _ _ _ _ k ho.2.2)
  clear hdv2
  refine hK.out _ _ HSv2.out ?_
  clear hK K
  (try simp only [Act.put, zA4, zA5, zA6])
  generalize (v1.setCells g 7 (nv x.r).toList) = v2 at *
  iterate 2
   (refine wpOT_step (zO rfl) ?_)
   (first
    | (refine wpOT_skip (by rfl) ?_)
    | (refine wpOT_take (v := ?_) (by rfl) ?_ ?_; rotate_left 1; (intro wx hSx; go_simp; try with_reducible rfl)))
   (try simp only [Act.put, zA4, zA5, zA6])
  (refine wpOT_solo (zO rfl) ?_)
  intro K hK
  rw [if_pos (by rfl)]
  refine wp_store_mid _ _ _ rfl g 12 (nv z) rfl rfl (RowAt.there9 HRv2.out (by show 12 + 5 ≤ 17; omega)) (node_info _ _ _ _ _) (by simp [nv, Value.oneCell']) ?_
  have HSv3 : Hid (S (v2.setCells g 12 (nv z).toList)) := zh (HSQ.out _ _ _ HSv2.out)
  have HRv3 : Hid (RowAt (v2.setCells g 12 (nv z).toList) g 30 (cv (⟨x.op, x.p, x.n, x.A, x.c, x.ws, x.B, x.d, x.ps, x.pp, x.r, z⟩ : Cm))) := zh (RowAt.puts HRv2.out (nv z).toList 12)
  have hdv3 := HDv2.out.puts hg (nv z).toList 12
  have HDv3 : Hid (DeepC (v2.setCells g 12 (nv z).toList) (fun k => B ≤ k ∧ k ≠ b ∧ k ≠ g) (⟨x.op, x.p, x.n, x.A, x.c, x.ws, x.B, x.d, x.ps, x.pp, x.r, z⟩ : Cm)) := zh ⟨hdv3.ws, hdv3.wc, hdv3.ps, hdv3.pc, hdv3.l, HZv2.out.keep9 fun k _ ho => setCells_other _ _ _ _ k ho.2.2⟩
  have HMv3 := zh (HMv2.out.puts hg (nv z).toList 12)
  have HCv3 := zh (HCv2.out.puts hg (nv z).toList 12)
  have HZv3 : Hid (DeepN (v2.setCells g 12 (nv z).toList) (fun k => B ≤ k ∧ k ≠ b ∧ k ≠ g) [z]) := zh (HZv2.out.keep9 fun k _ ho => setCells_other _ _ _ _ k ho.2.2)
  clear hdv3
  refine hK.out _ _ HSv3.out ?_
  clear hK K
  (try simp only [Act.put, zA4, zA5, zA6])
  generalize (v2.setCells g 12 (nv z).toList) = v3 at *
  refine wpOT_done ?_
  go_wp2
  exact bodyPost_ret (results_none rfl _ _ _) rfl (HQ.out _ _ ⟨(⟨x.op, x.p, x.n, x.A, x.c, x.ws, x.B, x.d, x.ps, x.pp, x.r, z⟩ : Cm), A2, c2, l2, f2, ⟨s.n, s.ws, s.ps, s.pp, s.ts ++ [er1 z]⟩, rfl, HCv3.out, HRv3.out, HDv3.out, (HD0.out _ HMv3.out), step_r HST.out, fun hf => hold_t (HX.out (HST.out.none hf))⟩)
 ·(refine wpOT_solo (zO rfl) ?_)
  intro K hK
  go_simp
  go_at_call 115
  refine HC.out.mono ?_
  rintro e' v1 ⟨z, A2, c2, l2, f2, rfl, hdz, hs, hm, hst⟩
  have HSv1 : Hid (S v1) := zh (HSP.out v1 hm)
  have HRv1 := zh (HRv0.out.mv hm hgb)
  have HDv1 := zh (HDv0.out.mv (hm.two2 (g := g)))
  have HMv1 := zh (hm.two2 (g := g))
  have HCv1 := zh hs
  have HZv1 : Hid (DeepN v1 (fun k => B ≤ k ∧ k ≠ b ∧ k ≠ g) [z]) := zh (hdz.weak fun k _ hk => ⟨by omega, by omega, by omega⟩)
  have HST := zh hst
  clear hs hm hst hdz
  refine hK.out _ _ HSv1.out ?_
  clear hK K
  (try simp only [Act.put, zA4, zA5, zA6])
  (refine wpOT_solo (zO rfl) ?_)
  intro K hK
  rw [if_pos (by rfl)]
  have HSc := HSv1.out
  refine wp_load_mid _ _ rfl g 12 rfl (ncells x.r) _ (RowAt.range HRv1.out 12 (ncells x.r) (by intro j u hu; match j, hu with | 0, hu => exact hu | 1, hu => exact hu | 2, hu => exact hu | 3, hu => exact hu | 4, hu => exact hu)) Tryz.underlying28 rfl (by rw [show (ncells x.r).length = 5 from rfl]; kernel_rfl) ?_
  refine hK.out _ _ HSc ?_
  clear hK K HSc
  (try simp only [Act.put, zA4, zA5, zA6])
  iterate 2
   (refine wpOT_step (zO rfl) ?_)
   (first
    | (refine wpOT_skip (by rfl) ?_)
    | (refine wpOT_take (v := ?_) (by rfl) ?_ ?_; rotate_left 1; (intro wx hSx; go_simp; try with_reducible rfl)))
   (try simp only [Act.put, zA4, zA5, zA6])
  (refine wpOT_solo (zO rfl) ?_)
  intro K hK
  rw [if_pos (by rfl)]
  refine wp_store_mid _ _ _ rfl g 7 (nv x.r) rfl rfl (RowAt.there9 HRv1.out (by show 7 + 5 ≤ 17; omega)) (node_info _ _ _ _ _) (by simp [nv, Value.oneCell']) ?_
  have HSv2 : Hid (S (v1.setCells g 7 (nv x.r).toList)) := zh (HSQ.out _ _ _ HSv1.out)
  have HRv2 : Hid (RowAt (v1.setCells g 7 (nv x.r).toList) g 30 (cv (⟨x.op, x.p, x.n, x.A, x.c, x.ws, x.B, x.d, x.ps, x.pp, x.r, x.r⟩ : Cm))) := zh (RowAt.puts HRv1.out (nv x.r).toList 7)
  have hdv2 := HDv1.out.puts hg (nv x.r).toList 7
  have HDv2 : Hid (DeepC (v1.setCells g 7 (nv x.r).toList) (fun k => B ≤ k ∧ k ≠ b ∧ k ≠ g) (⟨x.op, x.p, x.n, x.A, x.c, x.ws, x.B, x.d, x.ps, x.pp, x.r, x.r⟩ : Cm)) := zh ⟨hdv2.ws, hdv2.wc, hdv2.ps, hdv2.pc, hdv2.r, hdv2.r⟩
  have HMv2 := zh (HMv1.out.puts hg (nv x.r).toList 7)
  have HCv2 := zh (HCv1.out.puts hg (nv x.r).toList 7)
  have HZv2 : Hid (DeepN (v1.setCells g 7 (nv x.r).toList) (fun k => B ≤ k ∧ k ≠ b ∧ k ≠ g) [z]) := zh (HZv1.out.keep9 fun k _ ho => setCells_other _ _ _ _ k ho.2.2)
  clear hdv2
  refine hK.out _ _ HSv2.out ?_
  clear hK K
  (try simp only [Act.put, zA4, zA5, zA6])
  generalize (v1.setCells g 7 (nv x.r).toList) = v2 at *
  iterate 2
   (refine wpOT_step (zO rfl) ?_)
   (first
    | (refine wpOT_skip (by rfl) ?_)
    | (refine wpOT_take (v := ?_) (by rfl) ?_ ?_; rotate_left 1; (intro wx hSx; go_simp; try with_reducible rfl)))
   (try simp only [Act.put, zA4, zA5, zA6])
  (refine wpOT_solo (zO rfl) ?_)
  intro K hK
  rw [if_pos (by rfl)]
  refine wp_store_mid _ _ _ rfl g 12 (nv z) rfl rfl (RowAt.there9 HRv2.out (by show 12 + 5 ≤ 17; omega)) (node_info _ _ _ _ _) (by simp [nv, Value.oneCell']) ?_
  have HSv3 : Hid (S (v2.setCells g 12 (nv z).toList)) := zh (HSQ.out _ _ _ HSv2.out)
  have HRv3 : Hid (RowAt (v2.setCells g 12 (nv z).toList) g 30 (cv (⟨x.op, x.p, x.n, x.A, x.c, x.ws, x.B, x.d, x.ps, x.pp, x.r, z⟩ : Cm))) := zh (RowAt.puts HRv2.out (nv z).toList 12)
  have hdv3 := HDv2.out.puts hg (nv z).toList 12
  have HDv3 : Hid (DeepC (v2.setCells g 12 (nv z).toList) (fun k => B ≤ k ∧ k ≠ b ∧ k ≠ g) (⟨x.op, x.p, x.n, x.A, x.c, x.ws, x.B, x.d, x.ps, x.pp, x.r, z⟩ : Cm)) := zh ⟨hdv3.ws, hdv3.wc, hdv3.ps, hdv3.pc, hdv3.l, HZv2.out.keep9 fun k _ ho => setCells_other _ _ _ _ k ho.2.2⟩
  have HMv3 := zh (HMv2.out.puts hg (nv z).toList 12)
  have HCv3 := zh (HCv2.out.puts hg (nv z).toList 12)
  have HZv3 : Hid (DeepN (v2.setCells g 12 (nv z).toList) (fun k => B ≤ k ∧ k ≠ b ∧ k ≠ g) [z]) := zh (HZv2.out.keep9 fun k _ ho => setCells_other _ _ _ _ k ho.2.2)
  clear hdv3
  refine hK.out _ _ HSv3.out ?_
  clear hK K
  (try simp only [Act.put, zA4, zA5, zA6])
  generalize (v2.setCells g 12 (nv z).toList) = v3 at *
  refine wpOT_done ?_
  go_wp2
  exact bodyPost_ret (results_none rfl _ _ _) rfl (HQ.out _ _ ⟨(⟨x.op, x.p, x.n, x.A, x.c, x.ws, x.B, x.d, x.ps, x.pp, x.r, z⟩ : Cm), A2, c2, l2, f2, ⟨s.n, s.ws, s.ps, s.pp, s.ts ++ [er1 z]⟩, rfl, HCv3.out, HRv3.out, HDv3.out, (HD0.out _ HMv3.out), step_r HST.out, fun hf => hold_t (HX.out (HST.out.none hf))⟩)
end
section
open Go.RowKit LX TR TM DT CM
theorem take_loadRow {P : Program} {S : World → Prop} {o : Oper} {a : Act} (ty : TypeId) (x : Operand) (ho : o.op = .load ty x) (g : Nat) (hx : a.eval x = .pointer (some ⟨g, 0, none⟩)) (t : TypeId) (cs : Array Value) (d : TypeDesc) (hS : ∀ w, S w → RowAt w g t cs)
 (hu : P.underlying ty = some d) (hd : (match d with | .struct _ | .array _ _ => true | _ => false) = true) (hi : (P.info? ty).map (·.size) = some cs.size) : ∀ w, S w → (execOp a.eval o).run P w = .ok (.value (.agg cs)) w := fun w hw => by
 unfold execOp
 simp only [ho, hx, Instr.loadAt, Instr.sureAddr, Sem.run_bind, Sem.run_pure, Result.andThen_ok, run_loadVar_row w g t ty cs (0, 0) d (hS w hw) hu hd hi]
namespace DT
end DT
end
end Go.Proofs.YtmffnkfohmbbeaaGreatDoor
