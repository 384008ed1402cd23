/- Texts that all the claims need. Conditions: those that each states. -/

import Derived.Test.YtmobcncgfbfmcaaGreatDoorCa12
set_option linter.unusedSimpArgs false
set_option linter.unusedVariables false
set_option maxRecDepth 100000
set_option maxHeartbeats 40000000
namespace Go.Proofs.YtmobcncgfbfmcaaGreatDoor
section
open Go.RowKit LX TR TM CM
def crc (A : Option Addr) (n c : Nat) (e x y : Int) : Array Value := #[.slice A n c, .int .i64 e, .int .i64 x, .int .i64 y]
abbrev CrAt (w : World) (b : Nat) (A : Option Addr) (n c : Nat) (e x y : Int) : Prop := RowAt w b 50 (crc A n c e x y)
theorem Q1e {w : World} {b : Nat} {A : Option Addr} {n c : Nat} {e x y : Int} (h : CrAt w b A n c e x y) : w.cell? ⟨b, 0, none⟩ = some (.slice A n c) ∧ w.cell? ⟨b, 1, none⟩ = some (.int .i64 e) ∧ w.cell? ⟨b, 2, none⟩ = some (.int .i64 x) ∧ w.cell? ⟨b, 3, none⟩ = some (.int .i64 y) :=
 ⟨(h.cell 0).trans rfl, (h.cell 1).trans rfl, (h.cell 2).trans rfl, (h.cell 3).trans rfl⟩
def Few (l : List Tr) : Prop := l.length ≤ 2199023255552 ∧ ∀ x ∈ nodes l, x.ks.length ≤ 2199023255552
theorem Few.drop {l : List Tr} (h : Few l) (m : Nat) : Few (l.drop m) := by
 refine ⟨by have := h.1; rw [List.length_drop]; omega, fun x hx => h.2 x ?_⟩
 have e := Q2u (l.take m) (l.drop m)
 rw [List.take_append_drop] at e
 rw [e]; exact List.mem_append_right _ hx
theorem Few.kid {l : List Tr} {x : Tr} (h : Few l) (hx : x ∈ l) : Few x.ks := ⟨h.2 x (Q31 hx), fun y hy => h.2 y (TR.mem_kids hx hy)⟩
def advA (A : Option Addr) (c k : Nat) : Option Addr := if c = k then A else A.map fun a => a.add (k * 5)
theorem Trs.drop {w : World} {B c : Nat} {A : Option Addr} {l : List Tr} (h : Trs w B A l) (hc : l.length ≤ c) (k : Nat) : Trs w B (advA A c k) (l.drop k) := by
 refine ⟨fun hne => ?_, fun x hx => h.2 x ?_⟩
 ·have e : tcs l = tcs (l.take k) ++ tcs (l.drop k) := by rw [← Q21, List.take_append_drop]
  obtain ⟨b, o, hA, hb, hcell⟩ := h.1 (by rw [e]; intro h0; exact hne (List.append_eq_nil_iff.1 h0).2)
  have hk : k < l.length := by
   rcases Nat.lt_or_ge k l.length with h | h
   ·exact h
   ·exfalso; apply hne; rw [List.drop_eq_nil_of_le h]; rfl
  refine ⟨b, o + k * 5, ?_, hb, fun j u hu => ?_⟩
  ·unfold advA
   rw [if_neg (by omega), hA]
   show some ((⟨b, o, none⟩ : Addr).add (k * 5)) = _
   unfold Addr.add; split <;> simp_all
  ·rw [Nat.add_assoc]
   refine hcell _ u ?_
   have hl : (tcs (l.take k)).length = k * 5 := by rw [Q2h, List.length_take, Nat.min_eq_left (by omega)]
   rw [e, List.getElem?_append_right (by omega), hl, show k * 5 + j - k * 5 = j by omega]
   exact hu
 ·have e := Q2u (l.take k) (l.drop k)
  rw [List.take_append_drop] at e
  rw [e]; exact List.mem_append_right _ hx
structure Cr (w : World) (b : Nat) (A : Option Addr) (c : Nat) (l : List Tr) (e : Int) (f : Option Int) : Prop where
 at_ : CrAt w b A l.length c e (fc f) (fa f)
 trs : Trs w b A l
 len : Few l
 cap : l.length ≤ c
section
variable {w w' : World} {b B c : Nat} {A : Option Addr} {l : List Tr} {e : Int} {f : Option Int}
theorem Cr.lt (h : Cr w b A c l e f) : b < w.heap.size := h.at_.lt
theorem Cr.low (h : Cr w b A c l e f) (hb : Below B w w') (hB : b < B) : Cr w' b A c l e f := ⟨h.at_.below hb hB, h.trs.below (hb.mono (Nat.le_of_lt hB)), h.len, h.cap⟩
theorem Cr.below (h : Cr w b A c l e f) (hb : Below w.heap.size w w') : Cr w' b A c l e f := h.low hb h.lt
theorem Cr.alloc (h : Cr w b A c l e f) (o : Obj) : Cr (w.alloc o) b A c l e f := h.below ((zB _ _).alloc (zL _) o)
theorem Cr.drewN (h : Cr w b A c l e f) (m : Nat) : Cr (w.drewN m) b A c l e f := h.below (Q0D (zB _ _) m)
theorem Cr.drew (h : Cr w b A c l e f) : Cr w.drew b A c l e f := h.drewN 1
theorem Cr.far (h : Cr w b A c l e f) {g j : Nat} (hg : b < g) {u : Value} : Cr (w.setCell ⟨g, j, none⟩ u) b A c l e f :=
 ⟨h.at_.far (p := ⟨g, j, none⟩) (Nat.ne_of_gt hg) u, h.trs.below ((zB b w).setCell (p := ⟨g, j, none⟩) (Nat.le_of_lt hg) u), h.len, h.cap⟩
theorem Cr.mv {A2 : Option Addr} {c2 : Nat} {l2 : List Tr} {e2 : Int} {f2 : Option Int} (h : Cr w b A c l e f) (hm : Mv b w w') (h1 : CrAt w' b A2 l2.length c2 e2 (fc f2) (fa f2)) (h2 : Trs w b A2 l2) (h3 : Few l2) (h4 : l2.length ≤ c2) : Cr w' b A2 c2 l2 e2 f2 := ⟨h1, h2.below hm.low, h3, h4⟩
end
structure StepL {α : Type} (rd : Rdr α) (l : List Tr) (e : Int) (f : Option Int) (x : α) (l2 : List Tr) (f2 : Option Int) : Prop where
 suf : ∃ m, l2 = l.drop m
 bad : ∀ p, f = some p → f2 = some p
 good : f = none → match rd l e with
  | .error p => f2 = some p
  | .ok (y, r) => f2 = none ∧ x = y ∧ l2 = r
section
variable {α β : Type} {rd : Rdr α} {l l2 l3 : List Tr} {e : Int} {f f2 f3 : Option Int} {x : α}
theorem StepL.err {p : Int} (hs : ∃ m, l2 = l.drop m) (h : f = some p ∨ (f = none ∧ rd l e = .error p)) : StepL rd l e f x l2 (some p) :=
 ⟨hs, fun q hq => by rcases h with h | ⟨h, _⟩ <;> rw [h] at hq <;> cases hq; rfl, fun hf => by
  rcases h with h | ⟨_, h⟩
  ·rw [hf] at h; cases h
  ·rw [h]⟩
theorem StepL.ok (hs : ∃ m, l2 = l.drop m) (h : rd l e = .ok (x, l2)) : StepL rd l e none x l2 none := ⟨hs, fun _ h => (by cases h), fun _ => by rw [h]; exact ⟨rfl, rfl, rfl⟩⟩
theorem StepL.cases (h : StepL rd l e f x l2 f2) : (∃ p, f2 = some p ∧ (f = some p ∨ (f = none ∧ rd l e = .error p))) ∨ (f = none ∧ f2 = none ∧ rd l e = .ok (x, l2)) := by
 obtain ⟨_, h1, h2⟩ := h
 cases f with
 | some p => exact .inl ⟨p, h1 p rfl, .inl rfl⟩
 | none =>
   have h2 := h2 rfl
   cases hr : rd l e with
   | error p => rw [hr] at h2; exact .inl ⟨p, h2, .inr ⟨rfl, rfl⟩⟩
   | ok yr =>
     obtain ⟨y, r⟩ := yr
     rw [hr] at h2
     obtain ⟨rfl, rfl, rfl⟩ := h2
     exact .inr ⟨rfl, rfl, rfl⟩
theorem Q2J (l : List Tr) : ∃ m, l = l.drop m := ⟨0, rfl⟩
theorem Q9F (h : ∃ m, l2 = l.drop m) (h2 : ∃ m, l3 = l2.drop m) : ∃ m, l3 = l.drop m := by
 obtain ⟨m, rfl⟩ := h
 obtain ⟨n, rfl⟩ := h2
 exact ⟨m + n, by rw [List.drop_drop]⟩
theorem StepL.bind {rd2 : α → Rdr β} {y : β} (h : StepL rd l e f x l2 f2) (h2 : StepL (rd2 x) l2 e f2 y l3 f3) : StepL (fun ts e => bnd (rd ts e) fun a r => rd2 a r e) l e f y l3 f3 := by
 have hs := Q9F h.suf h2.suf
 rcases h.cases with ⟨p, rfl, hr | ⟨rfl, hr⟩⟩ | ⟨rfl, rfl, hr⟩
 ·obtain rfl := h2.bad p rfl
  exact .err hs (.inl hr)
 ·obtain rfl := h2.bad p rfl
  exact .err hs (.inr ⟨rfl, by show bnd _ _ = _; rw [hr]; rfl⟩)
 ·rcases h2.cases with ⟨p, rfl, hr2 | ⟨_, hr2⟩⟩ | ⟨_, rfl, hr2⟩
  ·cases hr2
  ·exact .err hs (.inr ⟨rfl, by show bnd _ _ = _; rw [hr]; exact hr2⟩)
  ·exact .ok hs (by show bnd _ _ = _; rw [hr]; exact hr2)
theorem StepL.pure (y : β) : StepL (fun ts _ => .ok (y, ts)) l e f y l f := by
 cases f with
 | none => exact .ok (Q2J _) rfl
 | some p => exact .err (Q2J _) (.inl rfl)
theorem StepL.map (g : α → β) (h : StepL rd l e f x l2 f2) : StepL (fun ts e => bnd (rd ts e) fun a r => .ok (g a, r)) l e f (g x) l2 f2 := h.bind (rd2 := fun a ts _ => .ok (g a, ts)) (.pure (g x))
end
def Q27 (l : List Tr) (e : Int) (f : Option Int) : Option Int := some (f.getD (Q00 l e))
def Q0U (k : Nat) : Rdr Tr := fun ts e => match ts with
 | [] => .error e
 | x :: r => if x.t.k = k then .ok (x, r) else .error x.t.p
theorem Q53 {k : Nat} {l l2 : List Tr} {e : Int} {f f2 : Option Int} {x : Tr} (h : StepL (Q0U k) l e f x l2 f2) : StepL (Q0d k) l e f x.t l2 f2 := by
 have h1 := h.map (fun x : Tr => x.t)
 refine ⟨h1.suf, h1.bad, fun hf => ?_⟩
 have h2 := h1.good hf
 rw [show bnd (Q0U k l e) (fun a r => .ok (a.t, r)) = Q0d k l e from by
  cases l with
  | nil => rfl
  | cons y r => simp only [Q0U, Q0d]; split <;> rfl] at h2
 exact h2
theorem Q3X (a b c d e : Value) : (Tryz.prog.info? 55).map (·.size) = some (#[a, b, c, d, e] : Array Value).size := by kernel_rfl
theorem Q54 {w : World} {b : Nat} {A : Option Addr} {c : Nat} {l : List Tr} {e : Int} {f : Option Int} (h : Cr w b A c l e f) :
 Calls Tryz.prog 69 #[.pointer (some ⟨b, 0, none⟩)] w fun e' w' => e' = .returned (.tuple #[]) ∧ Cr w' b A c l e (Q27 l e f) ∧ Mv b w w' ∧ w'.heap.size = w.heap.size := by
 obtain ⟨c0, c1, c2, c3⟩ := Q1e h.at_
 have f2 := h.at_.free 2
 have f3 := h.at_.free 3
 have hbw := h.lt
 cases f with
 | some p =>
   have HR : Hid (Cr w b A c l e (Q27 l e (some p))) := h
   clear h
   simp only [fc, Option.isSome_some, if_true] at c2
   go_enter Tryz.func69, Tryz.ntmps69
   go_wp2_with fail
   exact bodyPost_ret (results_none rfl _ _ _) rfl ⟨rfl, HR.out, Mv.refl _ _, rfl⟩
 | none =>
   have H := zh h
   simp only [fc, fa, Option.isSome_none, Bool.false_eq_true, if_false, Option.getD_none] at c2 c3
   cases l with
   | nil =>
     clear h
     go_enter Tryz.func69, Tryz.ntmps69
     go_wp2_with fail
     go_end0
     have hm : Mv b w ((w.setCell ⟨b, 2, none⟩ (.int .i64 2)).setCell ⟨b, 3, none⟩ (.int .i64 e)) := ((Mv.refl b w).setCell (p := ⟨b, 2, none⟩) (.inl rfl) hbw _).setCell (p := ⟨b, 3, none⟩) (.inl rfl) hbw _
     exact ⟨rfl, H.out.mv hm ((H.out.at_.put 2 _).put 3 _) H.out.trs H.out.len H.out.cap, hm, by simp [World.setCell]⟩
   | cons x r =>
     obtain ⟨bb, o, rfl, hbl, hc⟩ := h.trs.at (k := 0) (by simp)
     obtain ⟨_, _, k2, _, _⟩ := hc 0 (by simp)
     rw [List.getD_cons_zero, Nat.zero_mul, Nat.add_zero] at k2
     have hne : bb ≠ b := by omega
     have hb1 : bb < w.heap.size := by omega
     have hlen : (0 : Int) < ((x :: r).length : Int) := by simp only [zA8]; omega
     clear h hc
     show Calls _ _ _ _ fun e' w' => e' = .returned (.tuple #[]) ∧ Cr w' b (some ⟨bb, o, none⟩) c (x :: r) e (some x.t.p) ∧ _
     generalize x.t.p = q at *
     generalize hn : (x :: r).length = n at *
     have HN := zh hn; clear hn
     have hd1 : decide (0 < n) = true := zE (by omega)
     go_enter Tryz.func69, Tryz.ntmps69
     go_wp2_with fail
     go_end0
     have hm : Mv b w (((w.setCell ⟨b, 2, none⟩ (.int .i64 2)).setCell ⟨b, 3, none⟩ (.int .i64 e)).setCell ⟨b, 3, none⟩ (.int .i64 q)) := (((Mv.refl b w).setCell (p := ⟨b, 2, none⟩) (.inl rfl) hbw _).setCell (p := ⟨b, 3, none⟩) (.inl rfl) hbw _).setCell (p := ⟨b, 3, none⟩) (.inl rfl) hbw _
     have ha := ((H.out.at_.put 2 (.int .i64 2)).put 3 (.int .i64 e)).put 3 (.int .i64 q)
     exact ⟨rfl, H.out.mv hm ha H.out.trs H.out.len H.out.cap, hm, by simp [World.setCell]⟩
end
section
open Go.RowKit LX TR TM CM
theorem Q6F {k : Nat} {x : Tr} {r : List Tr} {e : Int} (h : x.t.k = k) : Q0U k (x :: r) e = .ok (x, r) := by simp only [Q0U]; rw [if_pos h]
theorem Q9G {k : Nat} {ts : List Tr} {e : Int} (h : kindOf ts none ≠ k ∨ ts = []) : Q0U k ts e = .error (Q00 ts e) := by
 cases ts with
 | nil => rfl
 | cons x r =>
   have h' : ¬ x.t.k = k := h.elim (fun h => h) (fun h => by cases h)
   simp only [Q0U]; rw [if_neg h']; rfl
theorem Q9H {k : Nat} {l : List Tr} {e : Int} {f : Option Int} (hk : kindOf l none ≠ k ∨ l = []) (x : Tr) : StepL (Q0U k) l e f x l (Q27 l e f) := by
 cases f with
 | some p => exact .err (Q2J _) (.inl rfl)
 | none => exact .err (Q2J _) (.inr ⟨rfl, Q9G hk⟩)
theorem Q2K {w : World} {b : Nat} {A : Option Addr} {c : Nat} {l : List Tr} {e : Int} {f : Option Int} (h : Cr w b A c l e f) (k : Nat) :
 Calls Tryz.prog 70 #[.pointer (some ⟨b, 0, none⟩), .int .u8 (k : Int)] w fun e' w' => ∃ x A2 c2 l2 f2, e' = .returned (.agg (trv x)) ∧ Cr w' b A2 c2 l2 e f2 ∧ Mv b w w' ∧ StepL (Q0U k) l e f x l2 f2 ∧ (x = r0 ∨ x ∈ l) := by
 have hbw := h.lt
 have HA0 := zh (h.at_.alloc (.cells #[.int .u8 0, .string ⟨#[]⟩, .int .i64 0, .slice none 0 0, .int .i64 0] 55))
 have HM0 : Hid (Mv b w (w.alloc (.cells #[.int .u8 0, .string ⟨#[]⟩, .int .i64 0, .slice none 0 0, .int .i64 0] 55))) := (Mv.refl b w).alloc hbw _
 have HG := zh (RowAt.new w 55 #[.int .u8 0, .string ⟨#[]⟩, .int .i64 0, .slice none 0 0, .int .i64 0])
 have HS := zh (h.alloc (.cells #[.int .u8 0, .string ⟨#[]⟩, .int .i64 0, .slice none 0 0, .int .i64 0] 55))
 have HF := zh (Q54 HS.out)
 obtain ⟨c0, _, _, _⟩ := Q1e h.at_
 have hb2 : ¬ b = w.heap.size := by omega
 refine Q0e fun Q' hQ => ?_
 have HQ := zh hQ; clear hQ
 by_cases hm : kindOf l none = k ∧ l ≠ []
 ·cases l with
  | nil => exact absurd rfl hm.2
  | cons x r =>
    obtain ⟨bb, o, rfl, hbl, hc⟩ := h.trs.at (k := 0) (by simp)
    obtain ⟨k0, k1, k2, k3, k4⟩ := hc 0 (by simp)
    simp only [List.getD_cons_zero, Nat.zero_mul, Nat.add_zero] at k0 k1 k2 k3 k4
    have hkk : x.t.k = k := hm.1
    rw [hkk] at k0
    have hcap := h.cap
    have HTR := zh (h.trs.drop hcap 1)
    have HFEW := zh (h.len.drop 1)
    have hn1 : ((x :: r).length : Int) = (r.length : Int) + 1 := by simp
    have hw1 : IntKind.i64.wrap ((r.length : Int) + 1) = (r.length : Int) + 1 := by have := h.len.1; simp only [zA8] at this; rw [IntKind.wrap_i64] <;> omega
    have hlen : decide ((r.length : Int) + 1 = 0) = false := zF (by omega)
    have HX : Hid (trv x = #[.int .u8 (k : Int), .string x.t.s, .int .i64 x.t.p, .slice x.A x.ks.length x.c, .int .i64 x.e]) := by rw [← hkk]; exact rfl
    have HST : Hid (∀ f2, f2 = f → StepL (Q0U k) (x :: r) e f x r f2) := fun f2 hf => by
        subst hf
        cases f2 with
        | some p => exact .err ⟨1, rfl⟩ (.inl rfl)
        | none => exact .ok ⟨1, rfl⟩ (Q6F hkk)
    have f0 := h.at_.free 0
    have hb3 : bb < w.heap.size := by omega
    have hne : ¬ bb = b := by omega
    have hb4 : ¬ bb = w.heap.size := by omega
    simp only [zA8] at c0
    have hz : ((r.length : Int) + 1 == 0) = false := by rw [beq_eq_false_iff_ne]; omega
    have HEND : Hid (∀ A2 c2, A2 = advA (some ⟨bb, o, none⟩) c 1 → c2 = c - 1 → ∀ W, W = ((w.setCell ⟨b, 0, none⟩ (.slice A2 r.length c2)).alloc (.cells #[.int .u8 (k : Int), .string x.t.s, .int .i64 x.t.p, .slice x.A x.ks.length x.c, .int .i64 x.e] 55)).alloc (.cells #[.int .u8 (k : Int), .string x.t.s, .int .i64 x.t.p, .slice x.A x.ks.length x.c, .int .i64 x.e] 55) →
        RowAt W w.heap.size 55 #[.int .u8 (k : Int), .string x.t.s, .int .i64 x.t.p, .slice x.A x.ks.length x.c, .int .i64 x.e] ∧ Q' (.returned (.agg #[.int .u8 (k : Int), .string x.t.s, .int .i64 x.t.p, .slice x.A x.ks.length x.c, .int .i64 x.e])) W) := fun A2 c2 h1 h2 W hW => by
        subst h1 h2 hW
        have hm1 : Mv b w (w.setCell ⟨b, 0, none⟩ (.slice (advA (some ⟨bb, o, none⟩) c 1) r.length (c - 1))) := (Mv.refl b w).setCell (p := ⟨b, 0, none⟩) (.inl rfl) hbw _
        have hs1 := h.mv hm1 (h.at_.put 0 (.slice (advA (some ⟨bb, o, none⟩) c 1) r.length (c - 1))) HTR.out HFEW.out (by simp only [zA8] at hcap; show r.length ≤ c - 1; omega)
        have hz1 : (w.setCell ⟨b, 0, none⟩ (.slice (advA (some ⟨bb, o, none⟩) c 1) r.length (c - 1))).heap.size = w.heap.size := by simp [World.setCell]
        have hr := (RowAt.new (w.setCell ⟨b, 0, none⟩ (.slice (advA (some ⟨bb, o, none⟩) c 1) r.length (c - 1))) 55 #[.int .u8 (k : Int), .string x.t.s, .int .i64 x.t.p, .slice x.A x.ks.length x.c, .int .i64 x.e]).alloc (.cells #[.int .u8 (k : Int), .string x.t.s, .int .i64 x.t.p, .slice x.A x.ks.length x.c, .int .i64 x.e] 55)
        rw [hz1] at hr
        exact ⟨hr, HQ.out _ _ ⟨x, _, _, _, f, by rw [HX.out], (hs1.alloc _).alloc _, (hm1.alloc hbw _).alloc hbw _, HST.out f rfl, .inr (by simp)⟩⟩
    clear hm hc HF h HST HTR HFEW HS hcap HA0 HM0 HX
    generalize x.t.s = xs at *
    generalize x.t.p = xp at *
    generalize x.ks.length = xn at *
    generalize r.length = n at *
    by_cases hc1 : c = 1
    ·subst hc1
     go_enter Tryz.func70, Tryz.ntmps70
     go_wp2_with fail
     obtain ⟨h1, h2⟩ := HEND.out _ _ rfl rfl _ rfl
     exact bodyPost_ret (Q04 rfl _ _ w.heap.size _ _ (0, 0) _ rfl h1 Tryz.underlying55 rfl (Q3X _ _ _ _ _)) rfl h2
    ·go_enter Tryz.func70, Tryz.ntmps70
     go_wp2_with fail
     obtain ⟨h1, h2⟩ := HEND.out (some ⟨bb, o + 5, none⟩) (c - 1) (by unfold advA; rw [if_neg hc1]; rfl) rfl _ rfl
     exact bodyPost_ret (Q04 rfl _ _ w.heap.size _ _ (0, 0) _ rfl h1 Tryz.underlying55 rfl (Q3X _ _ _ _ _)) rfl h2
 ·have hk : kindOf l none ≠ k ∨ l = [] := by
   by_cases e0 : l = []
   ·exact .inr e0
   ·exact .inl fun e1 => hm ⟨e1, e0⟩
  have HEND : Hid (∀ w2, Cr w2 b A c l e (Q27 l e f) → Mv b (w.alloc (.cells #[.int .u8 0, .string ⟨#[]⟩, .int .i64 0, .slice none 0 0, .int .i64 0] 55)) w2 →
        RowAt (set5 w2 w.heap.size (.int .u8 0) (.string ⟨#[]⟩) (.int .i64 0) (.slice none 0 0) (.int .i64 0)) w.heap.size 55 #[.int .u8 0, .string ⟨#[]⟩, .int .i64 0, .slice none 0 0, .int .i64 0] ∧ Q' (.returned (.agg #[.int .u8 0, .string ⟨#[]⟩, .int .i64 0, .slice none 0 0, .int .i64 0])) (set5 w2 w.heap.size (.int .u8 0) (.string ⟨#[]⟩) (.int .i64 0) (.slice none 0 0) (.int .i64 0))) := fun w2 h1 h2 =>
   ⟨Q0T (HG.out.mv h2 (Nat.ne_of_gt hbw)), HQ.out _ _ ⟨r0, _, _, _, _, rfl, h1.low (Q1Q (zL w.heap.size)) hbw, (HM0.out.trans h2).onBelow hbw (Q1Q (zL _)) (zL _), Q9H hk _, .inl rfl⟩⟩
  cases l with
  | nil =>
    simp only [zA9] at c0
    clear hm hk h HS HA0 HM0
    go_enter Tryz.func70, Tryz.ntmps70
    go_wp2_with fail
    refine HF.out.mono ?_
    rintro e' w2 ⟨rfl, hs2, hm2, hz2⟩
    have hg2 := HG.out.mv hm2 (Nat.ne_of_gt hbw)
    have h3 := HEND.out w2 hs2 hm2
    obtain ⟨g0, g1, g2, g3, g4, u0, u1, u2, u3, u4⟩ := row5 hg2
    have H3 := zh h3
    clear hs2 hm2 hg2 h3 hz2 HEND HG
    go_wp2_with fail
    exact bodyPost_ret (Q04 rfl _ _ w.heap.size _ _ (0, 0) _ rfl H3.out.1 Tryz.underlying55 rfl (Q3X _ _ _ _ _)) rfl H3.out.2
  | cons x r =>
    obtain ⟨bb, o, rfl, hbl, hc⟩ := h.trs.at (k := 0) (by simp)
    obtain ⟨k0, _, _, _, _⟩ := hc 0 (by simp)
    simp only [List.getD_cons_zero, Nat.zero_mul, Nat.add_zero] at k0
    have hne : ((x.t.k : Int) != (k : Int)) = true := by
        have h1 : x.t.k ≠ k := hk.elim (fun h => h) (fun h => by cases h)
        simp; omega
    simp only [zA8] at c0
    have hz : ((r.length : Int) + 1 == 0) = false := by rw [beq_eq_false_iff_ne]; omega
    have hb3 : bb < w.heap.size := by omega
    have hb4 : ¬ bb = w.heap.size := by omega
    clear hm hk h HS HA0 HM0 hc
    generalize x.t.k = q at *
    generalize r.length = n at *
    go_enter Tryz.func70, Tryz.ntmps70
    go_wp2_with fail
    refine HF.out.mono ?_
    rintro e' w2 ⟨rfl, hs2, hm2, hz2⟩
    have hg2 := HG.out.mv hm2 (Nat.ne_of_gt hbw)
    have h3 := HEND.out w2 hs2 hm2
    obtain ⟨g0, g1, g2, g3, g4, u0, u1, u2, u3, u4⟩ := row5 hg2
    have H3 := zh h3
    clear hs2 hm2 hg2 h3 hz2 HEND HG
    go_wp2_with fail
    exact bodyPost_ret (Q04 rfl _ _ w.heap.size _ _ (0, 0) _ rfl H3.out.1 Tryz.underlying55 rfl (Q3X _ _ _ _ _)) rfl H3.out.2
end
section
open Go.RowKit LX TR TM CM
def Q3Y {α : Type} (F : FuncId) (V : World → Nat → α → Value → Prop) (rd : Rdr α) : Prop :=
 ∀ (w : World) (b : Nat) (A : Option Addr) (c : Nat) (l : List Tr) (e : Int) (f : Option Int), Cr w b A c l e f →
   Calls Tryz.prog F #[.pointer (some ⟨b, 0, none⟩)] w fun e' w' => ∃ v x A2 c2 l2 f2, e' = .returned v ∧ V w' w.heap.size x v ∧ Cr w' b A2 c2 l2 e f2 ∧ Mv b w w' ∧ StepL rd l e f x l2 f2
def Q9I (_w : World) (_s : Nat) (x : Pw) (v : Value) : Prop := v = .agg (pwv x)
theorem Q2L (a b c d : Value) : (Tryz.prog.info? 59).map (·.size) = some (#[a, b, c, d] : Array Value).size := by kernel_rfl
theorem Q9J (a b c d e : Value) (w : World) : (Instr.field 55 (.agg #[a, b, c, d, e]) 0).run Tryz.prog w = .ok (.agg #[a, b, c]) w := by
 unfold Instr.field
 rw [Sem.run_bind, Tryz.runUnderlying55]
 simp only [Result.andThen_ok, zA1, zA3, Sem.run_bind, asAgg, Sem.run_pure]
 unfold part
 rw [Sem.run_bind, Tryz.isAgg53]
 simp [Tryz.sizeOf53]
theorem Q3Z : Q3Y 111 Q3P Q05 := by
 intro w b A c l e f h
 have hbw := h.lt
 have HM0 : Hid (Mv b w (w.alloc (.cells #[.string ⟨#[]⟩, .int .i64 0] 24))) := (Mv.refl b w).alloc hbw _
 have HG := zh (RowAt.new w 24 #[.string ⟨#[]⟩, .int .i64 0])
 have HT := zh (Q2K (h.alloc (.cells #[.string ⟨#[]⟩, .int .i64 0] 24)) 97)
 clear h
 refine Q0e fun Q' hQ => ?_
 have HQ := zh hQ; clear hQ
 go_enter Tryz.func111, Tryz.ntmps111
 go_wp2_with fail
 refine HT.out.mono ?_
 rintro e' w1 ⟨x, A2, c2, l2, f2, rfl, hs, hm, hst, _⟩
 have HG1 := HG.out.mv hm (Nat.ne_of_gt hbw)
 have HST : Hid (StepL Q05 l e f ⟨x.t.s, x.t.p⟩ l2 f2) := (Q53 hst).map (fun t : Tk => (⟨t.s, t.p⟩ : Wd))
 obtain ⟨⟨k, s, p⟩, xA, xc, xk, xe⟩ := x
 have hsz := HG1.lt
 have HS1 := zh hs
 have HM1 := zh (HM0.out.trans hm)
 obtain ⟨g0, g1, u0, u1⟩ := row2 HG1
 have hn5 := RowAt.new w1 53 #[.int .u8 (k : Int), .string s, .int .i64 p]
 obtain ⟨m0, m1, m2, _, _, _⟩ := row3 hn5
 have HG2 := zh HG1
 clear hs hm hst HG1 hn5
 unfold trv
 simp only [Tr.t, Tr.ks, Tr.A, Tr.c, Tr.e] at HST ⊢
 generalize xk.length = xn at *
 have hq5 := Q9J (.int .u8 (k : Int)) (.string s) (.int .i64 p) (.slice xA xn xc) (.int .i64 xe)
 go_wp2_with fail
 have hgf := ((HG2.out.put 0 (.string s)).put 1 (.int .i64 p)).alloc (.cells #[.int .u8 (k : Int), .string s, .int .i64 p] 53)
 exact bodyPost_ret (Q04 rfl _ _ w.heap.size _ _ (0, 0) _ rfl hgf Tryz.underlying24 rfl (Q3d _ _)) rfl (HQ.out _ _ ⟨.agg (wv ⟨s, p⟩), ⟨s, p⟩, A2, c2, l2, f2, rfl, rfl, ((HS1.out.far hbw).far hbw).alloc _,
  ((HM1.out.setCell (p := ⟨w.heap.size, 0, none⟩) (.inr (zL _)) hbw _).setCell (p := ⟨w.heap.size, 1, none⟩) (.inr (zL _)) hbw _).alloc hbw _, HST.out⟩)
theorem Q6G : Q3Y 139 Q9I Q0w := by
 intro w b A c l e f h
 have hbw := h.lt
 have HM0 : Hid (Mv b w (w.alloc (.cells #[.string ⟨#[]⟩, .int .i64 0, .string ⟨#[]⟩, .int .i64 0] 59))) := (Mv.refl b w).alloc hbw _
 have HG := zh (RowAt.new w 59 #[.string ⟨#[]⟩, .int .i64 0, .string ⟨#[]⟩, .int .i64 0])
 have HT := zh (Q3Z _ _ _ _ _ _ _ (h.alloc (.cells #[.string ⟨#[]⟩, .int .i64 0, .string ⟨#[]⟩, .int .i64 0] 59)))
 clear h
 refine Q0e fun Q' hQ => ?_
 have HQ := zh hQ; clear hQ
 go_enter Tryz.func139, Tryz.ntmps139
 go_wp2_with fail
 refine HT.out.mono ?_
 rintro e' w1 ⟨v, ⟨s1, p1⟩, A1, c1, l1, f1, rfl, rfl, hs, hm, hst⟩
 have HST1 := zh hst
 have HM1 := zh (HM0.out.trans hm)
 have HG1 := zh ((HG.out.mv hm (Nat.ne_of_gt hbw)).alloc (.cells #[.string s1, .int .i64 p1] 24))
 have HW1 := zh (RowAt.new w1 24 #[.string s1, .int .i64 p1])
 have hsz1 : w.heap.size < w1.heap.size := (HG.out.mv hm (Nat.ne_of_gt hbw)).lt
 have HM2 := zh (HM1.out.alloc hbw (.cells #[.string s1, .int .i64 p1] 24))
 have HT2 := zh (Q2K (hs.alloc (.cells #[.string s1, .int .i64 p1] 24)) 60)
 clear hs hm hst
 unfold wv
 go_wp2_with fail
 refine HT2.out.mono ?_
 rintro e' w2 ⟨x, A2, c2, l2, f2, rfl, hs, hm, hst, _⟩
 have HST2 := zh (Q53 hst)
 have HM3 := zh (HM2.out.trans hm)
 have HG2 := zh (HG1.out.mv hm (Nat.ne_of_gt hbw))
 have HW2 := zh (HW1.out.mv hm (by omega))
 have HC := zh (fun q => Q3Z _ _ _ _ _ _ _ (hs.drewN q))
 clear hs hm hst
 unfold trv
 go_wp2_with fail
 obtain ⟨S, hSe⟩ : ∃ S : World → Prop, S = fun W => RowAt W w1.heap.size 24 #[.string s1, .int .i64 p1] := ⟨_, rfl⟩
 have HS : Hid (S w2.drew) := by rw [hSe]; exact zh HW2.out.drew
 have C0 : ∀ W, S W → W.cell? ⟨w1.heap.size, 0, none⟩ = some (.string s1) := fun W h => by rw [hSe] at h; exact (row2 h).1
 have C1 : ∀ W, S W → W.cell? ⟨w1.heap.size, 1, none⟩ = some (.int .i64 p1) := fun W h => by rw [hSe] at h; exact (row2 h).2.1
 refine Q1X S [(0, true), (1, true), (2, false), (3, true), (4, false)] (by kernel_rfl) (by kernel_rfl) rfl (by kernel_rfl) HS.out ?_
 iterate 2
  (refine Q1b (zO rfl) ?_)
  (first
        | (refine Q1c (by rfl) ?_)
        | (refine Q1d (v := ?_) (by rfl) ?_ ?_; rotate_left 1; (intro wx hSx; have hc_0 := C0 wx hSx; have hc_1 := C1 wx hSx; go_simp; try with_reducible rfl)))
  (try simp only [Act.put, zA4, zA5, zA6])
 (refine Q13 (zO rfl) ?_)
 intro K hK
 go_simp
 go_at_call 111
 refine (HC.out 1).mono ?_
 rintro e' w3 ⟨v, ⟨s2, p2⟩, A3, c3, l3, f3, rfl, rfl, hs, hm, hst⟩
 have hS : S w3 := by rw [hSe]; exact HW2.out.drew.mv hm (by omega)
 have HG3 := zh (HG2.out.drew.mv hm (Nat.ne_of_gt hbw))
 have HM4 := zh (HM3.out.drew.trans hm)
 have HS3 := zh hs
 have HST3 := zh hst
 clear HS
 have HS := zh hS; clear hS hs hm hst
 refine hK.out _ _ HS.out ?_
 clear hK K
 (try simp only [Act.put, zA4, zA5, zA6])
 unfold wv
 iterate 1
  (refine Q1b (zO rfl) ?_)
  (first
        | (refine Q1c (by rfl) ?_)
        | (refine Q1d (v := ?_) (by rfl) ?_ ?_; rotate_left 1; (intro wx hSx; go_simp; try with_reducible rfl)))
  (try simp only [Act.put, zA4, zA5, zA6])
 (refine Q13 (zO rfl) ?_)
 intro K hK
 rw [if_pos (by rfl)]
 refine wp_store_row _ _ _ rfl w.heap.size #[.string s1, .int .i64 p1, .string s2, .int .i64 p2] rfl rfl _ _ HG3.out (Q2L _ _ _ _) rfl (by simp [Value.oneCell']) ?_
 have hg4 := HG3.out.setRow #[.string s1, .int .i64 p1, .string s2, .int .i64 p2]
 have hS4 : S (w3.setRow w.heap.size #[.string s1, .int .i64 p1, .string s2, .int .i64 p2]) := by
  have h := HS.out
  rw [hSe] at h ⊢
  exact (setRow_other w3 w.heap.size w1.heap.size _ (by omega)).trans h
 refine hK.out _ _ hS4 ?_
 clear hK K
 simp only [Act.put]
 refine Q1Y ?_
 have HG4 := zh hg4
 clear hg4 hS4
 go_wp2
 have hm5 := HM4.out.setRow (g := w.heap.size) (.inr (zL _)) hbw #[.string s1, .int .i64 p1, .string s2, .int .i64 p2]
 have hs5 := HS3.out.low (below_setRow (zL w.heap.size) #[.string s1, .int .i64 p1, .string s2, .int .i64 p2]) hbw
 have h2 : StepL (fun ts e => bnd (Q05 ts e) fun b r3 => .ok ((⟨⟨s1, p1⟩, b⟩ : Pw), r3)) l2 e f2 ⟨⟨s1, p1⟩, ⟨s2, p2⟩⟩ l3 f3 := HST3.out.map (fun b => (⟨⟨s1, p1⟩, b⟩ : Pw))
 have h1 := HST2.out.bind (rd2 := fun _ ts e => bnd (Q05 ts e) fun b r3 => .ok ((⟨⟨s1, p1⟩, b⟩ : Pw), r3)) h2
 have h0 : StepL Q0w l e f ⟨⟨s1, p1⟩, ⟨s2, p2⟩⟩ l3 f3 := HST1.out.bind (rd2 := fun a ts e => bnd (Q0d 60 ts e) fun _ r2 => bnd (Q05 r2 e) fun b r3 => .ok ((⟨a, b⟩ : Pw), r3)) h1
 exact bodyPost_ret (Q04 rfl _ _ w.heap.size _ _ (0, 0) _ rfl HG4.out Tryz.underlying59 rfl (Q2L _ _ _ _)) rfl (HQ.out _ _ ⟨.agg (pwv ⟨⟨s1, p1⟩, ⟨s2, p2⟩⟩), ⟨⟨s1, p1⟩, ⟨s2, p2⟩⟩, A3, c3, l3, f3, rfl, rfl, hs5, hm5,
  h0⟩)
end
section
namespace CM
open LX TR TM
def endL {α : Type} (xs : List α) (x : Res (List α)) : Except Int (List α) := match x with
 | .error p => .error p
 | .ok (ys, []) => .ok (xs ++ ys)
 | .ok (_, y :: _) => .error y.t.p
structure LstL {α : Type} (rd : Rdr α) (R : Except Int (List α)) (e : Int) (xs : List α) (l2 : List Tr) (f2 : Option Int) : Prop where
 bad : ∀ p, f2 = some p → R = .error p
 good : f2 = none → ∃ n : Nat, l2.length ≤ n ∧ endL xs (Q0v rd n l2 e) = R
section
variable {α : Type} {rd : Rdr α} {e : Int} {xs : List α} {x : α} {l l2 l3 l4 : List Tr} {f2 f3 f4 : Option Int} {t : Tk} {R : Except Int (List α)}
theorem LstL.start (hR : endL [] (Q0c rd l e) = R) (h : StepL rd l e none x l2 f2) : LstL rd R e [x] l2 f2 := by
 subst hR
 rcases h.cases with ⟨p, rfl, h | ⟨_, hr⟩⟩ | ⟨_, rfl, hr⟩
 ·cases h
 ·exact ⟨fun q hq => by cases hq; unfold Q0c; rw [hr]; rfl, fun h => by cases h⟩
 ·obtain ⟨m, rfl⟩ := h.suf
  refine ⟨fun q hq => (by cases hq), fun _ => ⟨l.length, by rw [List.length_drop]; omega, ?_⟩⟩
  unfold Q0c
  rw [hr]
  show _ = endL [] (bnd (Q0v rd l.length (l.drop m) e) _)
  cases Q0v rd l.length (l.drop m) e with
  | error p => rfl
  | ok yr => obtain ⟨ys, r⟩ := yr; cases r <;> rfl
theorem LstL.next {c : Tr} {r : List Tr} (h : LstL rd R e xs (c :: r) none) (h2 : StepL (Q0d 44) (c :: r) e none t l3 f3) (h3 : StepL rd l3 e f3 x l4 f4) : LstL rd R e (xs ++ [x]) l4 f4 := by
 obtain ⟨n, hn, hR⟩ := h.good rfl
 obtain ⟨n, rfl⟩ : ∃ k, n = k + 1 := ⟨n - 1, by simp only [zA8] at hn; omega⟩
 simp only [Q0v] at hR
 by_cases hc : c.t.k = 44
 ·rw [if_pos hc] at hR
  have e2 := h2.good rfl
  rw [Q0P hc] at e2
  obtain ⟨rfl, _, rfl⟩ := e2
  rcases h3.cases with ⟨p, rfl, h | ⟨_, hr⟩⟩ | ⟨_, rfl, hr⟩
  ·cases h
  ·exact ⟨fun q hq => by cases hq; rw [← hR, hr]; rfl, fun h => by cases h⟩
  ·obtain ⟨m, rfl⟩ := h3.suf
   refine ⟨fun q hq => (by cases hq), fun _ => ⟨n, by simp only [zA8] at hn; rw [List.length_drop]; omega, ?_⟩⟩
   rw [← hR, hr]
   show endL _ _ = endL xs (bnd (Q0v rd n (l3.drop m) e) _)
   cases Q0v rd n (l3.drop m) e with
   | error p => rfl
   | ok yr =>
     obtain ⟨ys, r⟩ := yr
     cases r with
     | nil => simp [endL, bnd]
     | cons _ _ => rfl
 ·rw [if_neg hc] at hR
  have e2 := h2.good rfl
  rw [Q1T (show kindOf (c :: r) none ≠ 44 from hc)] at e2
  have e2 : f3 = some c.t.p := e2
  subst e2
  obtain rfl := h3.bad _ rfl
  exact ⟨fun q hq => by cases hq; rw [← hR]; rfl, fun h => by cases h⟩
end
def prsA : Rdr (List Pw × Int) := fun ts e => bnd (prsR ts e) fun l r => .ok ((l, Q00 ts e), r)
theorem Q9K {ks : List Tr} {e : Int} (h : ks ≠ []) : endL [] (Q0c Q0w ks e) = endL [] (optR Q0w ks e) := by
 cases ks with
 | nil => exact absurd rfl h
 | cons x r =>
   simp only [optR]
   split
   ·rename_i hk
    show endL [] (Q0c Q0w (x :: r) e) = .error x.t.p
    unfold Q0c Q0w Q05
    rw [Q1T (show kindOf (x :: r) none ≠ 97 by show x.t.k ≠ 97; omega)]; rfl
   ·rfl
theorem Q9L {x : Tr} {r : List Tr} {e : Int} (hk : x.t.k = 123) : prsA (x :: r) e = match endL [] (optR Q0w x.ks x.e) with
 | .error p => .error p
 | .ok ps => .ok ((ps, x.t.p), r) := by
 unfold prsA prsR
 simp only [Q0f]
 rw [if_pos hk]
 cases optR Q0w x.ks x.e with
 | error p => rfl
 | ok yr =>
   obtain ⟨ys, q⟩ := yr
   cases q <;> rfl
end CM
open Go.RowKit LX TR TM CM
def Q9M (w : World) (s : Nat) (x : List Pw × Int) (v : Value) : Prop := ∃ B d, v = .tuple #[.slice B x.1.length d, .int .i64 x.2] ∧ x.1.length ≤ d ∧ SlC w (fun k => s ≤ k) B (pwcs x.1)
theorem Q55 : (Tryz.prog.info? 59).map (fun i => (i.zero, i.size, i.bytes)) = some (some (.agg #[.string ⟨#[]⟩, .int .i64 0, .string ⟨#[]⟩, .int .i64 0]), 4, 48) := by kernel_rfl
theorem Q56 (x : Pw) : ∀ u ∈ Q1f x, u.oneCell' = true := by
 intro u hu
 simp only [Q1f, List.mem_cons, List.not_mem_nil, or_false] at hu
 rcases hu with rfl | rfl | rfl | rfl <;> rfl
theorem Q9N : Q3Y 113 Q9M prsA := by
 intro w b A c l e f h
 have hbw := h.lt
 have HT := zh (Q2K h 123)
 have HLEN := zh h.len
 have HTRS := zh h.trs
 clear h
 refine Q0e fun Q' hQ => ?_
 have HQ := zh hQ; clear hQ
 go_enter Tryz.func113, Tryz.ntmps113
 go_wp2_with fail
 refine HT.out.mono ?_
 rintro e' w1 ⟨x, A1, c1, l1, f1, rfl, hs, hm, hst, hx⟩
 have HM1 := zh hm
 have hsz1 := hs.lt
 have hszw : w.heap.size ≤ w1.heap.size := hm.size
 have HKD : Hid (Trs w1 b x.A x.ks ∧ Few x.ks ∧ x.ks.length ≤ x.c) := by
  have ht1 := HTRS.out.below hm.low
  rcases hx with rfl | hx
  ·exact zh ⟨Trs.nil _ _ _, ⟨by decide, fun y hy => by simp [r0, Tr.ks, nodes] at hy⟩, by decide⟩
  ·exact zh ⟨ht1.kid hx, HLEN.out.kid hx, ht1.cap hx⟩
 have HST : Hid (StepL (Q0U 123) l e f x l1 f1) := hst
 have HN1 := zh (RowAt.new w1 55 (trv x))
 have HS1 := zh (hs.alloc (.cells (trv x) 55))
 have HM2 := zh (hm.alloc hbw (.cells (trv x) 55))
 have HK1 := zh (fun W (h : Below w1.heap.size w1 W) => HKD.out.1.below (h.mono (Nat.le_of_lt hsz1)))
 have HBA : Hid (Below w1.heap.size w1 (w1.alloc (.cells (trv x) 55))) := zh ((zB _ _).alloc (zL _) _)
 clear hs hm hst hx HT HM1 HTRS HLEN
 have HKF := zh HKD.out.2
 clear HKD
 obtain ⟨⟨q, s, p⟩, xA, xc, ks, xe⟩ := x
 unfold trv at HN1 HS1 HM2 HBA ⊢
 simp only [Tr.t, Tr.ks, Tr.A, Tr.c, Tr.e] at HN1 HS1 HM2 HBA HK1 HKF ⊢
 go_upto_region 2 with fail
 generalize hw2 : w1.alloc (.cells #[.int .u8 (q : Int), .string s, .int .i64 p, .slice xA ks.length xc, .int .i64 xe] 55) = w2 at *
 have hsz2 : w1.heap.size < w2.heap.size := HN1.out.lt
 clear hw2
 obtain ⟨c0, c1', c2', c3'⟩ := Q1e HS1.out.at_
 obtain ⟨t0, t1, t2, t3, t4, _, _, _, _, _⟩ := row5 HN1.out
 generalize hkn : ks.length = n at *
 have HKN := zh hkn; clear hkn
 go_region
 clear c0 c1' c2' c3' t0 t1 t2 t3 t4
 have HCI := zh ((RowAt.new w2 50 (crc xA n xc xe (fc f1) (fa f1))).drew)
 have hbi : Below w2.heap.size w2 (w2.alloc (.cells (crc xA n xc xe (fc f1) (fa f1)) 50)).drew := ((zB _ _).alloc (zL _) _).drew
 have HS2 := zh (HS1.out.below hbi)
 have HM3 := zh (HM2.out.onBelow hbw hbi (by omega))
 have HN2 := zh (HN1.out.below hbi HN1.out.lt)
 have HK2 : Hid (Trs ((w2.alloc (.cells (crc xA n xc xe (fc f1) (fa f1)) 50)).drew) w2.heap.size xA ks) := zh ((HK1.out _ (HBA.out.trans (hbi.mono (by omega)))).mono (by omega))
 clear hbi HS1 HM2 HN1 HK1 HBA
 unfold crc at HCI HS2 HM3 HN2 HK2
 generalize (w2.alloc (.cells #[.slice xA n xc, .int .i64 xe, .int .i64 (fc f1), .int .i64 (fa f1)] 50)).drew = w3 at *
 have HCR : Hid (Cr w3 w2.heap.size xA xc ks xe f1) := zh ⟨by rw [HKN.out]; exact HCI.out, HK2.out, HKF.out.1, by rw [HKN.out]; exact HKF.out.2⟩
 obtain ⟨OUT, hOUT⟩ : ∃ OUT : World → Prop, OUT = fun W => Cr W b A1 c1 l1 e f1 ∧ Mv b w W ∧ RowAt W w1.heap.size 55 #[.int .u8 (q : Int), .string s, .int .i64 p, .slice xA n xc, .int .i64 xe] := ⟨_, rfl⟩
 have HO3 : Hid (OUT w3) := by rw [hOUT]; exact zh ⟨HS2.out, HM3.out, HN2.out⟩
 have HKP : Hid (∀ Wa Wb, OUT Wa → Below w2.heap.size Wa Wb → OUT Wb) := by
  refine zh fun Wa Wb h hb => ?_
  rw [hOUT] at h ⊢
  exact ⟨h.1.low hb (by omega), h.2.1.onBelow hbw hb (by omega), h.2.2.below hb (by omega)⟩
 have HOUT := zh hOUT
 clear hOUT HS2 HM3 HN2 HK2 HCI
 generalize hR : endL [] (optR Q0w ks xe) = R at *
 have HR := zh hR; clear hR
 have HSZ3 := HCR.out.lt
 obtain ⟨LI, hLI⟩ : ∃ LI : List Pw → List Tr → Option Int → Prop, LI = fun xs l2 f2 => (∀ p0, f1 = some p0 → f2 = some p0) ∧ (f1 = none → LstL Q0w R xe xs l2 f2) ∧ (f2 = none → xs.length + l2.length ≤ n + 1) := ⟨_, rfl⟩
 have HLI0 : Hid (ks = [] → LI [] [] f1) := by
  refine zh fun hk => ?_
  rw [hLI]
  refine ⟨fun _ h => h, fun hf => ?_, fun _ => by simp⟩
  rw [hf, ← HR.out, hk]
  exact ⟨fun _ h => (by cases h), fun _ => ⟨0, by simp, rfl⟩⟩
 have HLI1 : Hid (∀ x4 l4 f4, ks ≠ [] → StepL Q0w ks xe f1 x4 l4 f4 → l4.length ≤ n → LI [x4] l4 f4) := by
  refine zh fun x4 l4 f4 hk h hl => ?_
  rw [hLI]
  refine ⟨fun p0 hf => h.bad p0 hf, fun hf => ?_, fun _ => by simp only [List.length_singleton]; omega⟩
  subst hf
  exact LstL.start (by rw [Q9K hk]; exact HR.out) h
 have HLI2 : Hid (∀ xs c r t l3 f3 x4 l4 f4, LI xs (c :: r) none → StepL (Q0d 44) (c :: r) xe none t l3 f3 → StepL Q0w l3 xe f3 x4 l4 f4 → LI (xs ++ [x4]) l4 f4 ∧ (f4 = none → l4.length ≤ r.length)) := by
  refine zh fun xs c r t l3 f3 x4 l4 f4 h h2 h3 => ?_
  rw [hLI] at h ⊢
  have hlen : f4 = none → l4.length ≤ r.length := fun hf => by
   obtain ⟨m, rfl⟩ := h3.suf
   rcases h2.cases with ⟨p, rfl, _⟩ | ⟨_, rfl, hr⟩
   ·have := h3.bad p rfl; rw [hf] at this; cases this
   ·obtain ⟨y, hy, _, _⟩ := Q5f hr
    injection hy with _ hy
    rw [List.length_drop, ← hy]; omega
  have hf1 : f1 = none := by
   cases f1 with
   | none => rfl
   | some p => have := h.1 p rfl; cases this
  refine ⟨⟨fun p0 hf => (by rw [hf1] at hf; cases hf), fun hf => (h.2.1 hf).next h2 h3, fun hf => ?_⟩, hlen⟩
  have h4 := hlen hf
  have h5 := h.2.2 rfl
  simp only [zA7, zA8, zA9] at h5 ⊢
  omega
 have HLE : Hid (∀ xs l2 f2, LI xs l2 f2 → (f2 = none → l2 = []) → ∀ f3, f3 = f2 → StepL prsA l e f (xs, p) l1 f3) := by
  refine zh fun xs l2 f2 h hend f3 hf3 => ?_
  subst hf3
  rw [hLI] at h
  have hpr : ∀ p0, Q0U 123 l e = .error p0 → prsA l e = .error p0 := fun p0 h => by
   unfold prsA prsR
   cases l with
   | nil =>
     injection h with h
     rw [← h]; rfl
   | cons y r =>
     simp only [Q0U] at h
     simp only [Q0f]
     by_cases hy : y.t.k = 123
     ·rw [if_pos hy] at h; cases h
     ·rw [if_neg hy] at h ⊢
      injection h with h
      rw [h]; rfl
  rcases HST.out.cases with ⟨p0, hp0, h1 | ⟨h1, h2⟩⟩ | ⟨h1, h2, h3⟩
  ·rw [h.1 p0 hp0]
   exact .err HST.out.suf (.inl h1)
  ·rw [h.1 p0 hp0]
   exact .err HST.out.suf (.inr ⟨h1, hpr p0 h2⟩)
  ·have hl := h.2.1 h2
   have hsuf := HST.out.suf
   cases l with
   | nil => cases h3
   | cons y r =>
     simp only [Q0U] at h3
     by_cases hy : y.t.k = 123
     ·rw [if_pos hy] at h3
      obtain ⟨rfl, rfl⟩ := Q0q h3
      have hpe := Q9L (r := r) (e := e) hy
      simp only [Tr.ks, Tr.e, Tr.t] at hpe
      rw [HR.out] at hpe
      cases f3 with
      | some p2 => exact .err hsuf (.inr ⟨h1, by rw [hpe, hl.bad p2 rfl]⟩)
      | none =>
        subst h1
        obtain ⟨k, _, hk⟩ := hl.good rfl
        rw [hend rfl] at hk
        have hm : Q0v Q0w k [] xe = .ok ([], []) := by cases k <;> rfl
        rw [hm] at hk
        simp only [endL, List.append_nil] at hk
        exact .ok hsuf (by rw [hpe, ← hk])
     ·rw [if_neg hy] at h3; cases h3
 have HXS : Hid (∀ xs l2, LI xs l2 none → xs.length + l2.length ≤ n + 1) := by
  refine zh fun xs l2 h => ?_
  rw [hLI] at h
  exact h.2.2 rfl
 clear hLI HR HST
 have HFEW : Hid (n ≤ 2199023255552) := by rw [← HKN.out]; exact zh HKF.out.1.1
 have ho3 := HO3.out
 rw [HOUT.out] at ho3
 obtain ⟨_, _, _, t3, _, _, _, _, _, _⟩ := row5 ho3.2.2
 clear ho3
 go_upto_if 22 with fail
 clear t3
 go_cut [6] from 22 to 27 (fun lv wx => ∃ (xs : List Pw) (X : Option Addr) (d : Nat) (A2 : Option Addr) (c2 : Nat) (l2 : List Tr) (f2 : Option Int), lv = .slice X xs.length d ∧ Hid (LI xs l2 f2) ∧ Hid (Cr wx w2.heap.size A2 c2 l2 xe f2) ∧ Hid (OUT wx) ∧ Hid (wx.ownsRow (w2.heap.size + 1) 59 4 (.slice X xs.length d) xs.length (pwcs xs)) ∧ Hid (l2.length ≤ n))
 case first =>
  cases ks with
  | nil =>
    have hn0 : n = 0 := HKN.out.symm
    have HL := zh (HLI0.out rfl)
    have hd0 : decide (0 < n) = false := zF (by omega)
    have hd1 : ¬ (0 : Int) < (n : Int) := by omega
    clear hn0
    go_wp2_with fail
    go_meet
    case rel => exact ⟨[], none, 0, xA, xc, [], f1, rfl, HL.out, HCR.out, HO3.out, World.ownsRow_nil _ _ _ _, Nat.zero_le _⟩
  | cons y ys =>
    have hn0 : 0 < n := by rw [← HKN.out]; simp
    have hd0 : decide (0 < n) = true := zE hn0
    have hd1 : (0 : Int) < (n : Int) := by omega
    have HC4 := zh (Q6G _ _ _ _ _ _ _ HCR.out)
    go_wp2_with fail
    refine HC4.out.mono ?_
    rintro e' w4 ⟨v4, x4, A4, c4, l4, f4, rfl, rfl, hs4, hm4, hst4⟩
    have hl4 : l4.length ≤ n := by
        obtain ⟨m, rfl⟩ := hst4.suf
        rw [List.length_drop, HKN.out]; omega
    have HL := zh (HLI1.out x4 l4 f4 (by simp) hst4 hl4)
    have HO4 := zh (HKP.out _ _ HO3.out hm4.low)
    have HCR4 := zh hs4
    have HL4 := zh hl4
    have hbase : w2.heap.size + 1 ≤ w4.heap.size := hs4.lt
    clear hs4 hm4 hst4 hl4 hn0 hd0 hd1
    unfold pwv
    go_wp2_with (at_builtin; refine Q25 _ rfl _ _ 26 rfl 59 (.agg #[.string ⟨#[]⟩, .int .i64 0, .string ⟨#[]⟩, .int .i64 0]) 4 48 Tryz.underlying26 Q55 rfl (by decide) (w2.heap.size + 1) none 0 0 (pwcs []) rfl ?c1 w4.heap.size (Q1f x4) rfl rfl ?c2 (Q56 x4) ?c3 ?c4 ?c5 ?_)
    case c1 => exact World.ownsRow_nil _ _ _ _
    case c2 => intro j u hu; have h := (RowAt.new w4 59 (Q1f x4).toArray).cell j; exact h.trans (by simpa using hu)
    case c3 => simp only [maxLen]; omega
    case c4 => omega
    case c5 => simp; omega
    intro X5 d5 w5 hown5 hb5 hg5 hat5
    have hb45 : Below (w2.heap.size + 1) w4 w5 := ((zB _ w4).alloc hbase _).trans hb5
    have HO5 := zh (HKP.out _ _ HO4.out (hb45.mono (Nat.le_succ _)))
    have HCR5 := zh (HCR4.out.low hb45 (zS _))
    have HOWN := zh hown5
    clear hown5 hb5 hg5 hat5 hb45
    go_wp2_with fail
    go_meet
    case rel => exact ⟨[x4], X5, d5, A4, c4, l4, f4, rfl, HL.out, HCR5.out, HO5.out, HOWN.out, HL4.out⟩
 case rest =>
  obtain ⟨xs, X, d, A2, c2, l2, f2, rfl, HL, HC, HO, HW, HLN⟩ := hcut
  clear HLI0 HLI1 HCR HO3 HKN HKF
  go_wp2_with fail
  go_loopg [6] (n + 2) (fun mm sv wr => ∃ (xs : List Pw) (X : Option Addr) (d : Nat) (A2 : Option Addr) (c2 : Nat) (l2 : List Tr) (f2 : Option Int), mm ≤ n + 2 ∧ sv = .slice X xs.length d ∧ Hid (f2 = none → l2.length < mm) ∧ Hid (LI xs l2 f2) ∧ Hid (Cr wr w2.heap.size A2 c2 l2 xe f2) ∧ Hid (OUT wr) ∧ Hid (wr.ownsRow (w2.heap.size + 1) 59 4 (.slice X xs.length d) xs.length (pwcs xs)))
  case atStart => exact ⟨xs, X, d, A2, c2, l2, f2, by omega, rfl, fun _ => by have h := HLN.out; omega, HL.out, HC.out, HO.out, HW.out⟩
  case round =>
   obtain ⟨xs, X, d, A2, c2, l2, f2, hmm, rfl, HME, HL, HC, HO, HW⟩ := hrel
   have ho := HO.out
   rw [HOUT.out] at ho
   have HOB := zh ho.1
   have HOM := zh ho.2.1
   have HON := zh ho.2.2
   clear ho
   obtain ⟨i0, _, i2, i3⟩ := Q1e HC.out.at_
   have q1 : w2.heap.size ≠ b := by omega
   have q2 : w1.heap.size ≠ b := by omega
   cases f2 with
   | some p2 =>
     have HE := zh (fun f3 h => HLE.out xs l2 (some p2) HL.out (fun h => by cases h) f3 h)
     simp only [fc, fa, Option.isSome_some, if_true, Option.getD_some] at i2 i3
     have f2c := HOB.out.at_.free 2
     obtain ⟨_, _, b2, b3⟩ := Q1e HOB.out.at_
     have f3c := HOB.out.at_.free 3
     obtain ⟨_, _, t2, _, _, _, _, _, _, _⟩ := row5 HON.out
     have HM9 : Hid (Mv b wr ((wr.setCell ⟨b, 2, none⟩ (.int .i64 2)).setCell ⟨b, 3, none⟩ (.int .i64 p2))) := ((Mv.refl b wr).setCell (p := ⟨b, 2, none⟩) (.inl rfl) HOB.out.lt _).setCell (p := ⟨b, 3, none⟩) (.inl rfl) HOB.out.lt _
     have HC9 : Hid (Cr ((wr.setCell ⟨b, 2, none⟩ (.int .i64 2)).setCell ⟨b, 3, none⟩ (.int .i64 p2)) b A1 c1 l1 e (some p2)) := HOB.out.mv HM9.out ((HOB.out.at_.put 2 (.int .i64 2)).put 3 (.int .i64 p2)) HOB.out.trs HOB.out.len HOB.out.cap
     have HW9 : Hid (Mv b w ((wr.setCell ⟨b, 2, none⟩ (.int .i64 2)).setCell ⟨b, 3, none⟩ (.int .i64 p2))) := (HOM.out.setCell (p := ⟨b, 2, none⟩) (.inl rfl) hbw _).setCell (p := ⟨b, 3, none⟩) (.inl rfl) hbw _
     have HCAP := zh (Q17 HW.out)
     have HSC : Hid (SlC ((wr.setCell ⟨b, 2, none⟩ (.int .i64 2)).setCell ⟨b, 3, none⟩ (.int .i64 p2)) (fun k => w.heap.size ≤ k) X (pwcs xs)) := (((SlC.of_own (ok := fun k => w2.heap.size + 1 ≤ k) HW.out fun k hk _ => hk).setCell9 (p := ⟨b, 2, none⟩) (fun k hk => by show k ≠ b; omega) (.int .i64 2)).setCell9 (p := ⟨b, 3, none⟩) (fun k hk => by show k ≠ b; omega) (.int .i64 p2)).weak fun k _ hk => by omega
     clear HC HO HW HOB HOM HON HM9
     generalize hxn : xs.length = xn at *
     have HXN := zh hxn; clear hxn
     go_wp2_with fail
     go_quiet (fail)
     go_wp2
     exact HQ.out _ _ ⟨.tuple #[.slice X xn d, .int .i64 p], (xs, p), A1, c1, l1, _, rfl, ⟨X, d, by rw [HXN.out], by rw [HXN.out]; exact HCAP.out, HSC.out.keep9 fun _ _ _ => rfl⟩, HC9.out.drewN _, HW9.out.drewN _, HE.out _ rfl⟩
   | none =>
     simp only [fc, fa, Option.isSome_none, Bool.false_eq_true, if_false, Option.getD_none] at i2 i3
     cases l2 with
     | nil =>
       have HE := zh (fun f3 h => HLE.out xs [] none HL.out (fun _ => rfl) f3 h)
       simp only [zA9] at i0
       have f2c := HOB.out.at_.free 2
       obtain ⟨_, _, b2, b3⟩ := Q1e HOB.out.at_
       have f3c := HOB.out.at_.free 3
       obtain ⟨_, _, t2, _, _, _, _, _, _, _⟩ := row5 HON.out
       have HM9 : Hid (Mv b wr ((wr.setCell ⟨b, 2, none⟩ (.int .i64 0)).setCell ⟨b, 3, none⟩ (.int .i64 0))) := ((Mv.refl b wr).setCell (p := ⟨b, 2, none⟩) (.inl rfl) HOB.out.lt _).setCell (p := ⟨b, 3, none⟩) (.inl rfl) HOB.out.lt _
       have HC9 : Hid (Cr ((wr.setCell ⟨b, 2, none⟩ (.int .i64 0)).setCell ⟨b, 3, none⟩ (.int .i64 0)) b A1 c1 l1 e (none)) := HOB.out.mv HM9.out ((HOB.out.at_.put 2 (.int .i64 0)).put 3 (.int .i64 0)) HOB.out.trs HOB.out.len HOB.out.cap
       have HW9 : Hid (Mv b w ((wr.setCell ⟨b, 2, none⟩ (.int .i64 0)).setCell ⟨b, 3, none⟩ (.int .i64 0))) := (HOM.out.setCell (p := ⟨b, 2, none⟩) (.inl rfl) hbw _).setCell (p := ⟨b, 3, none⟩) (.inl rfl) hbw _
       have HCAP := zh (Q17 HW.out)
       have HSC : Hid (SlC ((wr.setCell ⟨b, 2, none⟩ (.int .i64 0)).setCell ⟨b, 3, none⟩ (.int .i64 0)) (fun k => w.heap.size ≤ k) X (pwcs xs)) := (((SlC.of_own (ok := fun k => w2.heap.size + 1 ≤ k) HW.out fun k hk _ => hk).setCell9 (p := ⟨b, 2, none⟩) (fun k hk => by show k ≠ b; omega) (.int .i64 0)).setCell9 (p := ⟨b, 3, none⟩) (fun k hk => by show k ≠ b; omega) (.int .i64 0)).weak fun k _ hk => by omega
       clear HC HO HW HOB HOM HON HM9
       generalize hxn : xs.length = xn at *
       have HXN := zh hxn; clear hxn
       go_wp2_with fail
       go_quiet (fail)
       go_wp2
       exact HQ.out _ _ ⟨.tuple #[.slice X xn d, .int .i64 p], (xs, p), A1, c1, l1, _, rfl, ⟨X, d, by rw [HXN.out], by rw [HXN.out]; exact HCAP.out, HSC.out.keep9 fun _ _ _ => rfl⟩, HC9.out.drewN _, HW9.out.drewN _, HE.out _ rfl⟩
     | cons y r =>
       have hd1 : decide (0 < (y :: r).length) = true := by simp
       have hd2 : (0 : Int) < ((y :: r).length : Int) := by simp only [zA8]; omega
       have HT4 := zh (Q2K HC.out 44)
       generalize hyn : (y :: r).length = yn at *
       have HYN := zh hyn; clear hyn
       clear HOB HOM HON
       go_wp2_with fail
       refine HT4.out.mono ?_
       rintro e' w4 ⟨x3, A3, c3, l3, f3, rfl, hs3, hm3, hst3, _⟩
       have HST3 := zh (Q53 hst3)
       have HC3 := zh hs3
       have HM3 := zh hm3
       have HO4 := zh (HKP.out _ _ HO.out hm3.low)
       clear hs3 hm3 hst3 i0 i2 i3 HT4
       unfold trv
       have HC4 := zh (Q6G _ _ _ _ _ _ _ HC3.out)
       go_wp2_with fail
       refine HC4.out.mono ?_
       rintro e' w5 ⟨v4, x4, A4, c4, l4, f4, rfl, rfl, hs4, hm4, hst4⟩
       have HLN := zh (HLI2.out _ _ _ _ _ _ _ _ _ HL.out HST3.out hst4)
       have HO5 := zh (HKP.out _ _ HO4.out hm4.low)
       have hMR := HM3.out.trans hm4
       have HOWN := zh (Q3Q HW.out (fun k hk e => hMR.block k hk (by have := (HW.out.lt k e).1; omega)))
       have HC5 := zh hs4
       have hbase : w2.heap.size + 1 ≤ w5.heap.size := hs4.lt
       have hfew : xs.length ≤ n + 1 := by
           have h1 := HXS.out xs _ HL.out
           omega
       have hn41 := HFEW.out
       clear hs4 hm4 hst4 hMR HC3 HM3 HO4 HC4 HC HW HO hd1 hd2
       generalize hxn : xs.length = xn at *
       have HXN := zh hxn; clear hxn
       unfold pwv
       go_wp2_with (at_builtin; refine Q25 _ rfl _ _ 26 rfl 59 (.agg #[.string ⟨#[]⟩, .int .i64 0, .string ⟨#[]⟩, .int .i64 0]) 4 48 Tryz.underlying26 Q55 rfl (by decide) (w2.heap.size + 1) X xn d (pwcs xs) rfl ?c1 w5.heap.size (Q1f x4) rfl rfl ?c2 (Q56 x4) ?c3 ?c4 ?c5 ?_)
       case c1 => exact HOWN.out.alloc _
       case c2 => intro j u hu; have h := (RowAt.new w5 59 (Q1f x4).toArray).cell j; exact h.trans (by simpa using hu)
       case c3 => simp only [maxLen]; omega
       case c4 => omega
       case c5 => simp; omega
       intro X5 d5 w6 hown5 hb5 hg5 hat5
       have hb56 : Below (w2.heap.size + 1) w5 w6 := ((zB _ w5).alloc hbase _).trans hb5
       have HO6 := zh (HKP.out _ _ HO5.out (hb56.mono (Nat.le_succ _)))
       have HC6 := zh (HC5.out.low hb56 (zS _))
       have HW6 : Hid (w6.ownsRow (w2.heap.size + 1) 59 4 (.slice X5 (xs ++ [x4]).length d5) (xs ++ [x4]).length (pwcs (xs ++ [x4]))) := by
           rw [zA7, List.length_singleton, HXN.out, Q6K, Q6L]; exact zh hown5
       have HME2 : Hid (1 ≤ gk ∧ (f4 = none → l4.length < gk - 1)) := by
           have h1 : yn < gk := by first | exact HME.out rfl | exact HME.out trivial
           have h2 := HYN.out
           simp only [zA8] at h2
           refine zh ⟨by omega, fun hf => ?_⟩
           have h3 := HLN.out.2 hf
           omega
       clear hown5 hb5 hg5 hat5 hb56 HO5 HC5 HOWN
       go_wp2
       go_roundg (gk - 1)
       case measure => have h1 := HME2.out.1; omega
       case rel => exact ⟨xs ++ [x4], X5, d5, A4, c4, l4, f4, by omega, by rw [zA7, List.length_singleton, HXN.out], HME2.out.2, HLN.out.1, HC6.out, HO6.out, HW6.out⟩
end
section
open Go.RowKit LX TR TM DT CM
namespace DT
def prsD (ks : List Tr) (e : Int) : Except Int (List Pw) := if ks = [] then .ok [] else match Q0c Q0w ks e with
 | .error p => .error p
 | .ok (xs, []) => .ok xs
 | .ok (_, y :: _) => .error y.t.p
theorem Q6H {ts : List Tr} {e : Int} (h : kindOf ts none ≠ 97) : Q0w ts e = .error (Q00 ts e) := by
 unfold Q0w
 rw [Q2e h]; rfl
theorem Q9O {x : Tr} {r : List Tr} {e : Int} (h : x.t.k = 97) (h2 : kindOf r none ≠ 60) : Q0w (x :: r) e = .error (Q00 r e) := by
 unfold Q0w
 rw [Q1p h]
 simp only [bnd]
 rw [Q1T h2]
theorem Q9P {x y : Tr} {r : List Tr} {e : Int} (h : x.t.k = 97) (h2 : y.t.k = 60) (h3 : kindOf r none ≠ 97) : Q0w (x :: y :: r) e = .error (Q00 r e) := by
 unfold Q0w
 rw [Q1p h]
 simp only [bnd]
 rw [Q0P h2]
 simp only
 rw [Q2e h3]
theorem Q9Q {x y z : Tr} {r : List Tr} {e : Int} (h : x.t.k = 97) (h2 : y.t.k = 60) (h3 : z.t.k = 97) : Q0w (x :: y :: z :: r) e = .ok (⟨⟨x.t.s, x.t.p⟩, ⟨z.t.s, z.t.p⟩⟩, r) := by
 unfold Q0w
 rw [Q1p h]
 simp only [bnd]
 rw [Q0P h2]
 simp only
 rw [Q1p h3]
theorem Q9R {x : Tr} {r : List Tr} {e : Int} (hk : x.t.k = 123) : prsR (x :: r) e = match prsD x.ks x.e with
 | .error p => .error p
 | .ok xs => .ok (xs, r) := by
 unfold prsR
 simp only [Q0f]
 rw [if_pos hk]
 unfold prsD
 cases hks : x.ks with
 | nil => rw [if_pos rfl]; rfl
 | cons a b =>
   rw [if_neg (by simp)]
   simp only [optR]
   by_cases ha : a.t.k = 124
   ·rw [if_pos ha]
    have hn : Q0w (a :: b) x.e = .error a.t.p := Q6H (show kindOf (a :: b) none ≠ 97 by show a.t.k ≠ 97; omega)
    unfold Q0c
    rw [hn]; rfl
   ·rw [if_neg ha]
    cases Q0c Q0w (a :: b) x.e with
    | error p => rfl
    | ok yr =>
      obtain ⟨y, q⟩ := yr
      cases q <;> rfl
theorem Q9S {ts : List Tr} {e : Int} (h : kindOf ts none ≠ 123) : prsR ts e = .error (Q00 ts e) := by
 cases ts with
 | nil => rfl
 | cons x r =>
   have h' : ¬ x.t.k = 123 := h
   unfold prsR
   simp only [Q0f]
   rw [if_neg h']; rfl
def HdG {α : Type} (rd : Rdr α) (l : List Tr) (e : Int) (acc : List α) (a : Nat) : Prop := (acc = [] ∧ a = 0) ∨ ∃ i2 : Nat, LSt rd l 0 e none acc (i2 : Int) none ∧ kindOf (rest l (i2 : Int)) none = 44 ∧ a = i2 + 1 ∧ i2 < l.length
section
variable {α : Type} {rd : Rdr α} {l : List Tr} {e : Int} {acc : List α} {a : Nat} {x : α} {i3 : Int}
theorem HdG.more (h : HdG rd l e acc a) (h2 : Step rd l (a : Int) e none x i3 none) : LSt rd l 0 e none (acc ++ [x]) i3 none := by
 rcases h with ⟨rfl, rfl⟩ | ⟨i2, hL, hk, rfl, h1⟩
 ·exact LSt.start h2
 ·have hr := Q1E (l := l) (i := (i2 : Int)) (by omega) (by omega)
  have h9 : (l.getD i2 r0).t.k = 44 := by rw [hr, Int.toNat_natCast] at hk; exact hk
  have ht : Step (Q0d 44) l (i2 : Int) e none (l.getD i2 r0).t ((i2 : Int) + 1) none := Step.ok ⟨1, rfl, by rw [hr]; simp⟩ (by rw [hr, Int.toNat_natCast]; exact Q0P h9)
  exact (hL.next hk ht (by rw [show ((i2 : Int) + 1) = ((i2 + 1 : Nat) : Int) by omega]; exact h2)).1
theorem HdG.le (h : HdG rd l e acc a) : a ≤ l.length ∧ acc.length ≤ a := by
 rcases h with ⟨rfl, rfl⟩ | ⟨i2, hL, hk, rfl, h1⟩
 ·exact ⟨by omega, by simp⟩
 ·refine ⟨by omega, ?_⟩
  rcases hL.few with h | h
  ·omega
  ·exact absurd rfl h
theorem HdG.fault {p : Int} (x : α) (h : HdG rd l e acc a) (h2 : rd (rest l (a : Int)) e = .error p) : Q0c rd l e = .error p := by
 have h3 : LSt rd l 0 e none (acc ++ [x]) (a : Int) (some p) := by
  rcases h with ⟨rfl, rfl⟩ | ⟨i2, hL, hk, rfl, h1⟩
  ·exact LSt.start (Step.fault (x := x) (Adv.refl _ _) h2)
  ·have hr := Q1E (l := l) (i := (i2 : Int)) (by omega) (by omega)
   have h9 : (l.getD i2 r0).t.k = 44 := by rw [hr, Int.toNat_natCast] at hk; exact hk
   have ht : Step (Q0d 44) l (i2 : Int) e none (l.getD i2 r0).t ((i2 : Int) + 1) none := Step.ok ⟨1, rfl, by rw [hr]; simp⟩ (by rw [hr, Int.toNat_natCast]; exact Q0P h9)
   have h4 := (hL.next hk ht (Step.fault (x := x) (Adv.refl _ _) (by rw [show ((i2 : Int) + 1) = ((i2 + 1 : Nat) : Int) by omega]; exact h2))).1
   rwa [show ((i2 : Int) + 1) = ((i2 + 1 : Nat) : Int) by omega] at h4
 rcases h3.good rfl with ⟨q, h4, h5⟩ | ⟨h4, _⟩
 ·obtain rfl := Option.some.inj h4
  rwa [Q1j] at h5
 ·cases h4
end
end DT
end
section
open Go.RowKit LX TR TM DT CM
namespace DT
def Gp (s : Nat) (ks : List Tr) (e : Int) (out : Value) (bad : Int) (w : World) : Prop := match prsD ks e with
 | .error p => bad = p ∧ out = .slice none 0 0
 | .ok ps => bad = -1 ∧ ∃ X d, out = .slice X ps.length d ∧ ps.length ≤ d ∧ SlC w (fun k => s ≤ k) X (pwcs ps)
theorem Q40 (a b c : Value) : (Tryz.prog.info? 53).map (·.size) = some (#[a, b, c] : Array Value).size := by kernel_rfl
theorem Q2M {l : List Tr} {i k : Nat} (hk : kindOf (l.drop i) none = k) (h : 0 < k) : i < l.length ∧ l.drop i = l.getD i r0 :: l.drop (i + 1) ∧ (l.getD i r0).t.k = k := by
 by_cases h1 : i < l.length
 ·refine ⟨h1, TR.Q22 h1, ?_⟩
  rw [TR.Q22 h1] at hk
  exact hk
 ·rw [List.drop_eq_nil_of_le (by omega)] at hk
  exact absurd hk.symm (by show ¬ k = 0; omega)
theorem Q41 {ks : List Tr} {i k : Nat} (hk : 0 < k) (h : kindOf (ks.drop i) none ≠ k) : ¬ i < ks.length ∨ (i < ks.length ∧ (ks.getD i r0).t.k ≠ k) := by
 by_cases h1 : i < ks.length
 ·refine .inr ⟨h1, ?_⟩
  rw [TR.Q22 h1] at h
  exact h
 ·exact .inl h1
end DT
theorem Q9T (x : Tr) (w : World) (hT : Trs w w.heap.size x.A x.ks) (hF : x.ks.length ≤ 1048576) :
 Calls Tryz.prog 75 #[.agg (trv x)] w fun e' w' => ∃ out bad, e' = .returned (.tuple #[out, .int .i64 bad]) ∧ Gp (w.heap.size + 1) x.ks x.e out bad w' ∧ Below w.heap.size w w' := by
 obtain ⟨⟨yq, ys, yp⟩, YA, yc, ks, ye⟩ := x
 simp only [Tr.A, Tr.ks, Tr.e] at hT hF ⊢
 have HTT := zh hT
 have HTR : Hid (trv (.mk ⟨yq, ys, yp⟩ YA yc ks ye) = #[.int .u8 (yq : Int), .string ys, .int .i64 yp, .slice YA ks.length yc, .int .i64 ye]) := rfl
 rw [HTR.out]
 have HG0 := zh (RowAt.new w 55 #[.int .u8 (yq : Int), .string ys, .int .i64 yp, .slice YA ks.length yc, .int .i64 ye])
 have HB0 : Hid (Below w.heap.size w (w.alloc (.cells #[.int .u8 (yq : Int), .string ys, .int .i64 yp, .slice YA ks.length yc, .int .i64 ye] 55))) := zh ((zB _ _).alloc (zL _) _)
 have HPLC : Hid (∀ W, Below w.heap.size w W → ∀ i : Nat, Calls Tryz.prog 73 #[.slice YA ks.length yc, .int .i64 (i : Int), .int .i64 ye] W fun e' w' => e' = .returned (.int .i64 (Q00 (ks.drop i) ye)) ∧ w' = W) := zh fun W hW i => Q4c YA yc ks i ye W ((HTT.out.below hW).mono hW.size)
 clear HTR hT
 refine Q0e fun Q' hQ => ?_
 have HQ := zh hQ; clear hQ
 generalize hn : ks.length = n at *
 have HN := zh hn; clear hn
 go_enter Tryz.func75, Tryz.ntmps75
 go_upto_region 1 with fail
 generalize w.alloc (.cells #[.int .u8 (yq : Int), .string ys, .int .i64 yp, .slice YA n yc, .int .i64 ye] 55) = wA at *
 go_wp2_with fail
 go_loopw [4, 5, 6, 7, 8, 9] (fun ov av _ _ _ _ wr => ∃ (acc : List Pw) (X : Option Addr) (d a : Nat), ov = .slice X acc.length d ∧ av = .int .i64 (a : Int) ∧ Hid (HdG Q0w ks ye acc a) ∧ Hid (wr.ownsRow (w.heap.size + 1) 59 4 (.slice X acc.length d) acc.length (pwcs acc)) ∧ Hid (RowAt wr w.heap.size 55 #[.int .u8 (yq : Int), .string ys, .int .i64 yp, .slice YA n yc, .int .i64 ye]) ∧ Hid (Below w.heap.size w wr)) (fun _ av _ _ _ _ _ => n + 1 - (intOf av).toNat)
 case atStart => exact ⟨[], none, 0, 0, rfl, rfl, .inl ⟨rfl, rfl⟩, World.ownsRow_nil _ _ _ _, HG0.out, HB0.out⟩
 case round =>
  obtain ⟨acc, X, d, a, rfl, rfl, HH, HO0, HGr, HBr⟩ := hrel
  clear HG0 HB0
  have HG0 := HGr
  have HB0 := HBr
  clear HGr HBr
  obtain ⟨ha1, ha2⟩ := HH.out.le
  rw [HN.out] at ha1
  obtain ⟨r0', r1', r2', r3', r4', _, _, _, _, _⟩ := row5 HG0.out
  by_cases hz : n = 0
  ·have HPE : Hid (Gp (w.heap.size + 1) ks ye (.slice none 0 0) (-1) wr) := by
        have hk : ks = [] := List.eq_nil_of_length_eq_zero (by rw [HN.out]; exact hz)
        unfold Gp prsD
        rw [if_pos hk]
        exact zh ⟨rfl, none, 0, rfl, zL _, SlC.nil _ _ _⟩
   obtain rfl : a = 0 := by omega
   have e0 : decide ((0 : Nat) < n) = false := zF (by omega)
   have e00 : decide (0 < n) = false := zF (by omega)
   go_wp2_with fail
   exact HQ.out _ _ ⟨.slice none 0 0, -1, rfl, HPE.out, HB0.out⟩
  ·have hne : ks ≠ [] := fun h => hz (by rw [← HN.out, h]; rfl)
   have hpd : ∀ p, Q0w (ks.drop a) ye = .error p → prsD ks ye = .error p := fun p hp => by
        have h1 := HH.out.fault ⟨w0, w0⟩ (p := p) (by unfold rest; rw [if_neg (by omega), Int.toNat_natCast]; exact hp)
        unfold prsD
        rw [if_neg hne, h1]
   have htest : decide (a < n) = true ∨ (decide (a < n) = false ∧ decide (0 < a) = true) := by
        by_cases h : a < n
        ·exact .inl (zE h)
        ·exact .inr ⟨zF h, zE (by omega)⟩
   obtain ⟨bb, o, rfl, hbb, hc⟩ := HTT.out.at (k := 0) (by rw [HN.out]; omega)
   have HC : Hid (∀ i, i < n → ∀ W, Below w.heap.size w W → W.cell? ⟨bb, o + i * 5, none⟩ = some (.int .u8 ((ks.getD i r0).t.k : Int))) := zh fun i hi W hW => (hW.cell (p := ⟨bb, o + i * 5, none⟩) hbb).trans (hc i (by rw [HN.out]; exact hi)).1
   by_cases hk0 : kindOf (ks.drop a) none = 97
   ·obtain ⟨hi0, hd0, hx0⟩ := Q2M hk0 (by omega)
    rw [HN.out] at hi0
    have e_ : decide (a < n) = true := zE hi0
    have HKC0 : Hid (∀ W, Below w.heap.size w W → W.cell? ⟨bb, o + a * 5, none⟩ = some (.int .u8 97)) := zh fun W hW => by have h := HC.out a hi0 W hW; rw [hx0] at h; exact h
    clear htest
    by_cases hk1 : kindOf (ks.drop (a + 1)) none = 60
    ·obtain ⟨hi1, hd1, hx1⟩ := Q2M hk1 (by omega)
     rw [HN.out] at hi1
     have HKC1 : Hid (∀ W, Below w.heap.size w W → W.cell? ⟨bb, o + (a + 1) * 5, none⟩ = some (.int .u8 60)) := zh fun W hW => by have h := HC.out (a + 1) hi1 W hW; rw [hx1] at h; exact h
     by_cases hk2 : kindOf (ks.drop (a + 2)) none = 97
     ·obtain ⟨hi2, hd2, hx2⟩ := Q2M hk2 (by omega)
      rw [HN.out] at hi2
      have HKC2 : Hid (∀ W, Below w.heap.size w W → W.cell? ⟨bb, o + (a + 2) * 5, none⟩ = some (.int .u8 97)) := zh fun W hW => by have h := HC.out (a + 2) hi2 W hW; rw [hx2] at h; exact h
      obtain ⟨_, c1, c2, _, _⟩ := hc a (by rw [HN.out]; omega)
      obtain ⟨_, c3, c4, _, _⟩ := hc (a + 2) (by rw [HN.out]; omega)
      have HC1 : Hid (∀ W, Below w.heap.size w W → W.cell? ⟨bb, o + a * 5 + 1, none⟩ = _ ∧ W.cell? ⟨bb, o + a * 5 + 2, none⟩ = _ ∧ W.cell? ⟨bb, o + (a + 2) * 5 + 1, none⟩ = _ ∧ W.cell? ⟨bb, o + (a + 2) * 5 + 2, none⟩ = _) := zh fun W hW => ⟨(hW.cell (p := ⟨bb, o + a * 5 + 1, none⟩) hbb).trans c1, (hW.cell (p := ⟨bb, o + a * 5 + 2, none⟩) hbb).trans c2, (hW.cell (p := ⟨bb, o + (a + 2) * 5 + 1, none⟩) hbb).trans c3, (hW.cell (p := ⟨bb, o + (a + 2) * 5 + 2, none⟩) hbb).trans c4⟩
      have hst : Step Q0w ks (a : Int) ye none ⟨⟨(ks.getD a r0).t.s, (ks.getD a r0).t.p⟩, ⟨(ks.getD (a + 2) r0).t.s, (ks.getD (a + 2) r0).t.p⟩⟩ (((a + 3 : Nat)) : Int) none := by
       have hr : ∀ i : Nat, rest ks (i : Int) = ks.drop i := fun i => by unfold rest; rw [if_neg (by omega), Int.toNat_natCast]
       refine Step.ok ⟨3, by omega, ?_⟩ ?_
       ·rw [hr, hd0, hd1, hd2]; simp
       ·rw [hr, hr, hd0, hd1, hd2]; exact Q9Q hx0 hx1 hx2
      have HLS := zh (HH.out.more hst)
      have HC4 := HC
      clear hd0 hd1 hd2 hx0 hx1 hx2 hk0 hk1 hk2 hpd HH hc c1 c2 c3 c4 hst HC
      generalize (ks.getD a r0).t.s = xs at *
      generalize (ks.getD a r0).t.p = xp at *
      generalize (ks.getD (a + 2) r0).t.s = zs at *
      generalize (ks.getD (a + 2) r0).t.p = zp at *
      go_wp2_with fail
      generalize wr = w0 at *
      refine wp_loop_rounds 4 ?_
      rw [rounds_succ]
      go_upto_region 8 with fail
      have hb0 : Below w0.heap.size w0 (w0.alloc (.cells #[.int .u8 97, .int .u8 60, .int .u8 97] 5)) := (zB _ _).alloc (zL _) _
      have HG1 := zh (HG0.out.below hb0 HG0.out.lt)
      have HB1 := zh (HB0.out.trans (hb0.mono HB0.out.size))
      have HO1 := zh (own_below HO0.out hb0 (zL _))
      have HK0 := zh (RowAt.new w0 5 #[.int .u8 97, .int .u8 60, .int .u8 97])
      clear hb0
      generalize w0.alloc (.cells #[.int .u8 97, .int .u8 60, .int .u8 97] 5) = w1 at *
      have q0 : w1.cell? ⟨w0.heap.size, 0, none⟩ = some (.int .u8 97) := (HK0.out.cell 0).trans rfl
      obtain ⟨r0', r1', r2', r3', r4', _, _, _, _, _⟩ := row5 HG1.out
      have e0 : decide (n ≤ a) = false := zF (by omega)
      have z0 := HKC0.out w1 HB1.out
      have i0 : (a : Int) < (n : Int) := by omega
      go_quiet (fail)
      have hbn : Below w1.heap.size w1 (w1.drewN nq) := Q0D (zB _ _) nq
      have HGn := zh (HG1.out.below hbn HG1.out.lt)
      have HBn := zh (HB1.out.trans (hbn.mono HB1.out.size))
      have HOn := zh (own_below HO1.out hbn (zL _))
      clear HG1 HB1 HO1 hbn q0 e0 z0 i0 HK0 r0' r1' r2' r3' r4'
      have HG1 := HGn
      have HB1 := HBn
      have HO1 := HOn
      clear HGn HBn HOn
      generalize w1.drewN nq = w1 at *
      go_wp2_with fail
      rw [rounds_succ]
      go_upto_region 8 with fail
      have hb1 : Below w1.heap.size w1 (w1.alloc (.cells #[.int .u8 97, .int .u8 60, .int .u8 97] 5)) := (zB _ _).alloc (zL _) _
      have HG2 := zh (HG1.out.below hb1 HG1.out.lt)
      have HB2 := zh (HB1.out.trans (hb1.mono HB1.out.size))
      have HO2 := zh (own_below HO1.out hb1 (zL _))
      have HK1 := zh (RowAt.new w1 5 #[.int .u8 97, .int .u8 60, .int .u8 97])
      clear hb1
      generalize w1.alloc (.cells #[.int .u8 97, .int .u8 60, .int .u8 97] 5) = w2 at *
      have q1 : w2.cell? ⟨w1.heap.size, 1, none⟩ = some (.int .u8 60) := (HK1.out.cell 1).trans rfl
      obtain ⟨r0', r1', r2', r3', r4', _, _, _, _, _⟩ := row5 HG2.out
      have e1 : decide ((n : Int) ≤ (a : Int) + 1) = false := zF (by omega)
      have z1 := HKC1.out w2 HB2.out
      have i1 : ((a : Int) + 1) < (n : Int) := by omega
      go_quiet (fail)
      have hbn : Below w2.heap.size w2 (w2.drewN nq) := Q0D (zB _ _) nq
      have HGn := zh (HG2.out.below hbn HG2.out.lt)
      have HBn := zh (HB2.out.trans (hbn.mono HB2.out.size))
      have HOn := zh (own_below HO2.out hbn (zL _))
      clear HG2 HB2 HO2 hbn q1 e1 z1 i1 HK1 r0' r1' r2' r3' r4'
      have HG2 := HGn
      have HB2 := HBn
      have HO2 := HOn
      clear HGn HBn HOn
      generalize w2.drewN nq = w2 at *
      go_wp2_with fail
      rw [rounds_succ]
      go_upto_region 8 with fail
      have hb2 : Below w2.heap.size w2 (w2.alloc (.cells #[.int .u8 97, .int .u8 60, .int .u8 97] 5)) := (zB _ _).alloc (zL _) _
      have HG3 := zh (HG2.out.below hb2 HG2.out.lt)
      have HB3 := zh (HB2.out.trans (hb2.mono HB2.out.size))
      have HO3 := zh (own_below HO2.out hb2 (zL _))
      have HK2 := zh (RowAt.new w2 5 #[.int .u8 97, .int .u8 60, .int .u8 97])
      clear hb2
      generalize w2.alloc (.cells #[.int .u8 97, .int .u8 60, .int .u8 97] 5) = w3 at *
      have q2 : w3.cell? ⟨w2.heap.size, 2, none⟩ = some (.int .u8 97) := (HK2.out.cell 2).trans rfl
      obtain ⟨r0', r1', r2', r3', r4', _, _, _, _, _⟩ := row5 HG3.out
      have e2 : decide ((n : Int) ≤ (a : Int) + 2) = false := zF (by omega)
      have z2 := HKC2.out w3 HB3.out
      have i2 : ((a : Int) + 2) < (n : Int) := by omega
      go_quiet (fail)
      have hbn : Below w3.heap.size w3 (w3.drewN nq) := Q0D (zB _ _) nq
      have HGn := zh (HG3.out.below hbn HG3.out.lt)
      have HBn := zh (HB3.out.trans (hbn.mono HB3.out.size))
      have HOn := zh (own_below HO3.out hbn (zL _))
      clear HG3 HB3 HO3 hbn q2 e2 z2 i2 HK2 r0' r1' r2' r3' r4'
      have HG3 := HGn
      have HB3 := HBn
      have HO3 := HOn
      clear HGn HBn HOn
      generalize w3.drewN nq = w3 at *
      go_wp2_with fail
      rw [rounds_succ]
      go_upto_region 10 with fail
      have h3 : w.heap.size < w3.heap.size := HG3.out.lt
      have hz : w.heap.size ≤ w3.heap.size := Nat.le_of_lt h3
      go_cut [8, 9] from 55 to 67 (fun p8 p9 wx => ∃ gA gB : Nat, p8 = .pointer (some ⟨gA, 0, none⟩) ∧ p9 = .pointer (some ⟨gB, 0, none⟩) ∧ Hid (RowAt wx gA 53 #[.int .u8 97, .string xs, .int .i64 xp]) ∧ Hid (RowAt wx gB 53 #[.int .u8 97, .string zs, .int .i64 zp]) ∧ Hid (Below w3.heap.size w3 wx))
      case first =>
       have hbw : ∀ W, Below w3.heap.size w3 W → Below w.heap.size w W := fun W h => HB3.out.trans (h.mono hz)
       have HBW := zh hbw; clear hbw
       have C0 : ∀ W, Below w3.heap.size w3 W → W.cell? ⟨bb, o + a * 5, none⟩ = some (.int .u8 97) := fun W h => HKC0.out W (HBW.out W h)
       have C1 : ∀ W, Below w3.heap.size w3 W → W.cell? ⟨bb, o + a * 5 + 1, none⟩ = some (.string xs) := fun W h => (HC1.out W (HBW.out W h)).1
       have C2 : ∀ W, Below w3.heap.size w3 W → W.cell? ⟨bb, o + a * 5 + 2, none⟩ = some (.int .i64 xp) := fun W h => (HC1.out W (HBW.out W h)).2.1
       have C3 : ∀ W, Below w3.heap.size w3 W → W.cell? ⟨bb, o + (a + 2) * 5, none⟩ = some (.int .u8 97) := fun W h => HKC2.out W (HBW.out W h)
       have C4 : ∀ W, Below w3.heap.size w3 W → W.cell? ⟨bb, o + (a + 2) * 5 + 1, none⟩ = some (.string zs) := fun W h => (HC1.out W (HBW.out W h)).2.2.1
       have C5 : ∀ W, Below w3.heap.size w3 W → W.cell? ⟨bb, o + (a + 2) * 5 + 2, none⟩ = some (.int .i64 zp) := fun W h => (HC1.out W (HBW.out W h)).2.2.2
       have C6 : ∀ W, Below w3.heap.size w3 W → W.cell? ⟨w.heap.size, 3, none⟩ = some (.slice (some ⟨bb, o, none⟩) n yc) := fun W h => (h.cell (p := ⟨w.heap.size, 3, none⟩) h3).trans ((RowAt.cell HG3.out 3).trans rfl)
       have hw2 : IntKind.i64.wrap ((a : Int) + 2) = (a : Int) + 2 := IntWalk.i64_in _ ⟨by omega, by omega⟩
       have i2 : (a : Int) + 2 < (n : Int) := by omega
       have p2 : (0 : Int) ≤ (a : Int) + 2 := by omega
       have t2 : ((a : Int) + 2).toNat = a + 2 := by omega
       have i0 : (a : Int) < (n : Int) := by omega
       have HSv0 : Hid (Below w3.heap.size w3 w3.drew) := (zB _ _).drew
       refine Q0y (fun W => Below w3.heap.size w3 W) ((.take 0 (.take 1 (.take 2 (.take 3 (.take 4 (.take 5 (.take 6 (.take 7 (.take 8 (.take 9 (.take 10 (.take 11 (.take 12 (.two 13 (.solo 14 (.solo 15 (.solo 16 .nil))) 14 (.solo 13 (.solo 15 (.solo 16 .nil)))))))))))))))))) (by kernel_rfl) (by kernel_rfl) rfl (by kernel_rfl) HSv0.out ?_
       generalize w3.drew = v0 at *
       iterate 13
            (refine Q07 (zO rfl) ?_)
            (first
              | (refine Q08 (by rfl) ?_)
              | (refine Q03 (v := ?_) (by rfl) ?_ ?_; rotate_left 1; (intro wx hSx; have hc_0 := C0 wx hSx; have hc_1 := C1 wx hSx; have hc_2 := C2 wx hSx; have hc_3 := C3 wx hSx; have hc_4 := C4 wx hSx; have hc_5 := C5 wx hSx; have hc_6 := C6 wx hSx; go_simp; try with_reducible rfl)))
            (try simp only [Act.put, zA4, zA5, zA6])
       refine Q2c ?_ ?_
       ·(refine Q02 (zO rfl) ?_)
        intro K hK
        go_simp
        have hb : Below v0.heap.size v0 (v0.alloc (.cells #[.int .u8 0, .string ⟨#[]⟩, .int .i64 0] 53)) := (zB _ _).alloc (zL _) _
        have HSv1 := zh (HSv0.out.trans (hb.mono HSv0.out.size))
        have HgAv1 := zh (RowAt.new v0 53 #[.int .u8 0, .string ⟨#[]⟩, .int .i64 0])
        have HZgA := zh HSv0.out.size
        clear hb
        refine hK.out _ _ HSv1.out ?_
        clear hK K
        (try simp only [Act.put, zA4, zA5, zA6])
        change wpOT _ _ _ _ _ _ (v0.alloc (.cells #[.int .u8 0, .string ⟨#[]⟩, .int .i64 0] 53))
        generalize hgb : v0.heap.size = gA at *
        generalize (v0.alloc (.cells #[.int .u8 0, .string ⟨#[]⟩, .int .i64 0] 53)) = v1 at *
        clear hgb
        (refine Q02 (zO rfl) ?_)
        intro K hK
        go_simp
        have hb : Below v1.heap.size v1 (v1.alloc (.cells #[.int .u8 0, .string ⟨#[]⟩, .int .i64 0] 53)) := (zB _ _).alloc (zL _) _
        have HSv2 := zh (HSv1.out.trans (hb.mono HSv1.out.size))
        have HgBv2 := zh (RowAt.new v1 53 #[.int .u8 0, .string ⟨#[]⟩, .int .i64 0])
        have HZgB := zh HSv1.out.size
        have HgAv2 := zh (HgAv1.out.below hb HgAv1.out.lt)
        have HNE : Hid (gA < v1.heap.size) := zh HgAv1.out.lt
        clear hb
        refine hK.out _ _ HSv2.out ?_
        clear hK K
        (try simp only [Act.put, zA4, zA5, zA6])
        change wpOT _ _ _ _ _ _ (v1.alloc (.cells #[.int .u8 0, .string ⟨#[]⟩, .int .i64 0] 53))
        generalize hgb : v1.heap.size = gB at *
        generalize (v1.alloc (.cells #[.int .u8 0, .string ⟨#[]⟩, .int .i64 0] 53)) = v2 at *
        clear hgb
        (refine Q02 (zO rfl) ?_)
        intro K hK
        rw [if_pos (by rfl)]
        refine wp_store_row _ _ _ rfl gA #[.int .u8 97, .string xs, .int .i64 xp] rfl rfl _ _ HgAv2.out (Q40 _ _ _) rfl (by simp [Value.oneCell']) ?_
        have hzz := HZgA.out
        have hne : gA ≠ gB := by have := HNE.out; omega
        have HSv3 := zh (HSv2.out.trans (below_setRow hzz #[.int .u8 97, .string xs, .int .i64 xp]))
        have HgAv3 := zh (HgAv2.out.setRow #[.int .u8 97, .string xs, .int .i64 xp])
        have HgBv3 : Hid (RowAt (v2.setRow gA #[.int .u8 97, .string xs, .int .i64 xp]) gB 53 #[.int .u8 0, .string ⟨#[]⟩, .int .i64 0]) := zh ((setRow_other v2 gA gB _ (Ne.symm hne)).trans HgBv2.out)
        refine hK.out _ _ HSv3.out ?_
        clear hK K hzz hne
        (try simp only [Act.put, zA4, zA5, zA6])
        generalize (v2.setRow gA #[.int .u8 97, .string xs, .int .i64 xp]) = v3 at *
        (refine Q02 (zO rfl) ?_)
        intro K hK
        rw [if_pos (by rfl)]
        refine wp_store_row _ _ _ rfl gB #[.int .u8 97, .string zs, .int .i64 zp] rfl rfl _ _ HgBv3.out (Q40 _ _ _) rfl (by simp [Value.oneCell']) ?_
        have hzz := HZgB.out
        have hne : gB ≠ gA := by have := HNE.out; omega
        have HSv4 := zh (HSv3.out.trans (below_setRow hzz #[.int .u8 97, .string zs, .int .i64 zp]))
        have HgBv4 := zh (HgBv3.out.setRow #[.int .u8 97, .string zs, .int .i64 zp])
        have HgAv4 : Hid (RowAt (v3.setRow gB #[.int .u8 97, .string zs, .int .i64 zp]) gA 53 #[.int .u8 97, .string xs, .int .i64 xp]) := zh ((setRow_other v3 gB gA _ (Ne.symm hne)).trans HgAv3.out)
        refine hK.out _ _ HSv4.out ?_
        clear hK K hzz hne
        (try simp only [Act.put, zA4, zA5, zA6])
        generalize (v3.setRow gB #[.int .u8 97, .string zs, .int .i64 zp]) = v4 at *
        refine Q0s ?_
        go_wp2
        go_meet
        case rel => exact ⟨gA, gB, rfl, rfl, HgAv4.out, HgBv4.out, HSv4.out⟩
       ·(refine Q02 (zO rfl) ?_)
        intro K hK
        go_simp
        have hb : Below v0.heap.size v0 (v0.alloc (.cells #[.int .u8 0, .string ⟨#[]⟩, .int .i64 0] 53)) := (zB _ _).alloc (zL _) _
        have HSv1 := zh (HSv0.out.trans (hb.mono HSv0.out.size))
        have HgBv1 := zh (RowAt.new v0 53 #[.int .u8 0, .string ⟨#[]⟩, .int .i64 0])
        have HZgB := zh HSv0.out.size
        clear hb
        refine hK.out _ _ HSv1.out ?_
        clear hK K
        (try simp only [Act.put, zA4, zA5, zA6])
        change wpOT _ _ _ _ _ _ (v0.alloc (.cells #[.int .u8 0, .string ⟨#[]⟩, .int .i64 0] 53))
        generalize hgb : v0.heap.size = gB at *
        generalize (v0.alloc (.cells #[.int .u8 0, .string ⟨#[]⟩, .int .i64 0] 53)) = v1 at *
        clear hgb
        (refine Q02 (zO rfl) ?_)
        intro K hK
        go_simp
        have hb : Below v1.heap.size v1 (v1.alloc (.cells #[.int .u8 0, .string ⟨#[]⟩, .int .i64 0] 53)) := (zB _ _).alloc (zL _) _
        have HSv2 := zh (HSv1.out.trans (hb.mono HSv1.out.size))
        have HgAv2 := zh (RowAt.new v1 53 #[.int .u8 0, .string ⟨#[]⟩, .int .i64 0])
        have HZgA := zh HSv1.out.size
        have HgBv2 := zh (HgBv1.out.below hb HgBv1.out.lt)
        have HNE : Hid (gB < v1.heap.size) := zh HgBv1.out.lt
        clear hb
        refine hK.out _ _ HSv2.out ?_
        clear hK K
        (try simp only [Act.put, zA4, zA5, zA6])
        change wpOT _ _ _ _ _ _ (v1.alloc (.cells #[.int .u8 0, .string ⟨#[]⟩, .int .i64 0] 53))
        generalize hgb : v1.heap.size = gA at *
        generalize (v1.alloc (.cells #[.int .u8 0, .string ⟨#[]⟩, .int .i64 0] 53)) = v2 at *
        clear hgb
        (refine Q02 (zO rfl) ?_)
        intro K hK
        rw [if_pos (by rfl)]
        refine wp_store_row _ _ _ rfl gA #[.int .u8 97, .string xs, .int .i64 xp] rfl rfl _ _ HgAv2.out (Q40 _ _ _) rfl (by simp [Value.oneCell']) ?_
        have hzz := HZgA.out
        have hne : gA ≠ gB := by have := HNE.out; omega
        have HSv3 := zh (HSv2.out.trans (below_setRow hzz #[.int .u8 97, .string xs, .int .i64 xp]))
        have HgAv3 := zh (HgAv2.out.setRow #[.int .u8 97, .string xs, .int .i64 xp])
        have HgBv3 : Hid (RowAt (v2.setRow gA #[.int .u8 97, .string xs, .int .i64 xp]) gB 53 #[.int .u8 0, .string ⟨#[]⟩, .int .i64 0]) := zh ((setRow_other v2 gA gB _ (Ne.symm hne)).trans HgBv2.out)
        refine hK.out _ _ HSv3.out ?_
        clear hK K hzz hne
        (try simp only [Act.put, zA4, zA5, zA6])
        generalize (v2.setRow gA #[.int .u8 97, .string xs, .int .i64 xp]) = v3 at *
        (refine Q02 (zO rfl) ?_)
        intro K hK
        rw [if_pos (by rfl)]
        refine wp_store_row _ _ _ rfl gB #[.int .u8 97, .string zs, .int .i64 zp] rfl rfl _ _ HgBv3.out (Q40 _ _ _) rfl (by simp [Value.oneCell']) ?_
        have hzz := HZgB.out
        have hne : gB ≠ gA := by have := HNE.out; omega
        have HSv4 := zh (HSv3.out.trans (below_setRow hzz #[.int .u8 97, .string zs, .int .i64 zp]))
        have HgBv4 := zh (HgBv3.out.setRow #[.int .u8 97, .string zs, .int .i64 zp])
        have HgAv4 : Hid (RowAt (v3.setRow gB #[.int .u8 97, .string zs, .int .i64 zp]) gA 53 #[.int .u8 97, .string xs, .int .i64 xp]) := zh ((setRow_other v3 gB gA _ (Ne.symm hne)).trans HgAv3.out)
        refine hK.out _ _ HSv4.out ?_
        clear hK K hzz hne
        (try simp only [Act.put, zA4, zA5, zA6])
        generalize (v3.setRow gB #[.int .u8 97, .string zs, .int .i64 zp]) = v4 at *
        refine Q0s ?_
        go_wp2
        go_meet
        case rel => exact ⟨gA, gB, rfl, rfl, HgAv4.out, HgBv4.out, HSv4.out⟩
      case rest =>
       obtain ⟨gA, gB, rfl, rfl, HA5, HB5, HS5⟩ := hcut
       have hzc : w3.heap.size ≤ wc.heap.size := HS5.out.size
       have HGc := zh (HG3.out.below HS5.out h3)
       have HBc := zh (HB3.out.trans (HS5.out.mono hz))
       have HOc := zh (own_below HO3.out HS5.out (zL _))
       obtain ⟨a0, a1, a2, _⟩ : wc.cell? ⟨gA, 0, none⟩ = some (.int .u8 97) ∧ wc.cell? ⟨gA, 1, none⟩ = some (.string xs) ∧ wc.cell? ⟨gA, 2, none⟩ = some (.int .i64 xp) ∧ True := ⟨(HA5.out.cell 0).trans rfl, (HA5.out.cell 1).trans rfl, (HA5.out.cell 2).trans rfl, trivial⟩
       obtain ⟨b0, b1, b2, _⟩ : wc.cell? ⟨gB, 0, none⟩ = some (.int .u8 97) ∧ wc.cell? ⟨gB, 1, none⟩ = some (.string zs) ∧ wc.cell? ⟨gB, 2, none⟩ = some (.int .i64 zp) ∧ True := ⟨(HB5.out.cell 0).trans rfl, (HB5.out.cell 1).trans rfl, (HB5.out.cell 2).trans rfl, trivial⟩
       generalize hm : acc.length = m at *
       have HM := zh hm; clear hm
       have hms : m ≤ 1048576 := by omega
       have hbase : w.heap.size + 1 ≤ (wc.alloc (.cells (Q1f (Pw.mk ⟨xs, xp⟩ ⟨zs, zp⟩)).toArray 59)).heap.size := by simp; omega
       clear HG3 HB3 HO3 HS5 HA5 HB5
       go_wp2_with (at_builtin; refine Q25 _ rfl _ _ 26 rfl 59 (.agg #[.string ⟨#[]⟩, .int .i64 0, .string ⟨#[]⟩, .int .i64 0]) 4 48 Tryz.underlying26 Q55 rfl (by decide) (w.heap.size + 1) X m d (pwcs acc) rfl ?c1 wc.heap.size (Q1f (Pw.mk ⟨xs, xp⟩ ⟨zs, zp⟩)) rfl rfl ?c2 (Q56 _) ?c3 ?c4 ?c5 ?_)
       case c1 => exact own_below HOc.out ((zB _ _).alloc (zL _) _) (zL _)
       case c2 => intro j u hu; have h := (RowAt.new wc 59 (Q1f (Pw.mk ⟨xs, xp⟩ ⟨zs, zp⟩)).toArray).cell j; exact h.trans (by simpa using hu)
       case c3 => simp only [maxLen]; omega
       case c4 => omega
       case c5 => exact hbase
       intro X6 d6 w6 hown6 hb6 hg6 hat6
       have hb56 : Below (w.heap.size + 1) wc w6 := ((zB _ wc).alloc (by omega) _).trans hb6
       have HG6 := zh (HGc.out.below hb56 (zS _))
       have HB6 := zh (HBc.out.trans (hb56.mono (Nat.le_succ _)))
       have HO6 : Hid (w6.ownsRow (w.heap.size + 1) 59 4 (.slice X6 (acc ++ [(Pw.mk ⟨xs, xp⟩ ⟨zs, zp⟩)]).length d6) (acc ++ [(Pw.mk ⟨xs, xp⟩ ⟨zs, zp⟩)]).length (pwcs (acc ++ [(Pw.mk ⟨xs, xp⟩ ⟨zs, zp⟩)]))) := by
            rw [zA7, List.length_singleton, HM.out, Q6K, Q6L]; exact zh hown6
       clear hown6 hb6 hg6 hat6 hb56 HGc HBc HOc a0 a1 a2 b0 b1 b2 hbase
       obtain ⟨r0', r1', r2', r3', r4', _, _, _, _, _⟩ := row5 HG6.out
       have hrs : rest ks ((a + 3 : Nat) : Int) = ks.drop (a + 3) := by unfold rest; rw [if_neg (by omega), Int.toNat_natCast]
       by_cases hend : a + 3 = n
       ·have e13 : (((a : Int) + 3) == (n : Int)) = true := by rw [beq_iff_eq]; omega
        have HPE : Hid (prsD ks ye = .ok (acc ++ [(Pw.mk ⟨xs, xp⟩ ⟨zs, zp⟩)])) := by
             have hnil : ks.drop (a + 3) = [] := List.drop_eq_nil_of_le (by rw [HN.out]; omega)
             have h1 := (HLS.out.stop (by rw [hrs, hnil]; show (0 : Nat) ≠ 44; omega)).cases
             rw [Q1j, hrs, hnil] at h1
             rcases h1 with ⟨p, h, _⟩ | ⟨_, _, h⟩
             ·cases h
             ·unfold prsD
              rw [if_neg hne, h]; exact zh rfl
        clear hend hrs
        go_wp2_with fail
        exact HQ.out _ _ ⟨.slice X6 (m + 1) d6, -1, rfl, by
             unfold Gp
             rw [HPE.out]
             exact ⟨rfl, X6, d6, by rw [zA7, List.length_singleton, HM.out], Q17 HO6.out, SlC.of_own HO6.out fun k h _ => h⟩, HB6.out⟩
       ·have e13 : (((a : Int) + 3) == (n : Int)) = false := by rw [beq_eq_false_iff_ne]; omega
        have i3 : (a : Int) + 3 < (n : Int) := by omega
        have z3 := HC4.out (a + 3) (by omega) w6 HB6.out
        by_cases hk3 : (ks.getD (a + 3) r0).t.k = 44
        ·have HHN : Hid (HdG Q0w ks ye (acc ++ [(Pw.mk ⟨xs, xp⟩ ⟨zs, zp⟩)]) (a + 4)) := zh (.inr ⟨a + 3, HLS.out, by rw [hrs, TR.Q22 (by rw [HN.out]; omega)]; exact hk3, rfl, by rw [HN.out]; omega⟩)
         rw [hk3] at z3
         clear hk3 hrs
         go_wp2_with fail
         go_roundw
         case rel => exact ⟨acc ++ [(Pw.mk ⟨xs, xp⟩ ⟨zs, zp⟩)], X6, d6, a + 4, by rw [zA7, List.length_singleton, HM.out], by go_num, HHN.out, HO6.out, HG6.out, HB6.out⟩
         case measure => simp [intOf]; omega
        ·have HPE : Hid (prsD ks ye = .error (Q00 (ks.drop (a + 3)) ye)) := by
              have hcn := TR.Q22 (l := ks) (i := a + 3) (by rw [HN.out]; omega)
              have h1 := (HLS.out.stop (by rw [hrs, hcn]; exact hk3)).cases
              rw [Q1j, hrs] at h1
              rcases h1 with ⟨p, h, _⟩ | ⟨_, _, h⟩
              ·cases h
              ·unfold prsD
               rw [if_neg hne, h, hcn]; exact zh rfl
         have hq3 : (((ks.getD (a + 3) r0).t.k : Int) != 44) = true := by rw [bne_iff_ne]; omega
         generalize (ks.getD (a + 3) r0).t.k = q at *
         clear hk3 hrs
         go_wp2_with fail
         refine (HPLC.out _ HB6.out (a + 3)).mono ?_
         rintro e' w9 ⟨rfl, hww⟩
         have hww := hww.symm
         subst hww
         go_wp2_with fail
         exact HQ.out _ _ ⟨.slice none 0 0, _, rfl, by unfold Gp; rw [HPE.out]; exact ⟨rfl, rfl⟩, HB6.out⟩
     ·go_wp2_with fail
      generalize wr = w0 at *
      have HMS : Hid (decide ((n : Int) ≤ (a : Int) + 2) = true ∨ ∃ q : Nat, decide ((n : Int) ≤ (a : Int) + 2) = false ∧ ((a : Int) + 2) < (n : Int) ∧ (∀ W, Below w.heap.size w W → W.cell? ⟨bb, o + (a + 2) * 5, none⟩ = some (.int .u8 (q : Int))) ∧ (((q : Int)) != 97) = true) := by
       rcases Q41 (by omega) hk2 with h | ⟨h, h2⟩
       ·exact zh (.inl (zE (by have := HN.out; omega)))
       ·exact zh (.inr ⟨_, zF (by have := HN.out; omega), by have := HN.out; omega, HC.out (a + 2) (by have := HN.out; omega), by rw [bne_iff_ne]; omega⟩)
      have HPE : Hid (prsD ks ye = .error (Q00 (ks.drop (a + 2)) ye)) := zh (hpd _ ((by rw [hd0, hd1]; exact Q9P hx0 hx1 hk2)))
      clear hpd hk2 HH
      refine wp_loop_rounds 4 ?_
      rw [rounds_succ]
      go_upto_region 8 with fail
      have hb0 : Below w0.heap.size w0 (w0.alloc (.cells #[.int .u8 97, .int .u8 60, .int .u8 97] 5)) := (zB _ _).alloc (zL _) _
      have HG1 := zh (HG0.out.below hb0 HG0.out.lt)
      have HB1 := zh (HB0.out.trans (hb0.mono HB0.out.size))
      have HO1 := zh (own_below HO0.out hb0 (zL _))
      have HK0 := zh (RowAt.new w0 5 #[.int .u8 97, .int .u8 60, .int .u8 97])
      clear hb0
      generalize w0.alloc (.cells #[.int .u8 97, .int .u8 60, .int .u8 97] 5) = w1 at *
      have q0 : w1.cell? ⟨w0.heap.size, 0, none⟩ = some (.int .u8 97) := (HK0.out.cell 0).trans rfl
      obtain ⟨r0', r1', r2', r3', r4', _, _, _, _, _⟩ := row5 HG1.out
      have e0 : decide (n ≤ a) = false := zF (by omega)
      have z0 := HKC0.out w1 HB1.out
      have i0 : (a : Int) < (n : Int) := by omega
      go_quiet (fail)
      have hbn : Below w1.heap.size w1 (w1.drewN nq) := Q0D (zB _ _) nq
      have HGn := zh (HG1.out.below hbn HG1.out.lt)
      have HBn := zh (HB1.out.trans (hbn.mono HB1.out.size))
      have HOn := zh (own_below HO1.out hbn (zL _))
      clear HG1 HB1 HO1 hbn q0 e0 z0 i0 HK0 r0' r1' r2' r3' r4'
      have HG1 := HGn
      have HB1 := HBn
      have HO1 := HOn
      clear HGn HBn HOn
      generalize w1.drewN nq = w1 at *
      go_wp2_with fail
      rw [rounds_succ]
      go_upto_region 8 with fail
      have hb1 : Below w1.heap.size w1 (w1.alloc (.cells #[.int .u8 97, .int .u8 60, .int .u8 97] 5)) := (zB _ _).alloc (zL _) _
      have HG2 := zh (HG1.out.below hb1 HG1.out.lt)
      have HB2 := zh (HB1.out.trans (hb1.mono HB1.out.size))
      have HO2 := zh (own_below HO1.out hb1 (zL _))
      have HK1 := zh (RowAt.new w1 5 #[.int .u8 97, .int .u8 60, .int .u8 97])
      clear hb1
      generalize w1.alloc (.cells #[.int .u8 97, .int .u8 60, .int .u8 97] 5) = w2 at *
      have q1 : w2.cell? ⟨w1.heap.size, 1, none⟩ = some (.int .u8 60) := (HK1.out.cell 1).trans rfl
      obtain ⟨r0', r1', r2', r3', r4', _, _, _, _, _⟩ := row5 HG2.out
      have e1 : decide ((n : Int) ≤ (a : Int) + 1) = false := zF (by omega)
      have z1 := HKC1.out w2 HB2.out
      have i1 : ((a : Int) + 1) < (n : Int) := by omega
      go_quiet (fail)
      have hbn : Below w2.heap.size w2 (w2.drewN nq) := Q0D (zB _ _) nq
      have HGn := zh (HG2.out.below hbn HG2.out.lt)
      have HBn := zh (HB2.out.trans (hbn.mono HB2.out.size))
      have HOn := zh (own_below HO2.out hbn (zL _))
      clear HG2 HB2 HO2 hbn q1 e1 z1 i1 HK1 r0' r1' r2' r3' r4'
      have HG2 := HGn
      have HB2 := HBn
      have HO2 := HOn
      clear HGn HBn HOn
      generalize w2.drewN nq = w2 at *
      go_wp2_with fail
      rw [rounds_succ]
      go_upto_region 8 with fail
      have hb2 : Below w2.heap.size w2 (w2.alloc (.cells #[.int .u8 97, .int .u8 60, .int .u8 97] 5)) := (zB _ _).alloc (zL _) _
      have HG3 := zh (HG2.out.below hb2 HG2.out.lt)
      have HB3 := zh (HB2.out.trans (hb2.mono HB2.out.size))
      have HO3 := zh (own_below HO2.out hb2 (zL _))
      have HK2 := zh (RowAt.new w2 5 #[.int .u8 97, .int .u8 60, .int .u8 97])
      clear hb2
      generalize w2.alloc (.cells #[.int .u8 97, .int .u8 60, .int .u8 97] 5) = w3 at *
      have q2 : w3.cell? ⟨w2.heap.size, 2, none⟩ = some (.int .u8 97) := (HK2.out.cell 2).trans rfl
      obtain ⟨r0', r1', r2', r3', r4', _, _, _, _, _⟩ := row5 HG3.out
      have hcs : decide ((n : Int) ≤ (a : Int) + 2) = true ∨ ∃ q : Nat, decide ((n : Int) ≤ (a : Int) + 2) = false ∧ ((a : Int) + 2) < (n : Int) ∧ (∀ W, Below w.heap.size w W → W.cell? ⟨bb, o + (a + 2) * 5, none⟩ = some (.int .u8 (q : Int))) ∧ (((q : Int)) != 97) = true := HMS.out
      clear HMS
      rcases hcs with e2 | ⟨q, e2, i2, hq, hne⟩
      all_goals (
       try have z2 := hq w3 HB3.out
       try clear hq
       go_quiet (fail)
       go_wp2_with fail
       refine (HPLC.out _ (Q0D HB3.out _) (a + 2)).mono ?_
       rintro e' w9 ⟨rfl, rfl⟩
       go_wp2_with fail
       exact HQ.out _ _ ⟨.slice none 0 0, _, rfl, by unfold Gp; rw [HPE.out]; exact ⟨rfl, rfl⟩, Q0D HB3.out _⟩)
    ·go_wp2_with fail
     generalize wr = w0 at *
     have HMS : Hid (decide ((n : Int) ≤ (a : Int) + 1) = true ∨ ∃ q : Nat, decide ((n : Int) ≤ (a : Int) + 1) = false ∧ ((a : Int) + 1) < (n : Int) ∧ (∀ W, Below w.heap.size w W → W.cell? ⟨bb, o + (a + 1) * 5, none⟩ = some (.int .u8 (q : Int))) ∧ (((q : Int)) != 60) = true) := by
      rcases Q41 (by omega) hk1 with h | ⟨h, h2⟩
      ·exact zh (.inl (zE (by have := HN.out; omega)))
      ·exact zh (.inr ⟨_, zF (by have := HN.out; omega), by have := HN.out; omega, HC.out (a + 1) (by have := HN.out; omega), by rw [bne_iff_ne]; omega⟩)
     have HPE : Hid (prsD ks ye = .error (Q00 (ks.drop (a + 1)) ye)) := zh (hpd _ ((by rw [hd0]; exact Q9O hx0 hk1)))
     clear hpd hk1 HH
     refine wp_loop_rounds 4 ?_
     rw [rounds_succ]
     go_upto_region 8 with fail
     have hb0 : Below w0.heap.size w0 (w0.alloc (.cells #[.int .u8 97, .int .u8 60, .int .u8 97] 5)) := (zB _ _).alloc (zL _) _
     have HG1 := zh (HG0.out.below hb0 HG0.out.lt)
     have HB1 := zh (HB0.out.trans (hb0.mono HB0.out.size))
     have HO1 := zh (own_below HO0.out hb0 (zL _))
     have HK0 := zh (RowAt.new w0 5 #[.int .u8 97, .int .u8 60, .int .u8 97])
     clear hb0
     generalize w0.alloc (.cells #[.int .u8 97, .int .u8 60, .int .u8 97] 5) = w1 at *
     have q0 : w1.cell? ⟨w0.heap.size, 0, none⟩ = some (.int .u8 97) := (HK0.out.cell 0).trans rfl
     obtain ⟨r0', r1', r2', r3', r4', _, _, _, _, _⟩ := row5 HG1.out
     have e0 : decide (n ≤ a) = false := zF (by omega)
     have z0 := HKC0.out w1 HB1.out
     have i0 : (a : Int) < (n : Int) := by omega
     go_quiet (fail)
     have hbn : Below w1.heap.size w1 (w1.drewN nq) := Q0D (zB _ _) nq
     have HGn := zh (HG1.out.below hbn HG1.out.lt)
     have HBn := zh (HB1.out.trans (hbn.mono HB1.out.size))
     have HOn := zh (own_below HO1.out hbn (zL _))
     clear HG1 HB1 HO1 hbn q0 e0 z0 i0 HK0 r0' r1' r2' r3' r4'
     have HG1 := HGn
     have HB1 := HBn
     have HO1 := HOn
     clear HGn HBn HOn
     generalize w1.drewN nq = w1 at *
     go_wp2_with fail
     rw [rounds_succ]
     go_upto_region 8 with fail
     have hb1 : Below w1.heap.size w1 (w1.alloc (.cells #[.int .u8 97, .int .u8 60, .int .u8 97] 5)) := (zB _ _).alloc (zL _) _
     have HG2 := zh (HG1.out.below hb1 HG1.out.lt)
     have HB2 := zh (HB1.out.trans (hb1.mono HB1.out.size))
     have HO2 := zh (own_below HO1.out hb1 (zL _))
     have HK1 := zh (RowAt.new w1 5 #[.int .u8 97, .int .u8 60, .int .u8 97])
     clear hb1
     generalize w1.alloc (.cells #[.int .u8 97, .int .u8 60, .int .u8 97] 5) = w2 at *
     have q1 : w2.cell? ⟨w1.heap.size, 1, none⟩ = some (.int .u8 60) := (HK1.out.cell 1).trans rfl
     obtain ⟨r0', r1', r2', r3', r4', _, _, _, _, _⟩ := row5 HG2.out
     have hcs : decide ((n : Int) ≤ (a : Int) + 1) = true ∨ ∃ q : Nat, decide ((n : Int) ≤ (a : Int) + 1) = false ∧ ((a : Int) + 1) < (n : Int) ∧ (∀ W, Below w.heap.size w W → W.cell? ⟨bb, o + (a + 1) * 5, none⟩ = some (.int .u8 (q : Int))) ∧ (((q : Int)) != 60) = true := HMS.out
     clear HMS
     rcases hcs with e1 | ⟨q, e1, i1, hq, hne⟩
     all_goals (
      try have z1 := hq w2 HB2.out
      try clear hq
      go_quiet (fail)
      go_wp2_with fail
      refine (HPLC.out _ (Q0D HB2.out _) (a + 1)).mono ?_
      rintro e' w9 ⟨rfl, rfl⟩
      go_wp2_with fail
      exact HQ.out _ _ ⟨.slice none 0 0, _, rfl, by unfold Gp; rw [HPE.out]; exact ⟨rfl, rfl⟩, Q0D HB2.out _⟩)
   ·rcases htest with e_ | ⟨e_, e__⟩
    all_goals (
     have HMS : Hid (decide (n ≤ a) = true ∨ ∃ q : Nat, decide (n ≤ a) = false ∧ (a : Int) < (n : Int) ∧ (∀ W, Below w.heap.size w W → W.cell? ⟨bb, o + (a) * 5, none⟩ = some (.int .u8 (q : Int))) ∧ (((q : Int)) != 97) = true) := by
      rcases Q41 (by omega) hk0 with h | ⟨h, h2⟩
      ·exact zh (.inl (zE (by have := HN.out; omega)))
      ·exact zh (.inr ⟨_, zF (by have := HN.out; omega), by have := HN.out; omega, HC.out (a) (by have := HN.out; omega), by rw [bne_iff_ne]; omega⟩)
     have HPE : Hid (prsD ks ye = .error (Q00 (ks.drop (a)) ye)) := zh (hpd _ (Q6H hk0))
     clear hpd hk0 HH
     go_wp2_with fail
     generalize wr = w0 at *
     refine wp_loop_rounds 4 ?_
     rw [rounds_succ]
     go_upto_region 8 with fail
     have hb0 : Below w0.heap.size w0 (w0.alloc (.cells #[.int .u8 97, .int .u8 60, .int .u8 97] 5)) := (zB _ _).alloc (zL _) _
     have HG1 := zh (HG0.out.below hb0 HG0.out.lt)
     have HB1 := zh (HB0.out.trans (hb0.mono HB0.out.size))
     have HO1 := zh (own_below HO0.out hb0 (zL _))
     have HK0 := zh (RowAt.new w0 5 #[.int .u8 97, .int .u8 60, .int .u8 97])
     clear hb0
     generalize w0.alloc (.cells #[.int .u8 97, .int .u8 60, .int .u8 97] 5) = w1 at *
     have q0 : w1.cell? ⟨w0.heap.size, 0, none⟩ = some (.int .u8 97) := (HK0.out.cell 0).trans rfl
     obtain ⟨r0', r1', r2', r3', r4', _, _, _, _, _⟩ := row5 HG1.out
     have hcs : decide (n ≤ a) = true ∨ ∃ q : Nat, decide (n ≤ a) = false ∧ (a : Int) < (n : Int) ∧ (∀ W, Below w.heap.size w W → W.cell? ⟨bb, o + (a) * 5, none⟩ = some (.int .u8 (q : Int))) ∧ (((q : Int)) != 97) = true := HMS.out
     clear HMS
     rcases hcs with e0 | ⟨q, e0, i0, hq, hne⟩
     all_goals (
      try have z0 := hq w1 HB1.out
      try clear hq
      go_quiet (fail)
      go_wp2_with fail
      refine (HPLC.out _ (Q0D HB1.out _) (a)).mono ?_
      rintro e' w9 ⟨rfl, rfl⟩
      go_wp2_with fail
      exact HQ.out _ _ ⟨.slice none 0 0, _, rfl, by unfold Gp; rw [HPE.out]; exact ⟨rfl, rfl⟩, Q0D HB1.out _⟩))
end
section
open Go.RowKit LX TR TM CM
theorem Q6I {s : Nat} {l : List Tr} {i e : Int} {v : Value} {w : World} (h : HandedW s l i e v w) : ∃ X n cc fx fy, v = .tuple #[.slice X n cc, .agg #[.int .i64 fx, .int .i64 fy]] := by
 unfold HandedW at h
 split at h
 ·exact ⟨none, 0, 0, 2, _, h⟩
 ·obtain ⟨A, c, h, _⟩ := h
  exact ⟨A, _, c, 0, 0, h⟩
def HandO (ok : Nat → Prop) (l : List Tr) (e : Int) (v : Value) (w : World) : Prop := match Q0K l e with
 | .error p => v = .tuple #[.slice none 0 0, .agg #[.int .i64 2, .int .i64 p]]
 | .ok (ws, _) => ∃ A c, v = .tuple #[.slice A ws.length c, .agg #[.int .i64 0, .int .i64 0]] ∧ ws.length ≤ c ∧ SlC w ok A (wcs ws)
theorem HandedW.o {s : Nat} {l : List Tr} {e : Int} {v : Value} {w : World} {ok : Nat → Prop} (h : HandedW s l 0 e v w) (hk : ∀ k, k < w.heap.size → s ≤ k → ok k) : HandO ok l e v w := by
 unfold HandedW at h
 unfold HandO
 rw [Q1j] at h
 cases hr : Q0K l e with
 | error p => rw [hr] at h; exact h
 | ok yr =>
   rw [hr] at h
   obtain ⟨A, c, h1, h2, h3⟩ := h
   exact ⟨A, c, h1, h2, h3.weak hk⟩
theorem HandO.weak {ok ok2 : Nat → Prop} {l : List Tr} {e : Int} {v : Value} {w : World} (h : HandO ok l e v w) (hk : ∀ k, k < w.heap.size → ok k → ok2 k) : HandO ok2 l e v w := by
 unfold HandO at h ⊢
 split at h
 ·exact h
 ·obtain ⟨A, c, h1, h2, h3⟩ := h
  exact ⟨A, c, h1, h2, h3.weak hk⟩
theorem HandO.keep {ok : Nat → Prop} {l : List Tr} {e : Int} {v : Value} {w w2 : World} (h : HandO ok l e v w) (hk : ∀ k, k < w.heap.size → ok k → w2.heap[k]? = w.heap[k]?) : HandO ok l e v w2 := by
 unfold HandO at h ⊢
 split at h
 ·exact h
 ·obtain ⟨A, c, h1, h2, h3⟩ := h
  exact ⟨A, c, h1, h2, h3.keep9 hk⟩
theorem HandO.put {ok : Nat → Prop} {l : List Tr} {e : Int} {v : Value} {w : World} (h : HandO ok l e v w) {p : Addr} (hk : ∀ k, ok k → k ≠ p.block) (u : Value) : HandO ok l e v (w.setCell p u) :=
 h.keep fun k _ ho => World.setCell_other9 (Ne.symm (hk k ho))
theorem HandO.form {ok : Nat → Prop} {l : List Tr} {e : Int} {X : Option Addr} {n cc : Nat} {fx fy : Int} {w : World} (h : HandO ok l e (.tuple #[.slice X n cc, .agg #[.int .i64 fx, .int .i64 fy]]) w) :
 ∃ f4 ws, fx = fc f4 ∧ fy = fa f4 ∧ n = ws.length ∧ ws.length ≤ cc ∧ SlC w ok X (wcs ws) ∧ ((∃ p, f4 = some p ∧ Q0K l e = .error p) ∨ (f4 = none ∧ ∃ r, Q0K l e = .ok (ws, r))) := by
 unfold HandO at h
 cases hr : Q0K l e with
 | error p =>
   rw [hr] at h
   injection h with h
   simp only [Array.mk.injEq, List.cons.injEq, Value.slice.injEq, Value.agg.injEq, Value.int.injEq, true_and, and_true] at h
   obtain ⟨⟨rfl, rfl, rfl⟩, rfl, rfl⟩ := h
   exact ⟨some fy, [], rfl, rfl, rfl, zL _, SlC.nil _ _ _, .inl ⟨fy, rfl, rfl⟩⟩
 | ok yr =>
   obtain ⟨ws, r⟩ := yr
   rw [hr] at h
   obtain ⟨A, c, h1, h2, h3⟩ := h
   injection h1 with h1
   simp only [Array.mk.injEq, List.cons.injEq, Value.slice.injEq, Value.agg.injEq, Value.int.injEq, true_and, and_true] at h1
   obtain ⟨⟨rfl, rfl, rfl⟩, rfl, rfl⟩ := h1
   exact ⟨none, ws, rfl, rfl, rfl, h2, h3, .inr ⟨rfl, r, rfl⟩⟩
theorem Q9U {α : Type} {k : Nat} {rd : Rdr α} {l r : List Tr} {e : Int} {a : α} (h : Q0f k rd l e = .ok (a, r)) : ∃ x, l = x :: r ∧ x.t.k = k := by
 cases l with
 | nil => cases h
 | cons x q =>
   simp only [Q0f] at h
   split at h
   ·rename_i hk
    cases hr : rd x.ks x.e with
    | error p => rw [hr] at h; cases h
    | ok br =>
      obtain ⟨b, r2⟩ := br
      rw [hr] at h
      cases r2 with
      | nil =>
        injection h with h
        injection h with _ h
        exact ⟨x, by rw [h], hk⟩
      | cons y r3 => cases h
   ·cases h
theorem Q9V {l l2 : List Tr} {e : Int} {f4 f2 : Option Int} {ws : List Wd} {x : Tr} (h : (∃ p, f4 = some p ∧ Q0K l e = .error p) ∨ (f4 = none ∧ ∃ r, Q0K l e = .ok (ws, r))) (h2 : StepL (Q0U 123) l e f4 x l2 f2) : StepL Q0K l e none ws l2 f2 := by
 rcases h with ⟨p, rfl, hr⟩ | ⟨rfl, r, hr⟩
 ·obtain rfl := h2.bad p rfl
  exact .err h2.suf (.inr ⟨rfl, hr⟩)
 ·obtain ⟨y, rfl, hk⟩ := Q9U hr
  have h3 := h2.good rfl
  rw [Q6F hk] at h3
  obtain ⟨rfl, _, rfl⟩ := h3
  exact .ok h2.suf hr
theorem Q9W : Q3Y 112 WordsV Q0K := by
 intro w b A c l e f h
 have hbw := h.lt
 obtain ⟨c0, c1, c2, c3⟩ := Q1e h.at_
 refine Q0e fun Q' hQ => ?_
 have HQ := zh hQ; clear hQ
 cases f with
 | some p =>
   have HCR := zh h
   simp only [fc, Option.isSome_some, if_true] at c2
   clear h
   go_enter Tryz.func112, Tryz.ntmps112
   go_wp2_with fail
   exact HQ.out _ _ ⟨.slice none 0 0, [], A, c, l, some p, rfl, ⟨none, 0, rfl, zL _, SlC.nil _ _ _⟩, HCR.out, Mv.refl _ _, .err (Q2J _) (.inl rfl)⟩
 | none =>
   simp only [fc, Option.isSome_none, Bool.false_eq_true, if_false] at c2
   have HC : Hid (∀ W, Below w.heap.size w W → Calls Tryz.prog 138 #[.slice A l.length c, .int .i64 0, .int .i64 e] W fun e' w' => ∃ v, (e' = .returned v ∧ HandedW W.heap.size l 0 e v w') ∧ Below W.heap.size W w') := zh fun W hW =>
    (Qdk A c l 0 e W ((h.trs.below (hW.mono (Nat.le_of_lt hbw))).mono (by have := hW.size; omega)) h.len).mono fun e' w' ⟨v, h1, h2, h3⟩ => ⟨v, ⟨h1, h2⟩, h3⟩
   have HCR := zh h
   have C0 : ∀ W, Below w.heap.size w W → W.cell? ⟨b, 0, none⟩ = some (.slice A l.length c) := fun W hW => (hW.cell (p := ⟨b, 0, none⟩) hbw).trans c0
   have C1 : ∀ W, Below w.heap.size w W → W.cell? ⟨b, 1, none⟩ = some (.int .i64 e) := fun W hW => (hW.cell (p := ⟨b, 1, none⟩) hbw).trans c1
   clear h
   generalize hln : l.length = ln at *
   have HLN := zh hln; clear hln
   go_enter Tryz.func112, Tryz.ntmps112
   go_upto_region 3 with fail
   clear c0 c1 c2 c3
   go_cut [3, 4] from 11 to 22 (fun p3 p4 wx => ∃ (X : Option Addr) (n cc : Nat) (fx fy : Int) (g4 : Nat), p3 = .slice X n cc ∧ p4 = .pointer (some ⟨g4, 0, none⟩) ∧ Hid (RowAt wx g4 33 #[.int .i64 fx, .int .i64 fy]) ∧ Hid (HandO (fun k => w.heap.size ≤ k ∧ k ≠ g4) l e (.tuple #[.slice X n cc, .agg #[.int .i64 fx, .int .i64 fy]]) wx) ∧ Hid (Below w.heap.size w wx) ∧ Hid (w.heap.size ≤ g4))
   case first =>
    have HS0 : Hid (Below w.heap.size w w.drew) := (zB _ _).drew
    refine Q0y (fun w' => Below w.heap.size w w') ((.take 0 (.take 1 (.take 2 (.take 3 (.take 4 (.take 5 (.take 6 (.take 7 (.two 8 (.take 9 (.take 10 (.take 11 (.solo 12 (.take 13 (.solo 14 .nil)))))) 12 (.solo 8 (.take 9 (.take 10 (.take 11 (.take 13 (.solo 14 .nil)))))))))))))))) (by kernel_rfl) (by kernel_rfl) rfl (by kernel_rfl) HS0.out ?_
    generalize w.drew = v0 at HS0 ⊢
    have HSv0 := HS0
    iterate 8
        (refine Q07 (zO rfl) ?_)
        (first
         | (refine Q08 (by rfl) ?_)
         | (refine Q03 (v := ?_) (by rfl) ?_ ?_; rotate_left 1; (intro wx hSx; have hc_0 := C0 wx hSx; have hc_1 := C1 wx hSx; go_simp; try with_reducible rfl)))
        (try simp only [Act.put, zA4, zA5, zA6])
    refine Q2c ?_ ?_
    ·(refine Q02 (zO rfl) ?_)
     intro K hK
     go_simp
     go_at_call 138
     refine (HC.out v0 HSv0.out).mono ?_
     rintro e' v1 ⟨v, hh, hb⟩
     obtain ⟨rfl, hh⟩ := hh
     have HSv1 := zh (HSv0.out.trans (hb.mono HSv0.out.size))
     obtain ⟨X, n, cc, fx, fy, rfl⟩ := Q6I hh
     have hzv1 : w.heap.size ≤ v0.heap.size := HSv0.out.size
     have HHv1 : Hid (HandO (fun k => w.heap.size ≤ k) l e (.tuple #[.slice X n cc, .agg #[.int .i64 fx, .int .i64 fy]]) v1) := zh (hh.o fun k hk h => by omega)
     clear hh hb
     refine hK.out _ _ HSv1.out ?_
     clear hK K
     (try simp only [Act.put, zA4, zA5, zA6])
     iterate 3
      (refine Q07 (zO rfl) ?_)
      (first
       | (refine Q08 (by rfl) ?_)
       | (refine Q03 (v := ?_) (by rfl) ?_ ?_; rotate_left 1; (intro wx hSx; have hc_0 := C0 wx hSx; have hc_1 := C1 wx hSx; go_simp; try with_reducible rfl)))
      (try simp only [Act.put, zA4, zA5, zA6])
     (refine Q02 (zO rfl) ?_)
     intro K hK
     go_simp
     have hb : Below v1.heap.size v1 (v1.alloc (.cells #[.int .i64 0, .int .i64 0] 33)) := (zB _ _).alloc (zL _) _
     have HSv2 := zh (HSv1.out.trans (hb.mono HSv1.out.size))
     have HRv2 := zh (RowAt.new v1 33 #[.int .i64 0, .int .i64 0])
     have HZ := zh HSv1.out.size
     have HHv2 := zh ((HHv1.out.weak (ok2 := fun k => w.heap.size ≤ k ∧ k ≠ v1.heap.size) fun k hk h => ⟨h, by omega⟩).keep fun k hk _ => hb.block k hk)
     clear hb
     refine hK.out _ _ HSv2.out ?_
     clear hK K
     (try simp only [Act.put, zA4, zA5, zA6])
     generalize hgb : v1.heap.size = gb at *
     generalize (v1.alloc (.cells #[.int .i64 0, .int .i64 0] 33)) = v2 at *
     clear hgb
     iterate 1
      (refine Q07 (zO rfl) ?_)
      (first
       | (refine Q08 (by rfl) ?_)
       | (refine Q03 (v := ?_) (by rfl) ?_ ?_; rotate_left 1; (intro wx hSx; have hc_0 := C0 wx hSx; have hc_1 := C1 wx hSx; go_simp; try with_reducible rfl)))
      (try simp only [Act.put, zA4, zA5, zA6])
     (refine Q02 (zO rfl) ?_)
     intro K hK
     obtain ⟨r0, r1, z0, z1⟩ := row2 HRv2.out
     go_simp
     have hz := HZ.out
     have HSz : Hid (Below w.heap.size w ((v2.setCell ⟨gb, 0, none⟩ (.int .i64 fx)).setCell ⟨gb, 1, none⟩ (.int .i64 fy))) := (HSv2.out.setCell (p := ⟨gb, 0, none⟩) hz _).setCell (p := ⟨gb, 1, none⟩) hz _
     have HRz : Hid (RowAt ((v2.setCell ⟨gb, 0, none⟩ (.int .i64 fx)).setCell ⟨gb, 1, none⟩ (.int .i64 fy)) gb 33 #[.int .i64 fx, .int .i64 fy]) := (HRv2.out.put 0 (.int .i64 fx)).put 1 (.int .i64 fy)
     have HHz := zh ((HHv2.out.put (p := ⟨gb, 0, none⟩) (fun k h => h.2) (.int .i64 fx)).put (p := ⟨gb, 1, none⟩) (fun k h => h.2) (.int .i64 fy))
     refine hK.out _ _ HSz.out ?_
     clear hK K
     (try simp only [Act.put, zA4, zA5, zA6])
     refine Q0s ?_
     go_wp2
     go_meet
     case rel => exact ⟨X, n, cc, fx, fy, gb, rfl, rfl, HRz.out, HHz.out, HSz.out, HZ.out⟩
    ·(refine Q02 (zO rfl) ?_)
     intro K hK
     go_simp
     have hb : Below v0.heap.size v0 (v0.alloc (.cells #[.int .i64 0, .int .i64 0] 33)) := (zB _ _).alloc (zL _) _
     have HSv1 := zh (HSv0.out.trans (hb.mono HSv0.out.size))
     have HRv1 := zh (RowAt.new v0 33 #[.int .i64 0, .int .i64 0])
     have HZ := zh HSv0.out.size
     clear hb
     refine hK.out _ _ HSv1.out ?_
     clear hK K
     (try simp only [Act.put, zA4, zA5, zA6])
     generalize hgb : v0.heap.size = gb at *
     generalize (v0.alloc (.cells #[.int .i64 0, .int .i64 0] 33)) = v1 at *
     clear hgb
     (refine Q02 (zO rfl) ?_)
     intro K hK
     go_simp
     go_at_call 138
     refine (HC.out v1 HSv1.out).mono ?_
     rintro e' v2 ⟨v, hh, hb⟩
     obtain ⟨rfl, hh⟩ := hh
     have HSv2 := zh (HSv1.out.trans (hb.mono HSv1.out.size))
     obtain ⟨X, n, cc, fx, fy, rfl⟩ := Q6I hh
     have hzv2 : w.heap.size ≤ v1.heap.size := HSv1.out.size
     have hzz := HRv1.out.lt
     have HHv2 : Hid (HandO (fun k => w.heap.size ≤ k ∧ k ≠ gb) l e (.tuple #[.slice X n cc, .agg #[.int .i64 fx, .int .i64 fy]]) v2) := zh (hh.o fun k hk h => ⟨by omega, by omega⟩)
     have HRv2 := zh (HRv1.out.below hb HRv1.out.lt)
     clear hh hb
     refine hK.out _ _ HSv2.out ?_
     clear hK K
     (try simp only [Act.put, zA4, zA5, zA6])
     iterate 4
      (refine Q07 (zO rfl) ?_)
      (first
       | (refine Q08 (by rfl) ?_)
       | (refine Q03 (v := ?_) (by rfl) ?_ ?_; rotate_left 1; (intro wx hSx; have hc_0 := C0 wx hSx; have hc_1 := C1 wx hSx; go_simp; try with_reducible rfl)))
      (try simp only [Act.put, zA4, zA5, zA6])
     (refine Q02 (zO rfl) ?_)
     intro K hK
     obtain ⟨r0, r1, z0, z1⟩ := row2 HRv2.out
     go_simp
     have hz := HZ.out
     have HSz : Hid (Below w.heap.size w ((v2.setCell ⟨gb, 0, none⟩ (.int .i64 fx)).setCell ⟨gb, 1, none⟩ (.int .i64 fy))) := (HSv2.out.setCell (p := ⟨gb, 0, none⟩) hz _).setCell (p := ⟨gb, 1, none⟩) hz _
     have HRz : Hid (RowAt ((v2.setCell ⟨gb, 0, none⟩ (.int .i64 fx)).setCell ⟨gb, 1, none⟩ (.int .i64 fy)) gb 33 #[.int .i64 fx, .int .i64 fy]) := (HRv2.out.put 0 (.int .i64 fx)).put 1 (.int .i64 fy)
     have HHz := zh ((HHv2.out.put (p := ⟨gb, 0, none⟩) (fun k h => h.2) (.int .i64 fx)).put (p := ⟨gb, 1, none⟩) (fun k h => h.2) (.int .i64 fy))
     refine hK.out _ _ HSz.out ?_
     clear hK K
     (try simp only [Act.put, zA4, zA5, zA6])
     refine Q0s ?_
     go_wp2
     go_meet
     case rel => exact ⟨X, n, cc, fx, fy, gb, rfl, rfl, HRz.out, HHz.out, HSz.out, HZ.out⟩
   case rest =>
    obtain ⟨X, n, cc, fx, fy, g4, rfl, rfl, HR, HH, HB, HZ⟩ := hcut
    obtain ⟨f4, ws, rfl, rfl, rfl, hcap, hsl, hst⟩ := HH.out.form
    have HCW := zh (HCR.out.low HB.out hbw)
    have hz := HZ.out
    obtain ⟨r0, r1, _, _⟩ := row2 HR.out
    obtain ⟨_, _, b2, b3⟩ := Q1e HCW.out.at_
    have f2c := HCW.out.at_.free 2
    have f3c := HCW.out.at_.free 3
    have hne : ¬ g4 = b := by omega
    have HM1 : Hid (Mv b wc ((wc.setCell ⟨b, 2, none⟩ (.int .i64 (fc f4))).setCell ⟨b, 3, none⟩ (.int .i64 (fa f4)))) := ((Mv.refl b wc).setCell (p := ⟨b, 2, none⟩) (.inl rfl) HCW.out.lt _).setCell (p := ⟨b, 3, none⟩) (.inl rfl) HCW.out.lt _
    have HC1 : Hid (Cr ((wc.setCell ⟨b, 2, none⟩ (.int .i64 (fc f4))).setCell ⟨b, 3, none⟩ (.int .i64 (fa f4))) b A c l e f4) := HCW.out.mv HM1.out (by have h := (HCW.out.at_.put 2 (.int .i64 (fc f4))).put 3 (.int .i64 (fa f4)); exact h) HCW.out.trs HCW.out.len HCW.out.cap
    have HMW : Hid (Mv b w ((wc.setCell ⟨b, 2, none⟩ (.int .i64 (fc f4))).setCell ⟨b, 3, none⟩ (.int .i64 (fa f4)))) := (Mv.below hbw HB.out).trans HM1.out
    have HSL : Hid (SlC ((wc.setCell ⟨b, 2, none⟩ (.int .i64 (fc f4))).setCell ⟨b, 3, none⟩ (.int .i64 (fa f4))) (fun k => w.heap.size ≤ k) X (wcs ws)) := ((hsl.weak (ok' := fun k => w.heap.size ≤ k) fun k _ h => h.1).setCell9 (p := ⟨b, 2, none⟩) (fun k hk => by show k ≠ b; omega) (.int .i64 (fc f4))).setCell9 (p := ⟨b, 3, none⟩) (fun k hk => by show k ≠ b; omega) (.int .i64 (fa f4))
    have HT := zh (Q2K HC1.out 123)
    have HST := zh hst
    clear hst hsl HH HCW HB HM1 HC1 HCR HC C0 C1
    generalize hwn : ws.length = wn at *
    have HWN := zh hwn; clear hwn
    go_wp2_with fail
    refine HT.out.mono ?_
    rintro e' w9 ⟨x, A2, c2, l2, f2, rfl, hs, hm, hst, _⟩
    have HE := zh (Q9V HST.out hst)
    have HS9 := zh hs
    have HM9 := zh (HMW.out.trans hm)
    have HSL9 : Hid (SlC w9 (fun k => w.heap.size ≤ k) X (wcs ws)) := HSL.out.keep9 fun k hk h => hm.block k hk (by omega)
    clear hs hm hst
    unfold trv
    go_wp2_with fail
    exact HQ.out _ _ ⟨.slice X wn cc, ws, A2, c2, l2, f2, rfl, ⟨X, cc, by rw [HWN.out], by rw [HWN.out]; exact hcap, HSL9.out⟩, HS9.out, HM9.out, HE.out⟩
end
end Go.Proofs.YtmobcncgfbfmcaaGreatDoor
