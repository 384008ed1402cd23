/- Texts that SpellElemCard, SpellSoundCard need. Conditions: those that each states. -/

import Derived.Test.YtkgonoejnochjaaGreatDoorY17
import Derived.Test.YtkgonoejnochjaaGreatDoorY33
import Derived.Test.YtkgonoejnochjaaGreatDoorY35
set_option linter.unusedSimpArgs false
set_option linter.unusedVariables false
set_option maxRecDepth 8000
namespace Go.Proofs.YtkgonoejnochjaaGreatDoor
open Go.RowKit RM
theorem fnd_ex {p k : Nat} {P : Nat → Bool} (hk : k < p) (h : P k = true) : (fnd p P).isSome = true := by
 cases e : fnd p P with
 | some j => rfl
 | none =>
   unfold fnd at e
   rw [List.find?_range_eq_none] at e
   have := e k hk
   rw [h] at this
   cases this
end Go.Proofs.YtkgonoejnochjaaGreatDoor
namespace Go.Proofs.YtkgonoejnochjaaGreatDoor
open Go.RowKit RM
section
variable {w w' : World} {g q B : Nat} {xs : List Nat}
end
end Go.Proofs.YtkgonoejnochjaaGreatDoor
namespace Go.Proofs.YtkgonoejnochjaaGreatDoor
open Go.RowKit RM
end Go.Proofs.YtkgonoejnochjaaGreatDoor
namespace Go.Proofs.YtkgonoejnochjaaGreatDoor
open Go.RowKit RM
end Go.Proofs.YtkgonoejnochjaaGreatDoor
namespace Go.Proofs.YtkgonoejnochjaaGreatDoor
open Go.RowKit RM
end Go.Proofs.YtkgonoejnochjaaGreatDoor
namespace Go.Proofs.YtkgonoejnochjaaGreatDoor
open Go.RowKit RM
structure Lat (p : Nat) (R : Int → Int → Bool) : Prop where
 pos : 1 ≤ p
 refl : ∀ a : Nat, a < p → R a a = true
 trans : ∀ a b c : Nat, a < p → b < p → c < p → R a b = true → R b c = true → R a c = true
 anti : ∀ a b : Nat, a < p → b < p → R a b = true → R b a = true → a = b
 join : ∀ a b : Nat, a < p → b < p → (bndO p R a b).isSome = true
 meet : ∀ a b : Nat, a < p → b < p → (bndO p (flp R) a b).isSome = true
section
variable {p : Nat} {R : Int → Int → Bool} {a b c : Nat}
theorem bndT_iff {u : Nat} : bndT p R a b u = true ↔ R a u = true ∧ R b u = true ∧ ∀ v : Nat, v < p → R a v = true → R b v = true → R u v = true := by
 unfold bndT
 rw [Bool.and_eq_true, Bool.and_eq_true, List.all_eq_true, and_assoc]
 refine and_congr_right fun _ => and_congr_right fun _ => ?_
 constructor
 ·intro h v hv h1 h2
  have := h v (List.mem_range.2 hv)
  simpa [h1, h2] using this
 ·intro h v hv
  have := h v (List.mem_range.1 hv)
  cases h1 : R a v with
  | false => simp
  | true =>
    cases h2 : R b v with
    | false => simp
    | true => simp [this h1 h2]
end
theorem bnd_comm {p : Nat} {R : Int → Int → Bool} {a b : Nat} : bndO p R a b = bndO p R b a := by
 unfold bndO
 refine fnd_congr fun k _ => ?_
 rw [Bool.eq_iff_iff, bndT_iff, bndT_iff]
 exact ⟨fun h => ⟨h.2.1, h.1, fun v hv h1 h2 => h.2.2 v hv h2 h1⟩, fun h => ⟨h.2.1, h.1, fun v hv h1 h2 => h.2.2 v hv h2 h1⟩⟩
theorem bnd_self {p : Nat} {R : Int → Int → Bool} {a : Nat} (ha : a < p) (h : R a a = true) : (bndO p R a a).isSome = true := fnd_ex ha (bndT_iff.2 ⟨h, h, fun _ _ h1 _ => h1⟩)
theorem lat_of {n : Int} {l : List Nat} (h : latB n l = true) : Lat (pts n) (hasR n l) := by
 unfold latB at h
 simp only [Bool.and_eq_true, decide_eq_true_eq, List.all_eq_true, List.mem_range] at h
 obtain ⟨⟨⟨h1, h2⟩, ho⟩, hp⟩ := h
 unfold ordR at ho
 rw [Bool.and_eq_true] at ho
 obtain ⟨hc, ha⟩ := ho
 have hC := (closedB_iff n l).1 hc
 have hpn := pts_in (show 0 ≤ n by omega) h2
 unfold antiB at ha
 rw [List.all_eq_true] at ha
 have hlt : ∀ i j : Nat, i < pts n → j < i → bt l i j = true → bt l j i = true → False := fun i j hi hj h1 h2 => by
  have := ha i (List.mem_range.2 hi)
  unfold fstB at this
  rw [List.all_eq_true] at this
  have := this j (List.mem_range.2 hj)
  rw [h1, h2] at this
  cases this
 have hall : ∀ i j : Nat, i < pts n → j < pts n → (joinR n l i j).isSome = true ∧ (meetR n l i j).isSome = true := fun i j hi hj => by
  rcases Nat.lt_trichotomy i j with h | h | h
  ·have := hp j hj i h
   unfold latT at this
   rw [Bool.and_eq_true] at this
   exact ⟨by unfold joinR; rw [bnd_comm]; exact this.1, by unfold meetR; rw [bnd_comm]; exact this.2⟩
  ·subst h
   have hr : hasR n l i i = true := by rw [hasR_nat hi hi]; exact hC.1 i hi
   exact ⟨bnd_self hi hr, bnd_self (R := flp (hasR n l)) hi hr⟩
  ·have := hp i hi j h
   unfold latT at this
   rw [Bool.and_eq_true] at this
   exact this
 exact {
  pos := by omega
  refl := fun a ha => by rw [hasR_nat ha ha]; exact hC.1 a ha
  trans := fun a b c ha hb hc h1 h2 => by
   rw [hasR_nat ha hb] at h1
   rw [hasR_nat hb hc] at h2
   rw [hasR_nat ha hc]
   exact hC.2 a b c ha hb hc h1 h2
  anti := fun a b ha hb h1 h2 => by
   rw [hasR_nat ha hb] at h1
   rw [hasR_nat hb ha] at h2
   rcases Nat.lt_trichotomy a b with h | h | h
   ·exact absurd (hlt b a hb h h2 h1) id
   ·exact h
   ·exact absurd (hlt a b ha h h1 h2) id
  join := fun a b ha hb => (hall a b ha hb).1
  meet := fun a b ha hb => (hall a b ha hb).2 }
section
variable {n : Int} {l : List Nat} {a b : Nat}
theorem word_inj (h : Lat (pts n) (hasR n l)) (ha : a < pts n) (hb : b < pts n) (e : wordN n l a = wordN n l b) : a = b := by
 have h1 := wordN_bit n l b a
 have h2 := wordN_bit n l a b
 rw [← e, wordN_bit, h.refl a ha] at h1
 rw [e, wordN_bit, h.refl b hb] at h2
 refine h.anti a b ha hb ?_ ?_
 ·simpa [ha] using h1.symm
 ·simpa [hb] using h2.symm
theorem pt_word (h : Lat (pts n) (hasR n l)) (ha : a < pts n) : ptO n l (wordN n l a) = some a := by
 unfold ptO
 refine fnd_hit ha (by unfold ptT; exact beq_self_eq_true _) fun j hj => ?_
 unfold ptT
 rw [beq_eq_false_iff_ne]
 intro e
 have := word_inj h (show j < pts n by omega) ha e
 omega
end
end Go.Proofs.YtkgonoejnochjaaGreatDoor
namespace Go.Proofs.YtkgonoejnochjaaGreatDoor
open RM
theorem clW_fix {p : Nat} {S : Nat → Nat → Bool} {a : Nat} (hp : p ≤ 8) (hS : Closed p S) (ha : a < 18446744073709551616) (ht : Tight p a) (hd : Dcl p S a) : clW p S a = a :=
 ob_ext (clW_lt _ _ _) ha fun o x ho hx => by
  rw [Bool.eq_iff_iff]
  constructor
  ·intro h
   obtain ⟨h1, h2⟩ := clW_tight p S a o x ho hx h
   obtain ⟨q, y, hq, hy, h3, h4, h5⟩ := (clW_iff hp h1 h2).1 h
   exact hd o x q y h1 h2 hq hy h3 h4 h5
  ·intro h
   obtain ⟨h1, h2⟩ := ht o x ho hx h
   exact clW_has hp hS h1 h2 h
theorem clW_clW {p : Nat} {S : Nat → Nat → Bool} (hp : p ≤ 8) (hS : Closed p S) (w : Nat) : clW p S (clW p S w) = clW p S w :=
 clW_fix hp hS (clW_lt _ _ _) (clW_tight _ _ _) (clW_dcl hp hS w)
theorem clW_or {p : Nat} {S : Nat → Nat → Bool} (hp : p ≤ 8) (hS : Closed p S) (v w : Nat) : clW p S (clW p S v ||| clW p S w) = clW p S v ||| clW p S w :=
 clW_fix hp hS (Nat.or_lt_two_pow (n := 64) (clW_lt _ _ _) (clW_lt _ _ _)) (fun o x ho hx h => by
  rw [ob_or, Bool.or_eq_true] at h
  rcases h with h | h
  ·exact clW_tight _ _ _ o x ho hx h
  ·exact clW_tight _ _ _ o x ho hx h) fun o x q y ho hx hq hy h h1 h2 => by
  rw [ob_or, Bool.or_eq_true] at h ⊢
  rcases h with h | h
  ·exact .inl (clW_dcl hp hS v o x q y ho hx hq hy h h1 h2)
  ·exact .inr (clW_dcl hp hS w o x q y ho hx hq hy h h1 h2)
end Go.Proofs.YtkgonoejnochjaaGreatDoor
namespace Go.Proofs.YtkgonoejnochjaaGreatDoor
open Go.RowKit RM
end Go.Proofs.YtkgonoejnochjaaGreatDoor
namespace Go.Proofs.YtkgonoejnochjaaGreatDoor
open Go.RowKit RM
end Go.Proofs.YtkgonoejnochjaaGreatDoor
namespace Go.Proofs.YtkgonoejnochjaaGreatDoor
open Go.RowKit RM
end Go.Proofs.YtkgonoejnochjaaGreatDoor
namespace Go.Proofs.YtkgonoejnochjaaGreatDoor
open Go.RowKit RM
end Go.Proofs.YtkgonoejnochjaaGreatDoor
namespace Go.Proofs.YtkgonoejnochjaaGreatDoor
open Go.RowKit RM
end Go.Proofs.YtkgonoejnochjaaGreatDoor
namespace Go.Proofs.YtkgonoejnochjaaGreatDoor
namespace TR
open LX
end TR
end Go.Proofs.YtkgonoejnochjaaGreatDoor
namespace Go.Proofs.YtkgonoejnochjaaGreatDoor
open Go.RowKit LX TR
section
variable {α : Type} {f : α → List Value} {m : Nat}
end
section
variable {w w' : World} {B B' : Nat} {A : Option Addr} {l : List Tr}
end
section
variable {w w' : World} {ok ok' : Nat → Prop} {A : Option Addr} {cs : List Value}
end
section
variable {w w' : World} {ok ok' : Nat → Prop} {A : Option Addr} {l m : List Tr}
end
end Go.Proofs.YtkgonoejnochjaaGreatDoor
namespace Go.Proofs.YtkgonoejnochjaaGreatDoor
open Go.RowKit LX TR
end Go.Proofs.YtkgonoejnochjaaGreatDoor
namespace Go.Proofs.YtkgonoejnochjaaGreatDoor
namespace TR
open LX
end TR
open Go.RowKit LX TR
end Go.Proofs.YtkgonoejnochjaaGreatDoor
namespace Go.Proofs.YtkgonoejnochjaaGreatDoor
open Go.RowKit LX TR
def Ix (l : List Tk) : List Nat → List Tr → Prop
 | [], [f] => f.t = t0
 | j :: os, f :: st => j < l.length ∧ f.t = l.getD j t0 ∧ Ix l os st
 | _, _ => False
theorem Ix.len {l : List Tk} : ∀ {os : List Nat} {st : List Tr}, Ix l os st → st.length = os.length + 1
 | [], [_], _ => rfl
 | _ :: os, _ :: st, h => by have := Ix.len h.2.2; simp only [List.length_cons]; omega
end Go.Proofs.YtkgonoejnochjaaGreatDoor
namespace Go.Proofs.YtkgonoejnochjaaGreatDoor
open Go.RowKit LX TR
end Go.Proofs.YtkgonoejnochjaaGreatDoor
namespace Go.Proofs.YtkgonoejnochjaaGreatDoor
open Go.RowKit LX TR
theorem Deep.off {w : World} {B C g : Nat} {v : Value} {l : List Tr} (h : Deep w (Sep B v) l) (hg : g < B) (o : Nat) (u : Value) (hC : ∀ b, B ≤ b → C ≤ b) : Deep (w.setCell ⟨g, o, none⟩ u) (Sep C v) l :=
 h.keep (by simp [World.setCell]) (fun b _ hk => by
  have hne : g ≠ b := fun e => by have := hk.1; omega
  simp only [World.setCell, Array.getElem?_modify, if_neg hne]) (fun b _ h => ⟨hC b h.1, h.2⟩)
end Go.Proofs.YtkgonoejnochjaaGreatDoor
namespace Go.Proofs.YtkgonoejnochjaaGreatDoor
namespace TM
open LX TR
theorem cnt_append (a b : List Nd) : cnt (a ++ b) = cnt a + cnt b := by
 induction a with
 | nil => simp [cnt]
 | cons x a ih => rw [List.cons_append, cnt_cons, cnt_cons, ih]; omega
end TM
open Go.RowKit LX TR TM
end Go.Proofs.YtkgonoejnochjaaGreatDoor
namespace Go.Proofs.YtkgonoejnochjaaGreatDoor
open Go.RowKit LX TR TM
section
variable {w w' : World} {B B' : Nat} {l : List Nd} {x : Nd}
end
end Go.Proofs.YtkgonoejnochjaaGreatDoor
namespace Go.Proofs.YtkgonoejnochjaaGreatDoor
open Go.RowKit LX TR TM
section
variable (s : List UInt8) (ws ks : List (List UInt8))
end
end Go.Proofs.YtkgonoejnochjaaGreatDoor
namespace Go.Proofs.YtkgonoejnochjaaGreatDoor
namespace TM
open LX TR
end TM
open Go.RowKit LX TR TM
end Go.Proofs.YtkgonoejnochjaaGreatDoor
namespace Go.Proofs.YtkgonoejnochjaaGreatDoor
open Go.RowKit LX TR TM
end Go.Proofs.YtkgonoejnochjaaGreatDoor
namespace Go.Proofs.YtkgonoejnochjaaGreatDoor
open Go.RowKit LX TR TM
set_option maxRecDepth 100000 in
set_option maxHeartbeats 800000 in
theorem right10_any (A : Option Addr) (c : Nat) (ws : List Wd) (hn : ws.length ≤ 1099511627776) (w : World) (hA : Sl w w.heap.size A (wcs ws)) :
 Calls Tryz.prog 41 #[.slice A ws.length c] w fun e w' => e = .returned (.bool (wrB ws)) ∧ Dr w w' := by
 have HA := Lib.hid hA; clear hA
 have HHIT : Hid (∀ i, i < ws.length → NM.right (ws.getD i w0).s = false → wrB ws = false) := fun i hi h => by
  unfold wrB
  rw [List.all_eq_false]
  refine ⟨_, ?_, by rw [h]; simp⟩
  rw [List.getD_eq_getElem?_getD, List.getElem?_eq_getElem hi]
  exact List.getElem_mem hi
 have HMISS : Hid ((∀ j, j < ws.length → NM.right (ws.getD j w0).s = true) → wrB ws = true) := fun h => by
  unfold wrB
  rw [List.all_eq_true]
  intro x hx
  obtain ⟨j, hj, rfl⟩ := List.mem_iff_getElem.1 hx
  have := h j hj
  rw [List.getD_eq_getElem?_getD, List.getElem?_eq_getElem hj, Option.getD_some] at this
  exact this
 generalize wrB ws = R at *
 generalize hm : ws.length = n at *
 have HN := Lib.hid hm; clear hm
 go_enter Tryz.func41, Tryz.ntmps41
 go_wp2_with fail
 go_loopw [3] (fun iv wr => ∃ i : Nat, i ≤ n ∧ iv = .int .i64 i ∧ Hid (∀ j, j < i → NM.right (ws.getD j w0).s = true) ∧ Hid (Dr w wr)) (fun iv _ => n - (intOf iv).toNat)
 case atStart => exact ⟨0, by omega, rfl, fun j hj => by omega, Dr.refl _⟩
 case round =>
  obtain ⟨i, hi, rfl, HB, HW⟩ := hrel
  by_cases hlt : i < n
  ·obtain ⟨b1, o1, rfl, _, hc1⟩ := sl_at (z := w0) wcells_length (HA.out.below HW.out.below) (k := i) (by rw [HN.out]; exact hlt) (by omega)
   have p0 := hc1 i 0 _ (by rw [HN.out]; exact hlt) (by omega) rfl
   rw [Nat.add_zero] at p0
   have hin : (i : Int) < (n : Int) := by omega
   have HIN : Hid (NM.right (ws.getD i w0).s = true → ∀ j, j < i + 1 → NM.right (ws.getD j w0).s = true) := fun h j hj => by
        by_cases e : j = i
        ·rw [e]; exact h
        ·exact HB.out j (by omega)
   have HYS := Lib.hid (HHIT.out i hlt)
   clear hc1 HB
   have HC := Lib.hid (refRight_any (ws.getD i w0).s wr)
   generalize (NM.right (ws.getD i w0).s) = q at *
   generalize (ws.getD i w0) = x at *
   obtain ⟨s, p⟩ := x
   simp only at p0 HC
   cases q
   ·have HYS2 := Lib.hid (HYS.out rfl)
    clear HIN HYS
    go_wp2_with fail
    refine HC.out.mono ?_
    rintro e' w4 ⟨rfl, hb⟩
    have HW4 := Lib.hid (HW.out.trans hb)
    clear hb
    go_wp2_with fail
    go_ret
    exact ⟨ret_eq (bool_eq HYS2.out.symm), HW4.out⟩
   ·have HIN2 := Lib.hid (HIN.out rfl)
    clear HIN HYS
    go_wp2_with fail
    refine HC.out.mono ?_
    rintro e' w4 ⟨rfl, hb⟩
    have HW4 := Lib.hid (HW.out.trans hb)
    clear hb
    go_wp2_with fail
    go_roundw
    case rel => exact ⟨i + 1, by omega, by go_num, HIN2, HW4⟩
    case measure => simp [intOf]; omega
  ·obtain rfl : i = n := by omega
   have HNO := Lib.hid (HMISS.out HB.out)
   go_wp2_with fail
   go_ret
   exact ⟨ret_eq (bool_eq HNO.out.symm), HW.out⟩
end Go.Proofs.YtkgonoejnochjaaGreatDoor
namespace Go.Proofs.YtkgonoejnochjaaGreatDoor
open Go.RowKit LX TR TM
set_option maxRecDepth 100000 in
set_option maxHeartbeats 3200000 in
theorem all10_1 (A : Option Addr) (c : Nat) (zs : List Nd) (hn : zs.length ≤ 1099511627776) (w : World) (hnd : Nods w w.heap.size zs) (hA : Sl w w.heap.size A (ncs zs))
 (hF : ∀ z ∈ zs, ∀ W, Below w.heap.size w W → Calls Tryz.prog 20 #[.agg (nv z)] W fun e w' => e = .returned (.bool (fl z).c) ∧ Below W.heap.size W w') :
 Calls Tryz.prog 42 #[.int .i64 1, .slice A zs.length c] w fun e w' => e = .returned (.bool (zs.all fun y => (fl y).c)) ∧ Below w.heap.size w w' := by
 have HA := Lib.hid hA; clear hA
 have HND := Lib.hid hnd; clear hnd
 have HFF : Hid (∀ i, i < zs.length → zs.getD i n0 ∈ zs) := fun i hi => by
  rw [List.getD_eq_getElem?_getD, List.getElem?_eq_getElem hi]
  exact List.getElem_mem hi
 have HF := Lib.hid hF; clear hF
 have HHIT : Hid (∀ i, i < zs.length → (fl (zs.getD i n0)).c = false → (zs.all fun y => (fl y).c) = false) := fun i hi h => by
  rw [List.all_eq_false]
  exact ⟨_, HFF.out i hi, by rw [h]; simp⟩
 have HMISS : Hid ((∀ j, j < zs.length → (fl (zs.getD j n0)).c = true) → (zs.all fun y => (fl y).c) = true) := fun h => by
  rw [List.all_eq_true]
  intro x hx
  obtain ⟨j, hj, rfl⟩ := List.mem_iff_getElem.1 hx
  have := h j hj
  rw [List.getD_eq_getElem?_getD, List.getElem?_eq_getElem hj, Option.getD_some] at this
  exact this
 generalize (zs.all fun y => (fl y).c) = R at *
 generalize hm : zs.length = n at *
 have HN := Lib.hid hm; clear hm
 go_enter Tryz.func42, Tryz.ntmps42
 go_wp2_with fail
 go_loopw [5, 6, 7] (fun iv _ _ wr => ∃ i : Nat, i ≤ n ∧ iv = .int .i64 i ∧ Hid (∀ j, j < i → (fl (zs.getD j n0)).c = true) ∧ Hid (Below w.heap.size w wr)) (fun iv _ _ _ => n - (intOf iv).toNat)
 case atStart => exact ⟨0, by omega, rfl, fun j hj => by omega, Below.refl _ _⟩
 case round =>
  obtain ⟨i, hi, rfl, HB, HW⟩ := hrel
  by_cases hlt : i < n
  ·obtain ⟨bb, o, rfl, hbb, hc⟩ := sl_at (z := n0) ncells_length (HA.out.below HW.out) (k := i) (by rw [HN.out]; exact hlt) (by omega)
   have q0 := hc i 0 _ (by rw [HN.out]; exact hlt) (by omega) rfl
   have q1 := hc i 1 _ (by rw [HN.out]; exact hlt) (by omega) rfl
   have q2 := hc i 2 _ (by rw [HN.out]; exact hlt) (by omega) rfl
   have q3 := hc i 3 _ (by rw [HN.out]; exact hlt) (by omega) rfl
   have q4 := hc i 4 _ (by rw [HN.out]; exact hlt) (by omega) rfl
   rw [Nat.add_zero] at q0
   rw [← Nat.add_assoc] at q1 q2 q3 q4
   have HIN : Hid ((fl (zs.getD i n0)).c = true → ∀ j, j < i + 1 → (fl (zs.getD j n0)).c = true) := fun h j hj => by
        by_cases e : j = i
        ·rw [e]; exact h
        ·exact HB.out j (by omega)
   have HYS := Lib.hid (HHIT.out i hlt)
   have hin : (i : Int) < (n : Int) := by omega
   have HMM := Lib.hid (HFF.out i hlt)
   clear hc HB
   have HC := Lib.hid (fun W (h : Below w.heap.size w W) => HF.out _ HMM.out W h)
   generalize zs.getD i n0 = z at *
   obtain ⟨zk, zp, zs9, zA, zc, zw, zB, zd, zz⟩ := z
   unfold nv at HC
   simp only [Nd.k, Nd.p, Nd.s, Nd.A, Nd.c, Nd.ws, Nd.B, Nd.d, Nd.ks] at q0 q1 q2 q3 q4 HC
   have hn := RowAt.new wr 28 #[.int .i64 zk, .int .i64 zp, .string zs9, .slice zA zw.length zc, .slice zB zz.length zd]
   have HB1 : Hid (Below w.heap.size w (wr.alloc (.cells #[.int .i64 zk, .int .i64 zp, .string zs9, .slice zA zw.length zc, .slice zB zz.length zd] 28))) := HW.out.alloc HW.out.size _
   obtain ⟨m0, m1, m2, m3, m4, _, _, _, _, _⟩ := row5 hn
   clear hn
   generalize (fl (.mk zk zp zs9 zA zc zw zB zd zz)).c = q at *
   cases q
   ·have HYS2 := Lib.hid (HYS.out rfl)
    clear HIN HYS
    go_wp2_with fail
    refine (HC.out _ HB1.out).mono ?_
    rintro e w4 ⟨rfl, hb⟩
    have HW4 := Lib.hid (HB1.out.trans (hb.mono HB1.out.size))
    clear hb
    go_wp2_with fail
    go_ret
    exact ⟨ret_eq (bool_eq HYS2.out.symm), HW4.out⟩
   ·have HIN2 := Lib.hid (HIN.out rfl)
    clear HIN HYS
    go_wp2_with fail
    refine (HC.out _ HB1.out).mono ?_
    rintro e w4 ⟨rfl, hb⟩
    have HW4 := Lib.hid (HB1.out.trans (hb.mono HB1.out.size))
    clear hb
    go_wp2_with fail
    go_roundw
    case rel => exact ⟨i + 1, by omega, by go_num, HIN2, HW4⟩
    case measure => simp [intOf]; omega
  ·obtain rfl : i = n := by omega
   have HNO := Lib.hid (HMISS.out HB.out)
   go_wp2_with fail
   go_ret
   exact ⟨ret_eq (bool_eq HNO.out.symm), HW.out⟩
set_option maxRecDepth 100000 in
set_option maxHeartbeats 3200000 in
theorem all10_3 (A : Option Addr) (c : Nat) (zs : List Nd) (hn : zs.length ≤ 1099511627776) (w : World) (hnd : Nods w w.heap.size zs) (hA : Sl w w.heap.size A (ncs zs))
 (hF : ∀ z ∈ zs, ∀ W, Below w.heap.size w W → Calls Tryz.prog 88 #[.agg (nv z)] W fun e w' => e = .returned (.bool (fl z).l) ∧ Below W.heap.size W w') :
 Calls Tryz.prog 42 #[.int .i64 3, .slice A zs.length c] w fun e w' => e = .returned (.bool (zs.all fun y => (fl y).l)) ∧ Below w.heap.size w w' := by
 have HA := Lib.hid hA; clear hA
 have HND := Lib.hid hnd; clear hnd
 have HFF : Hid (∀ i, i < zs.length → zs.getD i n0 ∈ zs) := fun i hi => by
  rw [List.getD_eq_getElem?_getD, List.getElem?_eq_getElem hi]
  exact List.getElem_mem hi
 have HF := Lib.hid hF; clear hF
 have HHIT : Hid (∀ i, i < zs.length → (fl (zs.getD i n0)).l = false → (zs.all fun y => (fl y).l) = false) := fun i hi h => by
  rw [List.all_eq_false]
  exact ⟨_, HFF.out i hi, by rw [h]; simp⟩
 have HMISS : Hid ((∀ j, j < zs.length → (fl (zs.getD j n0)).l = true) → (zs.all fun y => (fl y).l) = true) := fun h => by
  rw [List.all_eq_true]
  intro x hx
  obtain ⟨j, hj, rfl⟩ := List.mem_iff_getElem.1 hx
  have := h j hj
  rw [List.getD_eq_getElem?_getD, List.getElem?_eq_getElem hj, Option.getD_some] at this
  exact this
 generalize (zs.all fun y => (fl y).l) = R at *
 generalize hm : zs.length = n at *
 have HN := Lib.hid hm; clear hm
 go_enter Tryz.func42, Tryz.ntmps42
 go_wp2_with fail
 go_loopw [5, 6, 7] (fun iv _ _ wr => ∃ i : Nat, i ≤ n ∧ iv = .int .i64 i ∧ Hid (∀ j, j < i → (fl (zs.getD j n0)).l = true) ∧ Hid (Below w.heap.size w wr)) (fun iv _ _ _ => n - (intOf iv).toNat)
 case atStart => exact ⟨0, by omega, rfl, fun j hj => by omega, Below.refl _ _⟩
 case round =>
  obtain ⟨i, hi, rfl, HB, HW⟩ := hrel
  by_cases hlt : i < n
  ·obtain ⟨bb, o, rfl, hbb, hc⟩ := sl_at (z := n0) ncells_length (HA.out.below HW.out) (k := i) (by rw [HN.out]; exact hlt) (by omega)
   have q0 := hc i 0 _ (by rw [HN.out]; exact hlt) (by omega) rfl
   have q1 := hc i 1 _ (by rw [HN.out]; exact hlt) (by omega) rfl
   have q2 := hc i 2 _ (by rw [HN.out]; exact hlt) (by omega) rfl
   have q3 := hc i 3 _ (by rw [HN.out]; exact hlt) (by omega) rfl
   have q4 := hc i 4 _ (by rw [HN.out]; exact hlt) (by omega) rfl
   rw [Nat.add_zero] at q0
   rw [← Nat.add_assoc] at q1 q2 q3 q4
   have HIN : Hid ((fl (zs.getD i n0)).l = true → ∀ j, j < i + 1 → (fl (zs.getD j n0)).l = true) := fun h j hj => by
        by_cases e : j = i
        ·rw [e]; exact h
        ·exact HB.out j (by omega)
   have HYS := Lib.hid (HHIT.out i hlt)
   have hin : (i : Int) < (n : Int) := by omega
   have HMM := Lib.hid (HFF.out i hlt)
   clear hc HB
   have HC := Lib.hid (fun W (h : Below w.heap.size w W) => HF.out _ HMM.out W h)
   generalize zs.getD i n0 = z at *
   obtain ⟨zk, zp, zs9, zA, zc, zw, zB, zd, zz⟩ := z
   unfold nv at HC
   simp only [Nd.k, Nd.p, Nd.s, Nd.A, Nd.c, Nd.ws, Nd.B, Nd.d, Nd.ks] at q0 q1 q2 q3 q4 HC
   have hn := RowAt.new wr 28 #[.int .i64 zk, .int .i64 zp, .string zs9, .slice zA zw.length zc, .slice zB zz.length zd]
   have HB1 : Hid (Below w.heap.size w (wr.alloc (.cells #[.int .i64 zk, .int .i64 zp, .string zs9, .slice zA zw.length zc, .slice zB zz.length zd] 28))) := HW.out.alloc HW.out.size _
   obtain ⟨m0, m1, m2, m3, m4, _, _, _, _, _⟩ := row5 hn
   clear hn
   generalize (fl (.mk zk zp zs9 zA zc zw zB zd zz)).l = q at *
   cases q
   ·have HYS2 := Lib.hid (HYS.out rfl)
    clear HIN HYS
    go_wp2_with fail
    refine (HC.out _ HB1.out).mono ?_
    rintro e w4 ⟨rfl, hb⟩
    have HW4 := Lib.hid (HB1.out.trans (hb.mono HB1.out.size))
    clear hb
    go_wp2_with fail
    go_ret
    exact ⟨ret_eq (bool_eq HYS2.out.symm), HW4.out⟩
   ·have HIN2 := Lib.hid (HIN.out rfl)
    clear HIN HYS
    go_wp2_with fail
    refine (HC.out _ HB1.out).mono ?_
    rintro e w4 ⟨rfl, hb⟩
    have HW4 := Lib.hid (HB1.out.trans (hb.mono HB1.out.size))
    clear hb
    go_wp2_with fail
    go_roundw
    case rel => exact ⟨i + 1, by omega, by go_num, HIN2, HW4⟩
    case measure => simp [intOf]; omega
  ·obtain rfl : i = n := by omega
   have HNO := Lib.hid (HMISS.out HB.out)
   go_wp2_with fail
   go_ret
   exact ⟨ret_eq (bool_eq HNO.out.symm), HW.out⟩
end Go.Proofs.YtkgonoejnochjaaGreatDoor
namespace Go.Proofs.YtkgonoejnochjaaGreatDoor
open Go.RowKit LX TR TM
set_option maxRecDepth 100000 in
set_option maxHeartbeats 3200000 in
theorem all10_2 (A : Option Addr) (c : Nat) (zs : List Nd) (hn : zs.length ≤ 1099511627776) (w : World) (hnd : Nods w w.heap.size zs) (hA : Sl w w.heap.size A (ncs zs))
 (hF : ∀ z ∈ zs, z.ws.length ≤ 1099511627776) :
 Calls Tryz.prog 42 #[.int .i64 2, .slice A zs.length c] w fun e w' => e = .returned (.bool (zs.all fun y => (fl y).ru)) ∧ Below w.heap.size w w' := by
 have HA := Lib.hid hA; clear hA
 have HND := Lib.hid hnd; clear hnd
 have HFF : Hid (∀ i, i < zs.length → zs.getD i n0 ∈ zs) := fun i hi => by
  rw [List.getD_eq_getElem?_getD, List.getElem?_eq_getElem hi]
  exact List.getElem_mem hi
 have HF := Lib.hid hF; clear hF
 have HHIT : Hid (∀ i, i < zs.length → (fl (zs.getD i n0)).ru = false → (zs.all fun y => (fl y).ru) = false) := fun i hi h => by
  rw [List.all_eq_false]
  exact ⟨_, HFF.out i hi, by rw [h]; simp⟩
 have HMISS : Hid ((∀ j, j < zs.length → (fl (zs.getD j n0)).ru = true) → (zs.all fun y => (fl y).ru) = true) := fun h => by
  rw [List.all_eq_true]
  intro x hx
  obtain ⟨j, hj, rfl⟩ := List.mem_iff_getElem.1 hx
  have := h j hj
  rw [List.getD_eq_getElem?_getD, List.getElem?_eq_getElem hj, Option.getD_some] at this
  exact this
 generalize (zs.all fun y => (fl y).ru) = R at *
 generalize hm : zs.length = n at *
 have HN := Lib.hid hm; clear hm
 go_enter Tryz.func42, Tryz.ntmps42
 go_wp2_with fail
 go_loopw [5, 6, 7] (fun iv _ _ wr => ∃ i : Nat, i ≤ n ∧ iv = .int .i64 i ∧ Hid (∀ j, j < i → (fl (zs.getD j n0)).ru = true) ∧ Hid (Below w.heap.size w wr)) (fun iv _ _ _ => n - (intOf iv).toNat)
 case atStart => exact ⟨0, by omega, rfl, fun j hj => by omega, Below.refl _ _⟩
 case round =>
  obtain ⟨i, hi, rfl, HB, HW⟩ := hrel
  by_cases hlt : i < n
  ·obtain ⟨bb, o, rfl, hbb, hc⟩ := sl_at (z := n0) ncells_length (HA.out.below HW.out) (k := i) (by rw [HN.out]; exact hlt) (by omega)
   have q0 := hc i 0 _ (by rw [HN.out]; exact hlt) (by omega) rfl
   have q1 := hc i 1 _ (by rw [HN.out]; exact hlt) (by omega) rfl
   have q2 := hc i 2 _ (by rw [HN.out]; exact hlt) (by omega) rfl
   have q3 := hc i 3 _ (by rw [HN.out]; exact hlt) (by omega) rfl
   have q4 := hc i 4 _ (by rw [HN.out]; exact hlt) (by omega) rfl
   rw [Nat.add_zero] at q0
   rw [← Nat.add_assoc] at q1 q2 q3 q4
   have HIN : Hid ((fl (zs.getD i n0)).ru = true → ∀ j, j < i + 1 → (fl (zs.getD j n0)).ru = true) := fun h j hj => by
        by_cases e : j = i
        ·rw [e]; exact h
        ·exact HB.out j (by omega)
   have HYS := Lib.hid (HHIT.out i hlt)
   have hin : (i : Int) < (n : Int) := by omega
   have HMM := Lib.hid (HFF.out i hlt)
   clear hc HB
   have HS := Lib.hid (HND.out _ (mem_all HMM.out))
   generalize zs.getD i n0 = z at *
   obtain ⟨zk, zp, zs9, zA, zc, zw, zB, zd, zz⟩ := z
   simp only [Nd.k, Nd.p, Nd.s, Nd.A, Nd.c, Nd.ws, Nd.B, Nd.d, Nd.ks] at q0 q1 q2 q3 q4 HS
   have HSW := Lib.hid (fun W (h : Below w.heap.size w W) => (HS.out.1.1.below h).mono h.size)
   have HSK := Lib.hid (fun W (h : Below w.heap.size w W) => (HS.out.2.1.below h).mono h.size)
   have hn := RowAt.new wr 28 #[.int .i64 zk, .int .i64 zp, .string zs9, .slice zA zw.length zc, .slice zB zz.length zd]
   have HB1 : Hid (Below w.heap.size w (wr.alloc (.cells #[.int .i64 zk, .int .i64 zp, .string zs9, .slice zA zw.length zc, .slice zB zz.length zd] 28))) := HW.out.alloc HW.out.size _
   have HRR := Lib.hid hn
   obtain ⟨m0, m1, m2, m3, m4, _, _, _, _, _⟩ := row5 hn
   clear hn
   have HRG := Lib.hid (refRight_any zs9)
   have hwl : zw.length ≤ 1099511627776 := HF.out _ HMM.out
   have HG := Lib.hid (fun W (h : Below w.heap.size w W) => right10_any zA zc zw hwl W (HSW.out W h))
   have HX : Hid ((fl (.mk zk zp zs9 zA zc zw zB zd zz)).ru = (decide (zk = 6) && (NM.right zs9 && (decide (zz.length = 0) && wrB zw)))) := by
        show ruB zk zs9 zw (fls zz).length = _
        rw [fls_length]; rfl
   rw [HX.out] at HYS HIN
   clear HX hwl
   generalize NM.right zs9 = r at *
   generalize wrB zw = rr at *
   generalize zw.length = nw at *
   generalize zz.length = nz at *
   by_cases hk : zk = 6
   ·subst hk
    cases r
    ·have HYS2 := Lib.hid (HYS.out (by simp))
     clear HIN HYS
     go_wp2_with fail
     refine (HRG.out _).mono ?_
     rintro e w4 ⟨rfl, hd⟩
     have HB4 := Lib.hid (HB1.out.trans (hd.below.mono HB1.out.size))
     have HRR4 := Lib.hid (HRR.out.below hd.below HRR.out.lt)
     obtain ⟨m0, m1, m2, m3, m4, _, _, _, _, _⟩ := row5 HRR4.out
     clear hd
     go_wp2_with fail
     go_ret
     exact ⟨ret_eq (bool_eq HYS2.out.symm), HB4.out⟩
    ·cases rr
     ·have HYS2 := Lib.hid (HYS.out (by simp))
      clear HIN HYS
      go_wp2_with fail
      refine (HRG.out _).mono ?_
      rintro e w4 ⟨rfl, hd⟩
      have HB4 := Lib.hid (HB1.out.trans (hd.below.mono HB1.out.size))
      have HRR4 := Lib.hid (HRR.out.below hd.below HRR.out.lt)
      obtain ⟨m0, m1, m2, m3, m4, _, _, _, _, _⟩ := row5 HRR4.out
      clear hd
      go_wp2_with fail
      refine (HG.out _ HB4.out).mono ?_
      rintro e w5 ⟨rfl, hd⟩
      have HB5 := Lib.hid (HB4.out.trans (hd.below.mono HB4.out.size))
      have HRR5 := Lib.hid (HRR4.out.below hd.below HRR4.out.lt)
      obtain ⟨m0, m1, m2, m3, m4, _, _, _, _, _⟩ := row5 HRR5.out
      clear hd
      go_wp2_with fail
      go_ret
      exact ⟨ret_eq (bool_eq HYS2.out.symm), HB5.out⟩
     ·by_cases hz : nz ≤ 0
      ·have qz : ((nz : Int) == 0) = true := by rw [beq_iff_eq]; omega
       have HIN2 := Lib.hid (HIN.out (by simp; omega))
       clear hz
       clear HIN HYS
       go_wp2_with fail
       refine (HRG.out _).mono ?_
       rintro e w4 ⟨rfl, hd⟩
       have HB4 := Lib.hid (HB1.out.trans (hd.below.mono HB1.out.size))
       have HRR4 := Lib.hid (HRR.out.below hd.below HRR.out.lt)
       obtain ⟨m0, m1, m2, m3, m4, _, _, _, _, _⟩ := row5 HRR4.out
       clear hd
       go_wp2_with fail
       refine (HG.out _ HB4.out).mono ?_
       rintro e w5 ⟨rfl, hd⟩
       have HB5 := Lib.hid (HB4.out.trans (hd.below.mono HB4.out.size))
       have HRR5 := Lib.hid (HRR4.out.below hd.below HRR4.out.lt)
       obtain ⟨m0, m1, m2, m3, m4, _, _, _, _, _⟩ := row5 HRR5.out
       clear hd
       go_wp2_with fail
       go_roundw
       case rel => exact ⟨i + 1, by omega, by go_num, HIN2, HB5⟩
       case measure => simp [intOf]; omega
      ·have qz : ((nz : Int) == 0) = false := by rw [beq_eq_false_iff_ne]; omega
       have HYS2 := Lib.hid (HYS.out (by simp; omega))
       clear HIN HYS
       go_wp2_with fail
       refine (HRG.out _).mono ?_
       rintro e w4 ⟨rfl, hd⟩
       have HB4 := Lib.hid (HB1.out.trans (hd.below.mono HB1.out.size))
       have HRR4 := Lib.hid (HRR.out.below hd.below HRR.out.lt)
       obtain ⟨m0, m1, m2, m3, m4, _, _, _, _, _⟩ := row5 HRR4.out
       clear hd
       go_wp2_with fail
       refine (HG.out _ HB4.out).mono ?_
       rintro e w5 ⟨rfl, hd⟩
       have HB5 := Lib.hid (HB4.out.trans (hd.below.mono HB4.out.size))
       have HRR5 := Lib.hid (HRR4.out.below hd.below HRR4.out.lt)
       obtain ⟨m0, m1, m2, m3, m4, _, _, _, _, _⟩ := row5 HRR5.out
       clear hd
       go_wp2_with fail
       go_ret
       exact ⟨ret_eq (bool_eq HYS2.out.symm), HB5.out⟩
   ·have q6 : (zk == 6) = false := by rw [beq_eq_false_iff_ne]; exact hk
    have HYS2 := Lib.hid (HYS.out (by simp [hk]))
    clear HIN HYS
    go_wp2_with fail
    go_ret
    exact ⟨ret_eq (bool_eq HYS2.out.symm), HB1.out⟩
  ·obtain rfl : i = n := by omega
   have HNO := Lib.hid (HMISS.out HB.out)
   go_wp2_with fail
   go_ret
   exact ⟨ret_eq (bool_eq HNO.out.symm), HW.out⟩
end Go.Proofs.YtkgonoejnochjaaGreatDoor
namespace Go.Proofs.YtkgonoejnochjaaGreatDoor
open Go.RowKit LX TR TM
theorem at7 (s : ByteArray) (ws : List Wd) (zz : List Nd) : lB 7 s ws (fls zz) = (decide (s = ⟨#[]⟩) && (decide (ws.length = 0) && (decide (zz.length = 1) && (fls zz).all (fun y => y.c)))) := by
 have h := fls_length zz
 by_cases h1 : zz.length = 1
 ·obtain ⟨x, rfl⟩ := List.length_eq_one_iff.1 h1
  rw [fls_cons]
  simp [lB, atB, brB, fls, Bool.and_assoc]
 ·simp [lB, atB, h, h1]
set_option maxRecDepth 100000 in
set_option maxHeartbeats 3200000 in
theorem isConst10_step (N : Nat) (hN : N < 4294967296) (ih : ∀ y, cnt [y] ≤ N → ∀ w, Nods w w.heap.size [y] → (Calls Tryz.prog 20 #[.agg (nv y)] w fun e w' => e = .returned (.bool (fl y).c) ∧ Below w.heap.size w w') ∧ Calls Tryz.prog 88 #[.agg (nv y)] w fun e w' => e = .returned (.bool (fl y).l) ∧ Below w.heap.size w w') (z : Nd) (hz : cnt [z] ≤ N + 1) (w : World) (hnd : Nods w w.heap.size [z]) :
 Calls Tryz.prog 20 #[.agg (nv z)] w fun e w' => e = .returned (.bool (fl z).c) ∧ Below w.heap.size w w' := by
 obtain ⟨zk, zp, zs, zA, zc, zw, zB, zd, zz⟩ := z
 have hn := RowAt.new w 28 #[.int .i64 zk, .int .i64 zp, .string zs, .slice zA zw.length zc, .slice zB zz.length zd]
 have hB : Below w.heap.size w (w.alloc (.cells #[.int .i64 zk, .int .i64 zp, .string zs, .slice zA zw.length zc, .slice zB zz.length zd] 28)) := (Below.refl _ _).alloc (Nat.le_refl _) _
 have HB := Lib.hid hB
 have HR := Lib.hid hn
 obtain ⟨m0, m1, m2, m3, m4, _, _, _, _, _⟩ := row5 hn
 have hcz : 1 + zw.length + cnt zz ≤ N + 1 := by rw [cnt_cons] at hz; simp only [cnt, Nat.add_zero] at hz; exact hz
 have hzl := length_cnt zz
 have HSW := Lib.hid (fun W (h : Below w.heap.size w W) => (hnd.at.1.1.below h).mono h.size)
 have HSK := Lib.hid (fun W (h : Below w.heap.size w W) => (hnd.at.2.1.below h).mono h.size)
 have HNK : Hid (∀ W, Below w.heap.size w W → Nods W W.heap.size zz) := fun W h => (hnd.kids.below h).mono h.size
 have HMM : Hid (∀ y ∈ zz, cnt [y] ≤ N) := fun y hy => by
  have h1 := cnt_mem hy
  rw [cnt_cons]
  simp only [cnt, Nat.add_zero]
  omega
 simp only [Nd.A, Nd.ws, Nd.B, Nd.ks] at HSW HSK
 have HRG := Lib.hid (refRight_any zs)
 have HRN := Lib.hid (fun W (h : Below w.heap.size w W) => right10_any zA zc zw (by omega) W (HSW.out W h))
 unfold nv
 simp only [Nd.k, Nd.p, Nd.s, Nd.A, Nd.c, Nd.ws, Nd.B, Nd.d, Nd.ks]
 have hfl := fls_length zz
 clear hn hB
 have HK1 := Lib.hid (fun W (h : Below w.heap.size w W) => all10_1 zB zd zz (by omega) W (HNK.out W h) (HSK.out W h) (fun y hy W' h' => (ih y (HMM.out y hy) W' (((HNK.out W h).mem hy).below h' |>.mono h'.size)).1))
 rw [← fls_all zz (fun y => y.c)] at HK1
 have HK2 := Lib.hid (fun W (h : Below w.heap.size w W) => all10_2 zB zd zz (by omega) W (HNK.out W h) (HSK.out W h) (fun y hy => by have h1 := cnt_mem hy; omega))
 rw [← fls_all zz (fun y => y.ru)] at HK2
 show Calls _ _ _ _ fun e w' => e = .returned (.bool (cB zk zs zw (fls zz))) ∧ _
 clear hnd ih hz
 by_cases h2 : zk = 2
 ·subst h2
  rw [show cB 2 zs zw (fls zz) = leafB zs zw zz.length by rw [← hfl]; simp [cB, lB, atB]]
  rw [show leafB zs zw zz.length = (NM.right zs && (decide (zw.length = 0) && decide (zz.length = 0))) from rfl]
  generalize NM.right zs = r at *
  generalize zw.length = nw at *
  generalize zz.length = nz at *
  cases r
  ·go_enter Tryz.func20, Tryz.ntmps20
   go_wp2_with fail
   refine (HRG.out _).mono ?_
   rintro e' w2 ⟨rfl, hb⟩
   have HB2 := Lib.hid (HB.out.trans (hb.below.mono HB.out.size))
   have HR2 := Lib.hid (HR.out.below hb.below HR.out.lt)
   obtain ⟨m0, m1, m2, m3, m4, _, _, _, _, _⟩ := row5 HR2.out
   clear hb
   go_wp2_with fail
   go_ret
   exact ⟨ret_eq (bool_eq (by rfl)), HB2.out⟩
  ·have hsum : IntKind.i64.wrap ((nw : Int) + (nz : Int)) = ((nw + nz : Nat) : Int) := by rw [IntWalk.i64_in _ ⟨by omega, by omega⟩]; omega
   by_cases hs0 : nw + nz ≤ 0
   ·have qz : (IntKind.i64.wrap ((nw : Int) + (nz : Int)) == 0) = true := by rw [beq_iff_eq, hsum]; omega
    have H0 := Lib.hid hs0
    clear hs0 hsum
    go_enter Tryz.func20, Tryz.ntmps20
    go_wp2_with fail
    refine (HRG.out _).mono ?_
    rintro e' w2 ⟨rfl, hb⟩
    have HB2 := Lib.hid (HB.out.trans (hb.below.mono HB.out.size))
    have HR2 := Lib.hid (HR.out.below hb.below HR.out.lt)
    obtain ⟨m0, m1, m2, m3, m4, _, _, _, _, _⟩ := row5 HR2.out
    clear hb
    go_wp2_with fail
    go_ret
    exact ⟨ret_eq (bool_eq (by have h9 := H0.out; have e9 : (decide (nw = 0) && decide (nz = 0)) = true := (by rw [Bool.and_eq_true]; simp only [decide_eq_true_eq]; omega); rw [Bool.true_and, e9]; first | rfl | exact qz | (simp; omega))), HB2.out⟩
   ·have qz : (IntKind.i64.wrap ((nw : Int) + (nz : Int)) == 0) = false := by rw [beq_eq_false_iff_ne, hsum]; omega
    clear hsum
    go_enter Tryz.func20, Tryz.ntmps20
    go_wp2_with fail
    refine (HRG.out _).mono ?_
    rintro e' w2 ⟨rfl, hb⟩
    have HB2 := Lib.hid (HB.out.trans (hb.below.mono HB.out.size))
    have HR2 := Lib.hid (HR.out.below hb.below HR.out.lt)
    obtain ⟨m0, m1, m2, m3, m4, _, _, _, _, _⟩ := row5 HR2.out
    clear hb
    go_wp2_with fail
    go_ret
    exact ⟨ret_eq (bool_eq (by have e9 : (decide (nw = 0) && decide (nz = 0)) = false := (by rw [Bool.and_eq_false_iff]; simp only [decide_eq_false_iff_not]; omega); rw [Bool.true_and, e9]; first | rfl | exact qz | (simp; omega))), HB2.out⟩
 ·by_cases h3 : zk = 3
  ·subst h3
   rw [show cB 3 zs zw (fls zz) = (decide (zs = ⟨#[]⟩) && (decide (zz.length = 0) && wrB zw)) by rw [← hfl]; simp [cB]]
   generalize wrB zw = rr at *
   generalize zw.length = nw at *
   generalize zz.length = nz at *
   by_cases hs : zs = ⟨#[]⟩
   ·subst hs
    cases rr
    ·go_enter Tryz.func20, Tryz.ntmps20
     go_wp2_with fail
     refine (HRN.out _ HB.out).mono ?_
     rintro e' w2 ⟨rfl, hb⟩
     have HB2 := Lib.hid (HB.out.trans (hb.below.mono HB.out.size))
     have HR2 := Lib.hid (HR.out.below hb.below HR.out.lt)
     obtain ⟨m0, m1, m2, m3, m4, _, _, _, _, _⟩ := row5 HR2.out
     clear hb
     go_wp2_with fail
     go_ret
     exact ⟨ret_eq (bool_eq (by simp)), HB2.out⟩
    ·by_cases hnz : nz ≤ 0
     ·have qz : ((nz : Int) == 0) = true := by rw [beq_iff_eq]; omega
      have HZ0 := Lib.hid hnz
      clear hnz
      go_enter Tryz.func20, Tryz.ntmps20
      go_wp2_with fail
      refine (HRN.out _ HB.out).mono ?_
      rintro e' w2 ⟨rfl, hb⟩
      have HB2 := Lib.hid (HB.out.trans (hb.below.mono HB.out.size))
      have HR2 := Lib.hid (HR.out.below hb.below HR.out.lt)
      obtain ⟨m0, m1, m2, m3, m4, _, _, _, _, _⟩ := row5 HR2.out
      clear hb
      go_wp2_with fail
      go_ret
      exact ⟨ret_eq (bool_eq (by have := HZ0.out; simp; omega)), HB2.out⟩
     ·have qz : ((nz : Int) == 0) = false := by rw [beq_eq_false_iff_ne]; omega
      go_enter Tryz.func20, Tryz.ntmps20
      go_wp2_with fail
      refine (HRN.out _ HB.out).mono ?_
      rintro e' w2 ⟨rfl, hb⟩
      have HB2 := Lib.hid (HB.out.trans (hb.below.mono HB.out.size))
      have HR2 := Lib.hid (HR.out.below hb.below HR.out.lt)
      obtain ⟨m0, m1, m2, m3, m4, _, _, _, _, _⟩ := row5 HR2.out
      clear hb
      go_wp2_with fail
      go_ret
      exact ⟨ret_eq (bool_eq (by simp; omega)), HB2.out⟩
   ·have p2 := empty_no hs
    have p3 := empty_no2 hs
    go_enter Tryz.func20, Tryz.ntmps20
    go_wp2_with fail
    go_ret
    exact ⟨ret_eq (bool_eq (by simp [hs])), HB.out⟩
  ·by_cases h4 : zk = 4
   ·subst h4
    rw [show cB 4 zs zw (fls zz) = (decide (zs = ⟨#[]⟩) && (decide (zw.length = 0) && (decide (0 < zz.length) && (fls zz).all (fun y => y.c)))) by rw [← hfl]; simp [cB, lB, brB, Bool.and_assoc]]
    generalize (fls zz).all (fun y => y.c) = rr at *
    generalize zw.length = nw at *
    generalize zz.length = nz at *
    by_cases hs : zs = ⟨#[]⟩
    ·subst hs
     by_cases hnw : nw ≤ 0
     ·have qw : ((nw : Int) == 0) = true := by rw [beq_iff_eq]; omega
      have HW0 : Hid (nw = 0) := (show nw = 0 by omega)
      clear hnw
      by_cases hnz : 0 < nz
      ·go_enter Tryz.func20, Tryz.ntmps20
       go_wp2_with fail
       refine (HK1.out _ HB.out).mono ?_
       rintro e' w2 ⟨rfl, hb⟩
       have HB2 := Lib.hid (HB.out.trans (hb.mono HB.out.size))
       have HR2 := Lib.hid (HR.out.below hb HR.out.lt)
       obtain ⟨m0, m1, m2, m3, m4, _, _, _, _, _⟩ := row5 HR2.out
       clear hb
       go_wp2_with fail
       go_ret
       exact ⟨ret_eq (bool_eq (by simp [HW0.out, hnz])), HB2.out⟩
      ·go_enter Tryz.func20, Tryz.ntmps20
       go_wp2_with fail
       go_ret
       exact ⟨ret_eq (bool_eq (by simp [hnz])), HB.out⟩
     ·have qw : ((nw : Int) == 0) = false := by rw [beq_eq_false_iff_ne]; omega
      have HW1 : Hid (¬ nw = 0) := (show ¬ nw = 0 by omega)
      go_enter Tryz.func20, Tryz.ntmps20
      go_wp2_with fail
      go_ret
      exact ⟨ret_eq (bool_eq (by simp [HW1.out])), HB.out⟩
    ·have p2 := empty_no hs
     have p3 := empty_no2 hs
     go_enter Tryz.func20, Tryz.ntmps20
     go_wp2_with fail
     go_ret
     exact ⟨ret_eq (bool_eq (by simp [hs])), HB.out⟩
   ·by_cases h5 : zk = 5
    ·subst h5
     rw [show cB 5 zs zw (fls zz) = (decide (zs = ⟨#[]⟩) && (decide (zw.length = 0) && (true && (fls zz).all (fun y => y.ru)))) by simp [cB, lB, brB, Bool.and_assoc]]
     generalize (fls zz).all (fun y => y.ru) = rr at *
     generalize zw.length = nw at *
     generalize zz.length = nz at *
     by_cases hs : zs = ⟨#[]⟩
     ·subst hs
      by_cases hnw : nw ≤ 0
      ·have qw : ((nw : Int) == 0) = true := by rw [beq_iff_eq]; omega
       have HW0 : Hid (nw = 0) := (show nw = 0 by omega)
       clear hnw
       go_enter Tryz.func20, Tryz.ntmps20
       go_wp2_with fail
       refine (HK2.out _ HB.out).mono ?_
       rintro e' w2 ⟨rfl, hb⟩
       have HB2 := Lib.hid (HB.out.trans (hb.mono HB.out.size))
       have HR2 := Lib.hid (HR.out.below hb HR.out.lt)
       obtain ⟨m0, m1, m2, m3, m4, _, _, _, _, _⟩ := row5 HR2.out
       clear hb
       go_wp2_with fail
       go_ret
       exact ⟨ret_eq (bool_eq (by simp [HW0.out])), HB2.out⟩
      ·have qw : ((nw : Int) == 0) = false := by rw [beq_eq_false_iff_ne]; omega
       have HW1 : Hid (¬ nw = 0) := (show ¬ nw = 0 by omega)
       go_enter Tryz.func20, Tryz.ntmps20
       go_wp2_with fail
       go_ret
       exact ⟨ret_eq (bool_eq (by simp [HW1.out])), HB.out⟩
     ·have p2 := empty_no hs
      have p3 := empty_no2 hs
      go_enter Tryz.func20, Tryz.ntmps20
      go_wp2_with fail
      go_ret
      exact ⟨ret_eq (bool_eq (by simp [hs])), HB.out⟩
    ·rw [show cB zk zs zw (fls zz) = false by simp [cB, lB, atB, h2, h3, h4, h5]]
     have q2 : (zk == 2) = false := by rw [beq_eq_false_iff_ne]; exact h2
     have q3 : (zk == 3) = false := by rw [beq_eq_false_iff_ne]; exact h3
     have q4 : (zk == 4) = false := by rw [beq_eq_false_iff_ne]; exact h4
     have q5 : (zk == 5) = false := by rw [beq_eq_false_iff_ne]; exact h5
     generalize zw.length = nw at *
     generalize zz.length = nz at *
     go_enter Tryz.func20, Tryz.ntmps20
     go_wp2_with fail
     go_ret
     exact ⟨ret_eq (bool_eq (by rfl)), HB.out⟩
set_option maxRecDepth 100000 in
set_option maxHeartbeats 3200000 in
theorem isLabel10_step (N : Nat) (hN : N < 4294967296) (ih : ∀ y, cnt [y] ≤ N → ∀ w, Nods w w.heap.size [y] → (Calls Tryz.prog 20 #[.agg (nv y)] w fun e w' => e = .returned (.bool (fl y).c) ∧ Below w.heap.size w w') ∧ Calls Tryz.prog 88 #[.agg (nv y)] w fun e w' => e = .returned (.bool (fl y).l) ∧ Below w.heap.size w w') (z : Nd) (hz : cnt [z] ≤ N + 1) (w : World) (hnd : Nods w w.heap.size [z]) :
 Calls Tryz.prog 88 #[.agg (nv z)] w fun e w' => e = .returned (.bool (fl z).l) ∧ Below w.heap.size w w' := by
 obtain ⟨zk, zp, zs, zA, zc, zw, zB, zd, zz⟩ := z
 have hn := RowAt.new w 28 #[.int .i64 zk, .int .i64 zp, .string zs, .slice zA zw.length zc, .slice zB zz.length zd]
 have hB : Below w.heap.size w (w.alloc (.cells #[.int .i64 zk, .int .i64 zp, .string zs, .slice zA zw.length zc, .slice zB zz.length zd] 28)) := (Below.refl _ _).alloc (Nat.le_refl _) _
 have HB := Lib.hid hB
 have HR := Lib.hid hn
 obtain ⟨m0, m1, m2, m3, m4, _, _, _, _, _⟩ := row5 hn
 have hcz : 1 + zw.length + cnt zz ≤ N + 1 := by rw [cnt_cons] at hz; simp only [cnt, Nat.add_zero] at hz; exact hz
 have hzl := length_cnt zz
 have HSW := Lib.hid (fun W (h : Below w.heap.size w W) => (hnd.at.1.1.below h).mono h.size)
 have HSK := Lib.hid (fun W (h : Below w.heap.size w W) => (hnd.at.2.1.below h).mono h.size)
 have HNK : Hid (∀ W, Below w.heap.size w W → Nods W W.heap.size zz) := fun W h => (hnd.kids.below h).mono h.size
 have HMM : Hid (∀ y ∈ zz, cnt [y] ≤ N) := fun y hy => by
  have h1 := cnt_mem hy
  rw [cnt_cons]
  simp only [cnt, Nat.add_zero]
  omega
 simp only [Nd.A, Nd.ws, Nd.B, Nd.ks] at HSW HSK
 have HRG := Lib.hid (refRight_any zs)
 have HRN := Lib.hid (fun W (h : Below w.heap.size w W) => right10_any zA zc zw (by omega) W (HSW.out W h))
 unfold nv
 simp only [Nd.k, Nd.p, Nd.s, Nd.A, Nd.c, Nd.ws, Nd.B, Nd.d, Nd.ks]
 have hfl := fls_length zz
 clear hn hB
 have HK1 := Lib.hid (fun W (h : Below w.heap.size w W) => all10_1 zB zd zz (by omega) W (HNK.out W h) (HSK.out W h) (fun y hy W' h' => (ih y (HMM.out y hy) W' (((HNK.out W h).mem hy).below h' |>.mono h'.size)).1))
 rw [← fls_all zz (fun y => y.c)] at HK1
 have HK3 := Lib.hid (fun W (h : Below w.heap.size w W) => all10_3 zB zd zz (by omega) W (HNK.out W h) (HSK.out W h) (fun y hy W' h' => (ih y (HMM.out y hy) W' (((HNK.out W h).mem hy).below h' |>.mono h'.size)).2))
 rw [← fls_all zz (fun y => y.l)] at HK3
 show Calls _ _ _ _ fun e w' => e = .returned (.bool (lB zk zs zw (fls zz))) ∧ _
 clear hnd ih hz
 by_cases h1 : zk = 1
 ·subst h1
  rw [show lB 1 zs zw (fls zz) = leafB zs zw zz.length by rw [← hfl]; simp [cB, lB, atB]]
  rw [show leafB zs zw zz.length = (NM.right zs && (decide (zw.length = 0) && decide (zz.length = 0))) from rfl]
  generalize NM.right zs = r at *
  generalize zw.length = nw at *
  generalize zz.length = nz at *
  cases r
  ·go_enter Tryz.func88, Tryz.ntmps88
   go_wp2_with fail
   refine (HRG.out _).mono ?_
   rintro e' w2 ⟨rfl, hb⟩
   have HB2 := Lib.hid (HB.out.trans (hb.below.mono HB.out.size))
   have HR2 := Lib.hid (HR.out.below hb.below HR.out.lt)
   obtain ⟨m0, m1, m2, m3, m4, _, _, _, _, _⟩ := row5 HR2.out
   clear hb
   go_wp2_with fail
   go_ret
   exact ⟨ret_eq (bool_eq (by rfl)), HB2.out⟩
  ·have hsum : IntKind.i64.wrap ((nw : Int) + (nz : Int)) = ((nw + nz : Nat) : Int) := by rw [IntWalk.i64_in _ ⟨by omega, by omega⟩]; omega
   by_cases hs0 : nw + nz ≤ 0
   ·have qz : (IntKind.i64.wrap ((nw : Int) + (nz : Int)) == 0) = true := by rw [beq_iff_eq, hsum]; omega
    have H0 := Lib.hid hs0
    clear hs0 hsum
    go_enter Tryz.func88, Tryz.ntmps88
    go_wp2_with fail
    refine (HRG.out _).mono ?_
    rintro e' w2 ⟨rfl, hb⟩
    have HB2 := Lib.hid (HB.out.trans (hb.below.mono HB.out.size))
    have HR2 := Lib.hid (HR.out.below hb.below HR.out.lt)
    obtain ⟨m0, m1, m2, m3, m4, _, _, _, _, _⟩ := row5 HR2.out
    clear hb
    go_wp2_with fail
    go_ret
    exact ⟨ret_eq (bool_eq (by have h9 := H0.out; have e9 : (decide (nw = 0) && decide (nz = 0)) = true := (by rw [Bool.and_eq_true]; simp only [decide_eq_true_eq]; omega); rw [Bool.true_and, e9]; first | rfl | exact qz | (simp; omega))), HB2.out⟩
   ·have qz : (IntKind.i64.wrap ((nw : Int) + (nz : Int)) == 0) = false := by rw [beq_eq_false_iff_ne, hsum]; omega
    clear hsum
    go_enter Tryz.func88, Tryz.ntmps88
    go_wp2_with fail
    refine (HRG.out _).mono ?_
    rintro e' w2 ⟨rfl, hb⟩
    have HB2 := Lib.hid (HB.out.trans (hb.below.mono HB.out.size))
    have HR2 := Lib.hid (HR.out.below hb.below HR.out.lt)
    obtain ⟨m0, m1, m2, m3, m4, _, _, _, _, _⟩ := row5 HR2.out
    clear hb
    go_wp2_with fail
    go_ret
    exact ⟨ret_eq (bool_eq (by have e9 : (decide (nw = 0) && decide (nz = 0)) = false := (by rw [Bool.and_eq_false_iff]; simp only [decide_eq_false_iff_not]; omega); rw [Bool.true_and, e9]; first | rfl | exact qz | (simp; omega))), HB2.out⟩
 ·by_cases h7 : zk = 7
  ·subst h7
   rw [show lB 7 zs zw (fls zz) = (decide (zs = ⟨#[]⟩) && (decide (zw.length = 0) && (decide (zz.length = 1) && (fls zz).all (fun y => y.c)))) from at7 zs zw zz]
   generalize (fls zz).all (fun y => y.c) = rr at *
   generalize zw.length = nw at *
   generalize zz.length = nz at *
   by_cases hs : zs = ⟨#[]⟩
   ·subst hs
    by_cases hnw : nw ≤ 0
    ·have qw : ((nw : Int) == 0) = true := by rw [beq_iff_eq]; omega
     have HW0 : Hid (nw = 0) := (show nw = 0 by omega)
     clear hnw
     by_cases hnz : nz = 1
     ·have qz : ((nz : Int) == 1) = true := by rw [beq_iff_eq]; omega
      have HZ1 := Lib.hid hnz
      clear hnz
      go_enter Tryz.func88, Tryz.ntmps88
      go_wp2_with fail
      refine (HK1.out _ HB.out).mono ?_
      rintro e' w2 ⟨rfl, hb⟩
      have HB2 := Lib.hid (HB.out.trans (hb.mono HB.out.size))
      have HR2 := Lib.hid (HR.out.below hb HR.out.lt)
      obtain ⟨m0, m1, m2, m3, m4, _, _, _, _, _⟩ := row5 HR2.out
      clear hb
      go_wp2_with fail
      go_ret
      exact ⟨ret_eq (bool_eq (by simp [HW0.out, HZ1.out])), HB2.out⟩
     ·have qz : ((nz : Int) == 1) = false := by rw [beq_eq_false_iff_ne]; omega
      go_enter Tryz.func88, Tryz.ntmps88
      go_wp2_with fail
      go_ret
      exact ⟨ret_eq (bool_eq (by simp [hnz])), HB.out⟩
    ·have qw : ((nw : Int) == 0) = false := by rw [beq_eq_false_iff_ne]; omega
     have HW1 : Hid (¬ nw = 0) := (show ¬ nw = 0 by omega)
     go_enter Tryz.func88, Tryz.ntmps88
     go_wp2_with fail
     go_ret
     exact ⟨ret_eq (bool_eq (by simp [HW1.out])), HB.out⟩
   ·have p2 := empty_no hs
    have p3 := empty_no2 hs
    go_enter Tryz.func88, Tryz.ntmps88
    go_wp2_with fail
    go_ret
    exact ⟨ret_eq (bool_eq (by simp [hs])), HB.out⟩
  ·by_cases h8 : zk = 8
   ·subst h8
    rw [show lB 8 zs zw (fls zz) = (decide (zs = ⟨#[]⟩) && (decide (zw.length = 0) && (decide (0 < zz.length) && (fls zz).all (fun y => y.l)))) by rw [← hfl]; simp [cB, lB, brB, Bool.and_assoc]]
    generalize (fls zz).all (fun y => y.l) = rr at *
    generalize zw.length = nw at *
    generalize zz.length = nz at *
    by_cases hs : zs = ⟨#[]⟩
    ·subst hs
     by_cases hnw : nw ≤ 0
     ·have qw : ((nw : Int) == 0) = true := by rw [beq_iff_eq]; omega
      have HW0 : Hid (nw = 0) := (show nw = 0 by omega)
      clear hnw
      by_cases hnz : 0 < nz
      ·go_enter Tryz.func88, Tryz.ntmps88
       go_wp2_with fail
       refine (HK3.out _ HB.out).mono ?_
       rintro e' w2 ⟨rfl, hb⟩
       have HB2 := Lib.hid (HB.out.trans (hb.mono HB.out.size))
       have HR2 := Lib.hid (HR.out.below hb HR.out.lt)
       obtain ⟨m0, m1, m2, m3, m4, _, _, _, _, _⟩ := row5 HR2.out
       clear hb
       go_wp2_with fail
       go_ret
       exact ⟨ret_eq (bool_eq (by simp [HW0.out, hnz])), HB2.out⟩
      ·go_enter Tryz.func88, Tryz.ntmps88
       go_wp2_with fail
       go_ret
       exact ⟨ret_eq (bool_eq (by simp [hnz])), HB.out⟩
     ·have qw : ((nw : Int) == 0) = false := by rw [beq_eq_false_iff_ne]; omega
      have HW1 : Hid (¬ nw = 0) := (show ¬ nw = 0 by omega)
      go_enter Tryz.func88, Tryz.ntmps88
      go_wp2_with fail
      go_ret
      exact ⟨ret_eq (bool_eq (by simp [HW1.out])), HB.out⟩
    ·have p2 := empty_no hs
     have p3 := empty_no2 hs
     go_enter Tryz.func88, Tryz.ntmps88
     go_wp2_with fail
     go_ret
     exact ⟨ret_eq (bool_eq (by simp [hs])), HB.out⟩
   ·by_cases h9 : zk = 9
    ·subst h9
     rw [show lB 9 zs zw (fls zz) = (decide (zs = ⟨#[]⟩) && (decide (zw.length = 0) && (decide (0 < zz.length) && (fls zz).all (fun y => y.l)))) by rw [← hfl]; simp [cB, lB, brB, Bool.and_assoc]]
     generalize (fls zz).all (fun y => y.l) = rr at *
     generalize zw.length = nw at *
     generalize zz.length = nz at *
     by_cases hs : zs = ⟨#[]⟩
     ·subst hs
      by_cases hnw : nw ≤ 0
      ·have qw : ((nw : Int) == 0) = true := by rw [beq_iff_eq]; omega
       have HW0 : Hid (nw = 0) := (show nw = 0 by omega)
       clear hnw
       by_cases hnz : 0 < nz
       ·go_enter Tryz.func88, Tryz.ntmps88
        go_wp2_with fail
        refine (HK3.out _ HB.out).mono ?_
        rintro e' w2 ⟨rfl, hb⟩
        have HB2 := Lib.hid (HB.out.trans (hb.mono HB.out.size))
        have HR2 := Lib.hid (HR.out.below hb HR.out.lt)
        obtain ⟨m0, m1, m2, m3, m4, _, _, _, _, _⟩ := row5 HR2.out
        clear hb
        go_wp2_with fail
        go_ret
        exact ⟨ret_eq (bool_eq (by simp [HW0.out, hnz])), HB2.out⟩
       ·go_enter Tryz.func88, Tryz.ntmps88
        go_wp2_with fail
        go_ret
        exact ⟨ret_eq (bool_eq (by simp [hnz])), HB.out⟩
      ·have qw : ((nw : Int) == 0) = false := by rw [beq_eq_false_iff_ne]; omega
       have HW1 : Hid (¬ nw = 0) := (show ¬ nw = 0 by omega)
       go_enter Tryz.func88, Tryz.ntmps88
       go_wp2_with fail
       go_ret
       exact ⟨ret_eq (bool_eq (by simp [HW1.out])), HB.out⟩
     ·have p2 := empty_no hs
      have p3 := empty_no2 hs
      go_enter Tryz.func88, Tryz.ntmps88
      go_wp2_with fail
      go_ret
      exact ⟨ret_eq (bool_eq (by simp [hs])), HB.out⟩
    ·rw [show lB zk zs zw (fls zz) = false by simp [cB, lB, atB, h1, h7, h8, h9]]
     have q1 : (zk == 1) = false := by rw [beq_eq_false_iff_ne]; exact h1
     have q7 : (zk == 7) = false := by rw [beq_eq_false_iff_ne]; exact h7
     have q8 : (zk == 8) = false := by rw [beq_eq_false_iff_ne]; exact h8
     have q9 : (zk == 9) = false := by rw [beq_eq_false_iff_ne]; exact h9
     generalize zw.length = nw at *
     generalize zz.length = nz at *
     go_enter Tryz.func88, Tryz.ntmps88
     go_wp2_with fail
     go_ret
     exact ⟨ret_eq (bool_eq (by rfl)), HB.out⟩
theorem is10_any : ∀ N, N ≤ 4294967296 → ∀ y, cnt [y] ≤ N → ∀ w, Nods w w.heap.size [y] → (Calls Tryz.prog 20 #[.agg (nv y)] w fun e w' => e = .returned (.bool (fl y).c) ∧ Below w.heap.size w w') ∧ Calls Tryz.prog 88 #[.agg (nv y)] w fun e w' => e = .returned (.bool (fl y).l) ∧ Below w.heap.size w w' := by
 intro N
 induction N with
 | zero => intro _ z hz; rw [cnt_cons] at hz; omega
 | succ N ih => intro h z hz w hw; exact ⟨isConst10_step N (by omega) (ih (by omega)) z hz w hw, isLabel10_step N (by omega) (ih (by omega)) z hz w hw⟩
end Go.Proofs.YtkgonoejnochjaaGreatDoor
namespace Go.Proofs.YtkgonoejnochjaaGreatDoor
open Go.RowKit LX TR TM
end Go.Proofs.YtkgonoejnochjaaGreatDoor
namespace Go.Proofs.YtkgonoejnochjaaGreatDoor
open Go.RowKit LX TR TM
theorem cnt_take (zz : List Nd) (i : Nat) (h : i < zz.length) : cnt (zz.take i) + cnt [zz.getD i n0] = cnt (zz.take (i + 1)) := by
 rw [List.take_add_one, cnt_append, List.getD_eq_getElem?_getD, List.getElem?_eq_getElem h]
 rfl
theorem cnt_take_le (zz : List Nd) (i : Nat) : cnt (zz.take i) ≤ cnt zz := by
 have h := cnt_append (zz.take i) (zz.drop i)
 rw [List.take_append_drop] at h
 omega
set_option maxRecDepth 100000 in
set_option maxHeartbeats 1600000 in
theorem many10_step (N : Nat) (hN : N < 4294967296) (ih : ∀ y, cnt [y] ≤ N → ∀ w, Nods w w.heap.size [y] → Calls Tryz.prog 21 #[.agg (nv y)] w fun e w' => e = .returned (.int .i64 (cnt [y] : Int)) ∧ Below w.heap.size w w') (z : Nd) (hz : cnt [z] ≤ N + 1) (w : World) (hnd : Nods w w.heap.size [z]) :
 Calls Tryz.prog 21 #[.agg (nv z)] w fun e w' => e = .returned (.int .i64 (cnt [z] : Int)) ∧ Below w.heap.size w w' := by
 obtain ⟨zk, zp, zs, zA, zc, zw, zB, zd, zz⟩ := z
 have hcz : cnt [Nd.mk zk zp zs zA zc zw zB zd zz] = 1 + zw.length + cnt zz := by rw [cnt_cons]; simp only [cnt, Nat.add_zero]; rfl
 rw [hcz] at hz ⊢
 have hn := RowAt.new w 28 #[.int .i64 zk, .int .i64 zp, .string zs, .slice zA zw.length zc, .slice zB zz.length zd]
 have hB : Below w.heap.size w (w.alloc (.cells #[.int .i64 zk, .int .i64 zp, .string zs, .slice zA zw.length zc, .slice zB zz.length zd] 28)) := (Below.refl _ _).alloc (Nat.le_refl _) _
 have HNK : Hid (∀ W, Below w.heap.size w W → Nods W W.heap.size zz) := fun W h => (hnd.kids.below h).mono h.size
 have HSK : Hid (∀ W, Below w.heap.size w W → Sl W W.heap.size zB (ncs zz)) := fun W h => (hnd.at.2.1.below h).mono h.size
 have HC : Hid (∀ i, i < zz.length → ∀ W, Below w.heap.size w W → Calls Tryz.prog 21 #[.agg (nv (zz.getD i n0))] W fun e w' => e = .returned (.int .i64 (cnt [zz.getD i n0] : Int)) ∧ Below W.heap.size W w') := fun i hi W h => by
  have hm : zz.getD i n0 ∈ zz := by
   rw [List.getD_eq_getElem?_getD, List.getElem?_eq_getElem hi]
   exact List.getElem_mem hi
  refine ih _ ?_ W ((HNK.out W h).mem hm)
  have h1 := cnt_mem hm
  rw [cnt_cons]
  simp only [cnt, Nat.add_zero]
  omega
 have HT : Hid (∀ i, i < zz.length → (1 + zw.length + cnt (zz.take i)) + cnt [zz.getD i n0] = 1 + zw.length + cnt (zz.take (i + 1)) ∧ 1 + zw.length + cnt (zz.take (i + 1)) ≤ 1 + zw.length + cnt zz) := fun i hi => by
  have h1 := cnt_take zz i hi
  have h2 := cnt_take_le zz (i + 1)
  omega
 have HE : Hid (1 + zw.length + cnt (zz.take zz.length) = 1 + zw.length + cnt zz) := by show _ = _; rw [List.take_length]
 have H0 : Hid (1 + zw.length = 1 + zw.length + cnt (zz.take 0)) := by show _ = _; simp [cnt]
 have hzl := length_cnt zz
 have hn32 : zz.length ≤ 4294967296 := by omega
 have hw32 : zw.length ≤ 4294967296 := by omega
 unfold nv
 simp only [Nd.k, Nd.p, Nd.s, Nd.A, Nd.c, Nd.ws, Nd.B, Nd.d, Nd.ks]
 generalize hm : zz.length = n at *
 have HN := Lib.hid hm
 clear hm
 generalize ht : 1 + zw.length + cnt zz = T at *
 clear ht hcz hnd ih
 have hw1 : w.heap.size < (w.alloc (.cells #[.int .i64 zk, .int .i64 zp, .string zs, .slice zA zw.length zc, .slice zB n zd] 28)).heap.size := hn.lt
 generalize hW1 : (w.alloc (.cells #[.int .i64 zk, .int .i64 zp, .string zs, .slice zA zw.length zc, .slice zB n zd] 28)) = w1 at *
 have HW1 := Lib.hid hW1
 clear hW1
 have HR := Lib.hid hn
 have HB := Lib.hid hB
 obtain ⟨m0, m1, m2, m3, m4, _, _, _, _, _⟩ := row5 hn
 clear hn hB
 go_enter Tryz.func21, Tryz.ntmps21
 go_wp2_with fail
 try rw [HW1.out]
 go_wp2_with fail
 go_loopw [3, 4] (fun kv iv wr => ∃ i : Nat, i ≤ n ∧ iv = .int .i64 i ∧ kv = .int .i64 ((1 + zw.length + cnt (zz.take i) : Nat) : Int) ∧ Hid (Below w1.heap.size w1 wr)) (fun _ iv _ => n - (intOf iv).toNat)
 case atStart => exact ⟨0, by omega, rfl, by rw [← H0.out]; go_num, Below.refl _ _⟩
 case round =>
  obtain ⟨i, hi, rfl, rfl, HW⟩ := hrel
  have HBW := Lib.hid (HB.out.trans (HW.out.mono HB.out.size))
  obtain ⟨m0, m1, m2, m3, m4, _, _, _, _, _⟩ := row5 (HR.out.below HW.out hw1)
  by_cases hlt : i < n
  ·obtain ⟨bb, o, rfl, hbb, hc⟩ := sl_at (z := n0) ncells_length (HSK.out wr HBW.out) (k := i) (by rw [HN.out]; exact hlt) (by omega)
   have q0 := hc i 0 _ (by rw [HN.out]; exact hlt) (by omega) rfl
   have q1 := hc i 1 _ (by rw [HN.out]; exact hlt) (by omega) rfl
   have q2 := hc i 2 _ (by rw [HN.out]; exact hlt) (by omega) rfl
   have q3 := hc i 3 _ (by rw [HN.out]; exact hlt) (by omega) rfl
   have q4 := hc i 4 _ (by rw [HN.out]; exact hlt) (by omega) rfl
   rw [Nat.add_zero] at q0
   rw [← Nat.add_assoc] at q1 q2 q3 q4
   have hin : (i : Int) < (n : Int) := by omega
   have HD := Lib.hid (HC.out i hlt wr HBW.out)
   obtain ⟨ha, hb2⟩ := HT.out i hlt
   have HA := Lib.hid ha
   have hs : (1 + zw.length + cnt (zz.take i)) + cnt [zz.getD i n0] ≤ 4294967296 := by omega
   clear hc ha hb2
   generalize 1 + zw.length + cnt (zz.take i) = a at *
   generalize cnt [zz.getD i n0] = d at *
   generalize zz.getD i n0 = x at *
   obtain ⟨xk, xp, xs, xA, xc, xw, xB, xd, xx⟩ := x
   unfold nv at HD
   simp only [Nd.k, Nd.p, Nd.s, Nd.A, Nd.c, Nd.ws, Nd.B, Nd.d, Nd.ks] at q0 q1 q2 q3 q4 HD
   go_wp2_with fail
   refine HD.out.mono ?_
   rintro e w4 ⟨rfl, hb⟩
   have HW4 : Hid (Below w1.heap.size w1 w4) := HW.out.trans (hb.mono HW.out.size)
   clear hb
   go_wp2_with fail
   go_roundw
   case rel => exact ⟨i + 1, by omega, by go_num, by rw [← HA.out]; go_num, HW4⟩
   case measure => simp [intOf]; omega
  ·obtain rfl : i = n := by omega
   rw [HE.out]
   go_wp2_with fail
   go_ret
   exact ⟨rfl, HBW.out⟩
theorem many10_any : ∀ N, N ≤ 4294967296 → ∀ y, cnt [y] ≤ N → ∀ w, Nods w w.heap.size [y] → Calls Tryz.prog 21 #[.agg (nv y)] w fun e w' => e = .returned (.int .i64 (cnt [y] : Int)) ∧ Below w.heap.size w w' := by
 intro N
 induction N with
 | zero => intro _ z hz; rw [cnt_cons] at hz; omega
 | succ N ih => intro h z hz; exact many10_step N (by omega) (ih (by omega)) z hz
end Go.Proofs.YtkgonoejnochjaaGreatDoor

