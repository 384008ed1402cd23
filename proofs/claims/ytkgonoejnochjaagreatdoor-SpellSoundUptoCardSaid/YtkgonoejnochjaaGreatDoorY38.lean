/- Texts that SpellBackCard, SpellSoundCard need. Conditions: those that each states. -/
import Derived.Lib.SlBytesRow
import Derived.Test.YtkgonoejnochjaaGreatDoorY23
import Derived.Test.YtkgonoejnochjaaGreatDoorY33
import Derived.Test.YtkgonoejnochjaaGreatDoorY37
set_option linter.unusedSimpArgs false
set_option linter.unusedVariables false
set_option maxRecDepth 8000
namespace Go.Proofs.YtkgonoejnochjaaGreatDoor
open RM
theorem sub_ob {a b : Nat} : MM.subN a b = true ↔ ∀ o x, o < 8 → x < 8 → ob a o x = true → ob b o x = true := by
 unfold MM.subN
 rw [List.all_eq_true]
 constructor
 ·intro h o x ho hx h1
  exact h (8 * o + x) (MM.mem_els.2 ⟨by omega, h1⟩)
 ·intro h i hi
  obtain ⟨h1, h2⟩ := MM.mem_els.1 hi
  have := h (i / 8) (i % 8) (by omega) (by omega)
  unfold ob at this
  rw [show 8 * (i / 8) + i % 8 = i by omega] at this
  exact this h2
theorem clW_least {p : Nat} {S : Nat → Nat → Bool} {v b : Nat} (hp : p ≤ 8) (hd : Dcl p S b) (h : ∀ o x, o < p → x < p → ob v o x = true → ob b o x = true) : MM.subN (clW p S v) b = true :=
 sub_ob.2 fun o x ho hx h1 => by
  obtain ⟨h2, h3⟩ := clW_tight p S v o x ho hx h1
  obtain ⟨q, y, hq, hy, h4, h5, h6⟩ := (clW_iff hp h2 h3).1 h1
  exact hd o x q y h2 h3 hq hy (h q y hq hy h4) h5 h6
end Go.Proofs.YtkgonoejnochjaaGreatDoor
namespace Go.Proofs.YtkgonoejnochjaaGreatDoor
open Go.RowKit RM
end Go.Proofs.YtkgonoejnochjaaGreatDoor
namespace Go.Proofs.YtkgonoejnochjaaGreatDoor
open Go.RowKit RM
end Go.Proofs.YtkgonoejnochjaaGreatDoor
namespace Go.Proofs.YtkgonoejnochjaaGreatDoor
open Go.RowKit RM
end Go.Proofs.YtkgonoejnochjaaGreatDoor
namespace Go.Proofs.YtkgonoejnochjaaGreatDoor
open Go.RowKit RM
end Go.Proofs.YtkgonoejnochjaaGreatDoor
namespace Go.Proofs.YtkgonoejnochjaaGreatDoor
open Go.RowKit RM
end Go.Proofs.YtkgonoejnochjaaGreatDoor
namespace Go.Proofs.YtkgonoejnochjaaGreatDoor
namespace LX
def rightT (t : Tk) : Bool := if t.k = 97 then NM.right t.s else signB t.k && (decide (t.s.size = 1) && decide (bt t.s 0 = t.k))
end LX
end Go.Proofs.YtkgonoejnochjaaGreatDoor
namespace Go.Proofs.YtkgonoejnochjaaGreatDoor
open Go.RowKit LX
end Go.Proofs.YtkgonoejnochjaaGreatDoor
namespace Go.Proofs.YtkgonoejnochjaaGreatDoor
open Go.RowKit LX
section
variable {w w' : World} {A : Option Addr} {l : List Tk}
end
end Go.Proofs.YtkgonoejnochjaaGreatDoor
namespace Go.Proofs.YtkgonoejnochjaaGreatDoor
open Go.RowKit LX
end Go.Proofs.YtkgonoejnochjaaGreatDoor
namespace Go.Proofs.YtkgonoejnochjaaGreatDoor
open Go.RowKit LX
end Go.Proofs.YtkgonoejnochjaaGreatDoor
namespace Go.Proofs.YtkgonoejnochjaaGreatDoor
namespace TM
open LX TR
theorem nodes_drop (l : List Tr) (m : Nat) : (nodes (l.drop m)).length ≤ (nodes l).length := by
 have := congrArg List.length (nodes_append (l.take m) (l.drop m))
 rw [List.take_append_drop, List.length_append] at this
 omega
theorem Adv.nodes {l : List Tr} {i i2 : Int} (h : Adv l i i2) : (nodes (rest l i2)).length ≤ (nodes (rest l i)).length := by
 obtain ⟨m, _, _, hr⟩ := h.drop
 rw [hr]; exact nodes_drop _ _
section
variable {α β γ : Type} {rd : Rdr α} {l : List Tr} {i e : Int} {f : Option Int} {x : α} {i2 : Int} {f2 : Option Int}
end
section
variable {α : Type} {rd : Rdr α} {l : List Tr} {i e : Int} {f : Option Int} {x : α} {xs : List α} {i2 i3 i4 : Int} {f2 f3 f4 : Option Int} {t : Tk}
end
end TM
end Go.Proofs.YtkgonoejnochjaaGreatDoor
namespace Go.Proofs.YtkgonoejnochjaaGreatDoor
open Go.RowKit LX TR TM
section
variable {b B : Nat} {w w' w2 : World}
end
section
variable {w : World} {b : Nat} {A : Option Addr} {n c : Nat} {i e x y : Int}
end
end Go.Proofs.YtkgonoejnochjaaGreatDoor
namespace Go.Proofs.YtkgonoejnochjaaGreatDoor
open Go.RowKit LX TR TM
end Go.Proofs.YtkgonoejnochjaaGreatDoor
namespace Go.Proofs.YtkgonoejnochjaaGreatDoor
open Go.RowKit LX TR TM
end Go.Proofs.YtkgonoejnochjaaGreatDoor
namespace Go.Proofs.YtkgonoejnochjaaGreatDoor
open Go.RowKit LX TR TM
section
variable {w w' : World} {ok ok' : Nat → Prop} {l m : List Nd} {x : Nd}
end
end Go.Proofs.YtkgonoejnochjaaGreatDoor
namespace Go.Proofs.YtkgonoejnochjaaGreatDoor
open Go.RowKit LX TR TM
end Go.Proofs.YtkgonoejnochjaaGreatDoor
namespace Go.Proofs.YtkgonoejnochjaaGreatDoor
open Go.RowKit LX TR TM
end Go.Proofs.YtkgonoejnochjaaGreatDoor
namespace Go.Proofs.YtkgonoejnochjaaGreatDoor
open Go.RowKit LX TR TM
end Go.Proofs.YtkgonoejnochjaaGreatDoor
namespace Go.Proofs.YtkgonoejnochjaaGreatDoor
open Go.RowKit RM
def orF (f : Nat → Nat) (xs : List Nat) : Nat := xs.foldl (fun a q => a ||| f q) 0
theorem orF_lt {f : Nat → Nat} (hf : ∀ q, f q < 18446744073709551616) (xs : List Nat) : orF f xs < 18446744073709551616 := by
 suffices ∀ (xs : List Nat) (a : Nat), a < 2 ^ 64 → xs.foldl (fun a q => a ||| f q) a < 2 ^ 64 from this xs 0 (by omega)
 intro xs
 induction xs with
 | nil => intro a ha; exact ha
 | cons i xs ih => intro a ha; exact ih _ (Nat.or_lt_two_pow ha (hf i))
theorem orF_bit (f : Nat → Nat) (xs : List Nat) (j : Nat) : (orF f xs).testBit j = xs.any fun q => (f q).testBit j := by
 suffices ∀ (xs : List Nat) (a : Nat), (xs.foldl (fun a q => a ||| f q) a).testBit j = (a.testBit j || xs.any fun q => (f q).testBit j) by
  have := this xs 0
  simpa [orF] using this
 intro xs
 induction xs with
 | nil => intro a; simp
 | cons i xs ih => intro a; rw [List.foldl_cons, ih, Nat.testBit_or, List.any_cons, Bool.or_assoc]
theorem back_eq {n : Int} {l : List Nat} (v : Nat) (hri : rightB n l = true) :
 orF (fun o => gRule n l (o : Int) (gReaders n l (gClose n l v) (o : Int))) (MM.els (gOwners n l (gClose n l v))) = gClose n l v := by
 obtain ⟨p, h1, hp, hn, hpp, _⟩ := right_has hri
 have hS := right_closed hri
 rw [hpp] at hS
 have hc : gClose n l v = clW p (bt l) v := by unfold gClose; rw [hri, hpp]; rfl
 have hd := clW_dcl hp hS v
 have ht := clW_tight p (bt l) v
 have hlt := clW_lt p (bt l) v
 rw [hc]
 generalize clW p (bt l) v = c at *
 have hrd : ∀ q, q < p → ∀ y, y < p → (gReaders n l c (q : Int)).testBit y = !ob c q y := fun q hq y hy => by
  unfold gReaders
  rw [hri, isPt_nat, hpp, show decide (q < p) = true by simpa using hq]
  simp only [Bool.and_self, if_true, Int.toNat_natCast]
  exact ofP_at (by omega) hy
 have hru : ∀ q, q < p → ∀ s, gRule n l (q : Int) s = clW p (bt l) (ruleW p (bt l) q s) := fun q hq s => by
  unfold gRule
  rw [hri, isPt_nat, hpp, show decide (q < p) = true by simpa using hq]
  simp only [Bool.and_self, if_true, Int.toNat_natCast]
 have hrw : ∀ q s a y, a < p → y < p → ob (ruleW p (bt l) q s) a y = (decide (a = q) && !rdP p (bt l) s y) := fun q s a y ha hy => ob_in hp ha hy
 have hrp : ∀ s y, rdP p (bt l) s y = true ↔ ∃ z, z < p ∧ s.testBit z = true ∧ bt l z y = true := fun s y => by
  unfold rdP
  simp only [List.any_eq_true, List.mem_range, Bool.and_eq_true]
 have how : ∀ q, q ∈ MM.els (gOwners n l c) ↔ q < p ∧ ∃ x, x < p ∧ ob c q x = true := fun q => by
  rw [MM.mem_els]
  unfold gOwners
  rw [hri, hpp, if_pos rfl, MM.ofP_bit]
  simp only [Bool.and_eq_true, decide_eq_true_eq, List.any_eq_true, List.mem_range]
  constructor
  ·rintro ⟨_, _, h3, x, h4, h5⟩; exact ⟨h3, x, h4, h5⟩
  ·rintro ⟨h3, x, h4, h5⟩; exact ⟨by omega, by omega, h3, x, h4, h5⟩
 refine ob_ext (orF_lt (fun q => gRule_lt _ _ _ _) _) hlt fun o x ho hx => ?_
 rw [Bool.eq_iff_iff]
 unfold ob
 rw [orF_bit, List.any_eq_true]
 constructor
 ·rintro ⟨q, hq, h⟩
  obtain ⟨hqp, _⟩ := (how q).1 hq
  rw [hru q hqp] at h
  have hs : MM.subN (clW p (bt l) (ruleW p (bt l) q (gReaders n l c (q : Int)))) c = true := clW_least hp hd fun a y ha hy h2 => by
   rw [hrw _ _ _ _ ha hy, Bool.and_eq_true, decide_eq_true_eq] at h2
   obtain ⟨rfl, h3⟩ := h2
   cases h4 : ob c a y with
   | true => rfl
   | false =>
     have : rdP p (bt l) (gReaders n l c (a : Int)) y = true := (hrp _ _).2 ⟨y, hy, by rw [hrd a ha y hy, h4]; rfl, hS.1 y hy⟩
     rw [this] at h3
     cases h3
  exact sub_ob.1 hs o x ho hx h
 ·intro h
  obtain ⟨hop, hxp⟩ := ht o x ho hx h
  refine ⟨o, (how o).2 ⟨hop, x, hxp, h⟩, ?_⟩
  rw [hru o hop]
  refine clW_has hp hS hop hxp ?_
  rw [hrw _ _ _ _ hop hxp]
  cases h4 : rdP p (bt l) (gReaders n l c (o : Int)) x with
  | false => simp
  | true =>
    obtain ⟨z, hz, h5, h6⟩ := (hrp _ _).1 h4
    rw [hrd o hop z hz] at h5
    have := hd o z o x hop hz hop hxp h (hS.1 o hop) h6
    rw [this] at h5
    cases h5
end Go.Proofs.YtkgonoejnochjaaGreatDoor
namespace Go.Proofs.YtkgonoejnochjaaGreatDoor
namespace SP
open TM RM
theorem idx_name {f : Fac} (h : facB f = true) {j : Nat} (hj : j < f.names.length) : idx f.names (f.names.getD j ⟨#[]⟩) = (j : Int) := by
 have hn : namedB f.names = true := by
  unfold facB at h
  exact (Bool.and_eq_true_iff.1 h).1
 unfold namedB at hn
 simp only [Bool.and_eq_true, decide_eq_true_eq] at hn
 have h2 : decide (twc f.names < 0) = true := decide_eq_true hn.2
 unfold twc at h2
 rw [NM.fst_neg] at h2
 have h3 := of_decide_eq_true h2 j hj
 unfold twice at h3
 have h4 := of_decide_eq_false h3
 have h5 : idx f.names (f.names.getD j ⟨#[]⟩) ≤ (j : Int) := by
  unfold idx
  rcases NM.fst_cases (fun i => decide (f.names.getD i ⟨#[]⟩ = f.names.getD j ⟨#[]⟩)) f.names.length with ⟨k, hk, e, _, h0⟩ | ⟨e, _⟩
  ·rw [e]
   rcases Nat.lt_or_ge j k with h6 | h6
   ·have := h0 j h6
    simp at this
   ·omega
  ·rw [e]; omega
 omega
theorem nmd_mem {names : List ByteArray} {v : Nat} {x : Wd} : x ∈ nmd names v ↔ ∃ j, j < names.length ∧ MM.hasN v (j : Int) = true ∧ x = ⟨names.getD j ⟨#[]⟩, 0⟩ := by
 unfold nmd nmdTo
 rw [List.mem_map]
 constructor
 ·rintro ⟨j, hj, rfl⟩
  obtain ⟨h1, h2⟩ := List.mem_filter.1 hj
  exact ⟨j, List.mem_range.1 h1, h2, rfl⟩
 ·rintro ⟨j, h1, h2, rfl⟩
  exact ⟨j, List.mem_filter.2 ⟨List.mem_range.2 h1, h2⟩, rfl⟩
theorem plc_nmd {f : Fac} (h : facB f = true) {v : Nat} (hv : v < 18446744073709551616) (hb : ∀ i, v.testBit i = true → i < f.names.length) : plc f.names (nmd f.names v) = .ok v := by
 unfold plc
 have h0 : (nmd f.names v).find? (miss f.names) = none := by
  rw [List.find?_eq_none]
  intro x hx
  obtain ⟨j, hj, _, rfl⟩ := nmd_mem.1 hx
  unfold miss
  rw [idx_name h hj]
  simp
 rw [h0]
 show Except.ok _ = _
 congr 1
 apply Nat.eq_of_testBit_eq
 intro i
 rw [MM.ofN_bit]
 rcases Nat.lt_or_ge i 64 with hi | hi
 ·rw [decide_eq_true hi, Bool.true_and, Bool.eq_iff_iff, List.contains_iff_mem, List.mem_map]
  constructor
  ·rintro ⟨x, hx, he⟩
   obtain ⟨j, hj, hh, rfl⟩ := nmd_mem.1 hx
   rw [idx_name h hj] at he
   have : j = i := by omega
   subst this
   unfold MM.hasN at hh
   simpa using (Bool.and_eq_true_iff.1 hh).2
  ·intro hh
   exact ⟨⟨f.names.getD i ⟨#[]⟩, 0⟩, nmd_mem.2 ⟨i, hb i hh, by unfold MM.hasN; simp [hh]; omega, rfl⟩, idx_name h (hb i hh)⟩
 ·rw [decide_eq_false (by omega), Bool.false_and]
  exact (Nat.testBit_lt_two_pow (Nat.lt_of_lt_of_le hv (Nat.le_trans (by decide : 18446744073709551616 ≤ 2 ^ 64) (Nat.pow_le_pow_right (by decide) hi)))).symm
theorem rls_rul {f : Fac} (h : facB f = true) (hk : f.kind = 3) (v : Nat) : ∀ (js : List Nat) (a : Nat), (∀ j ∈ js, j < f.names.length) →
 rls f (js.map fun (j : Nat) => nd 6 0 (f.names.getD j ⟨#[]⟩) (nmd f.names (gReaders f.n f.l v (j : Int))) []) a = .ok (js.foldl (fun (a q : Nat) => a ||| gRule f.n f.l (q : Int) (gReaders f.n f.l v (q : Int))) a)
 | [], a, _ => rfl
 | j :: js, a, hj => by
   have h1 := hj j (by simp)
   rw [List.map_cons, rls]
   show (if idx f.names (f.names.getD j ⟨#[]⟩) < 0 then _ else match plc f.names (nmd f.names (gReaders f.n f.l v (j : Int))) with
     | Except.error p => Except.error p
     | Except.ok g => rls f _ (a ||| gRule f.n f.l (idx f.names (f.names.getD j ⟨#[]⟩)) g)) = _
   have hp : pts f.n = f.names.length := by
     have hr : relB f.kind f.n f.l f.names.length = true := by
        unfold facB at h
        exact (Bool.and_eq_true_iff.1 h).2
     rw [hk, relB_3] at hr
     exact of_decide_eq_true (Bool.and_eq_true_iff.1 hr).1
   rw [idx_name h h1, if_neg (by omega), plc_nmd h (gReaders_lt _ _ _ _) (fun i hi => by rw [← hp]; exact rd_bits hi)]
   exact rls_rul h hk v js _ fun q hq => hj q (by simp [hq])
theorem own_els {n : Int} {l : List Nat} {v m : Nat} (hm : pts n = m) (h64 : m ≤ 64) : (List.range m).filter (fun j : Nat => MM.hasN (gOwners n l v) (j : Int)) = MM.els (gOwners n l v) := by
 unfold MM.els
 have h1 : List.range 64 = List.range m ++ (List.range (64 - m)).map (m + ·) := by
  rw [← List.range_add]; congr 1; omega
 rw [h1, List.filter_append]
 have h2 : ((List.range (64 - m)).map (m + ·)).filter (fun i => (gOwners n l v).testBit i) = [] := by
  rw [List.filter_eq_nil_iff]
  intro i hi hb
  obtain ⟨k, _, rfl⟩ := List.mem_map.1 hi
  have := (ow_bits hb).1
  omega
 rw [h2, List.append_nil]
 refine List.filter_congr fun j hj => ?_
 have := List.mem_range.1 hj
 unfold MM.hasN
 rw [decide_eq_true (by omega), Bool.true_and]; rfl
theorem word_con {f : Fac} (h : facB f = true) {v : Nat} (hv : v < 18446744073709551616) (hw : wordB f v = true) : wordC f (conN f v) = .ok v := by
 by_cases h2 : f.kind = 2
 ·unfold wordC conN
  rw [if_pos h2, if_pos h2, if_pos (show (nd 3 0 ⟨#[]⟩ (nmd f.names v) []).k = 3 from rfl)]
  unfold wordB at hw
  rw [if_neg (by omega), if_pos h2] at hw
  exact plc_nmd h hv (set_bits hv hw)
 ·by_cases h3 : f.kind = 3
  ·unfold wordC conN
   rw [if_neg h2, if_pos h3, if_neg h2, if_pos h3, if_pos (show (nd 5 0 ⟨#[]⟩ [] (rulTo f.names f.n f.l v f.names.length)).k = 5 from rfl)]
   unfold wordB at hw
   rw [if_neg (by omega), if_neg h2, if_pos h3] at hw
   unfold gClosed at hw
   obtain ⟨hri, hcl⟩ := Bool.and_eq_true_iff.1 hw
   have hcl : gClose f.n f.l v = v := by simpa using hcl
   have hr : relB f.kind f.n f.l f.names.length = true := by
        unfold facB at h
        exact (Bool.and_eq_true_iff.1 h).2
   rw [h3, relB_3] at hr
   have hp := of_decide_eq_true (Bool.and_eq_true_iff.1 hr).1
   show rls f (rulTo f.names f.n f.l v f.names.length) 0 = _
   unfold rulTo
   rw [rls_rul h h3 v _ 0 fun j hj => List.mem_range.1 (List.mem_filter.1 hj).1, own_els hp (facB_len h).2]
   have hb := back_eq v hri
   rw [hcl] at hb
   exact congrArg Except.ok hb
  ·obtain ⟨k, hk, hkn⟩ := pt_fits h hw h2 h3
   unfold wordC conN
   rw [if_neg h2, if_neg h3, if_neg h2, if_neg h3, hk]
   show (if (2 : Int) = 2 ∧ 0 ≤ idx f.names (f.names.getD k ⟨#[]⟩) then _ else _) = _
   rw [idx_name h hkn, if_pos ⟨rfl, by omega⟩]
   unfold wordB at hw
   unfold ptK at hk
   by_cases h4 : f.kind = 4
   ·rw [if_pos h4]
    rw [if_neg (by omega), if_neg h2, if_neg h3] at hw
    rw [if_pos h4] at hk
    obtain ⟨j, hj⟩ := Option.isSome_iff_exists.1 hw
    rw [hj] at hk
    have h5 := (fnd_some hj).2
    unfold ptT at h5
    have h6 : (j : Int) = (k : Int) := hk
    rw [h6] at h5
    show Except.ok (wordN f.n f.l (idx f.names (f.names.getD k ⟨#[]⟩))) = _
    rw [idx_name h hkn]
    exact congrArg Except.ok (by simpa using h5)
   ·rw [if_neg h4]
    rw [if_neg h4] at hk
    have h1 : f.kind = 1 := by
     rcases facB_kind h with e | e | e | e
     ·exact e
     ·exact absurd e h2
     ·exact absurd e.1 h3
     ·exact absurd e.1 h4
    rw [if_pos h1] at hw
    rw [RG.lv_in hw] at hk
    unfold RG.lvB at hw
    obtain ⟨h7, h8⟩ := Bool.and_eq_true_iff.1 hw
    show Except.ok (RG.wR f.names.length (idx f.names (f.names.getD k ⟨#[]⟩))) = _
    rw [idx_name h hkn, ← hk]
    unfold RG.wR
    rw [if_pos h7]
    exact congrArg Except.ok (of_decide_eq_true h8)
end SP
end Go.Proofs.YtkgonoejnochjaaGreatDoor
namespace Go.Proofs.YtkgonoejnochjaaGreatDoor
namespace SP
open TM RM
theorem name_right {f : Fac} (h : facB f = true) {j : Nat} (hj : j < f.names.length) : NM.right (f.names.getD j ⟨#[]⟩) = true := by
 have hn : namedB f.names = true := by
  unfold facB at h
  exact (Bool.and_eq_true_iff.1 h).1
 unfold namedB at hn
 simp only [Bool.and_eq_true, List.all_eq_true] at hn
 refine hn.1.2 _ ?_
 rw [List.getD_eq_getElem?_getD, List.getElem?_eq_getElem hj]
 exact List.getElem_mem hj
theorem nmd_right {f : Fac} (h : facB f = true) (v : Nat) : wrB (nmd f.names v) = true := by
 unfold wrB
 rw [List.all_eq_true]
 intro x hx
 obtain ⟨j, hj, _, rfl⟩ := nmd_mem.1 hx
 exact name_right h hj
theorem con_fl {f : Fac} (h : facB f = true) {v : Nat} (hw : wordB f v = true) : (fl (conN f v)).c = true := by
 unfold conN
 by_cases h2 : f.kind = 2
 ·rw [if_pos h2]
  show cB 3 ⟨#[]⟩ (nmd f.names v) (fls []) = true
  have := nmd_right h v
  simp [cB, fls, this]
 ·rw [if_neg h2]
  by_cases h3 : f.kind = 3
  ·rw [if_pos h3]
   show cB 5 ⟨#[]⟩ [] (fls (rulTo f.names f.n f.l v f.names.length)) = true
   have hr : (fls (rulTo f.names f.n f.l v f.names.length)).all (·.ru) = true := by
        rw [List.all_eq_true]
        intro x hx
        rw [fls_map] at hx
        obtain ⟨z, hz, rfl⟩ := List.mem_map.1 hx
        unfold rulTo at hz
        obtain ⟨j, hj, rfl⟩ := List.mem_map.1 hz
        show ruB 6 (f.names.getD j ⟨#[]⟩) (nmd f.names (gReaders f.n f.l v (j : Int))) (fls []).length = true
        have h4 := nmd_right h (gReaders f.n f.l v (j : Int))
        have h5 := name_right h (List.mem_range.1 (List.mem_filter.1 hj).1)
        generalize f.names.getD j ⟨#[]⟩ = s at *
        simp [ruB, fls, h4, h5]
   simp [cB, brB, hr]
  ·rw [if_neg h3]
   obtain ⟨k, hk, hkn⟩ := pt_fits h hw h2 h3
   show cB 2 (f.names.getD (ptK f v).toNat ⟨#[]⟩) [] (fls []) = true
   rw [hk]
   have h5 := name_right h hkn
   rw [Int.toNat_natCast]
   generalize f.names.getD k ⟨#[]⟩ = s at *
   simp [cB, leafB, fls, h5]
theorem node_fl {t : Bool} {fs : List Fac} {e : List Nat} (h : fitsE t fs e = true) : (fl (nodeE t fs e)).c = true := by
 obtain ⟨⟨h1, h8⟩, hs⟩ := fits_slot h
 unfold nodeE
 rw [if_pos h]
 by_cases h2 : t = true
 ·rw [if_pos h2]
  show cB 4 ⟨#[]⟩ [] (fls ((List.range fs.length).map fun i => conN (fs.getD i f0) (e.getD i 0))) = true
  have hr : (fls ((List.range fs.length).map fun i => conN (fs.getD i f0) (e.getD i 0))).all (·.c) = true := by
   rw [List.all_eq_true]
   intro x hx
   rw [fls_map] at hx
   obtain ⟨z, hz, rfl⟩ := List.mem_map.1 hx
   obtain ⟨j, hj, rfl⟩ := List.mem_map.1 hz
   have h3 := hs j (List.mem_range.1 hj)
   exact con_fl h3.1 h3.2
  have hl : (fls ((List.range fs.length).map fun i => conN (fs.getD i f0) (e.getD i 0))).length = fs.length := by rw [fls_length, List.length_map, List.length_range]
  have hl0 : 0 < fs.length := by omega
  simp only [cB, brB, hr, hl, hl0]
  simp
 ·rw [if_neg h2]
  have h3 := hs 0 (by omega)
  exact con_fl h3.1 h3.2
theorem elem_node {t : Bool} {fs : List Fac} {e : List Nat} (he : EW e) (h : fitsE t fs e = true) : elemR t fs (nodeE t fs e) = .ok e := by
 obtain ⟨⟨h1, h8⟩, hs⟩ := fits_slot h
 have hr : rightS t fs = true := by
  unfold fitsE at h
  exact (Bool.and_eq_true_iff.1 h).1
 have hz : ∀ i, i < 8 → fs.length ≤ i → e.getD i 0 = 0 := fun i hi hf => by
  unfold fitsE at h
  have h6 := List.all_eq_true.1 (Bool.and_eq_true_iff.1 h).2 i (List.mem_range.2 hi)
  unfold slotB at h6
  rw [if_neg (by omega)] at h6
  simpa using h6
 have key : ∀ xs : List Nd, xs.length = fs.length → (∀ j, j < fs.length → xs.getD j n0 = conN (fs.getD j f0) (e.getD j 0)) → elw fs xs = .ok e := fun xs hl hx => by
  have hw : ∀ j, j < fs.length → wordC (fs.getD j f0) (xs.getD j n0) = .ok (e.getD j 0) := fun j hj => by
   rw [hx j hj]
   exact word_con (hs j hj).1 (he.lt j) (hs j hj).2
  unfold elw
  rw [find_range_no (by rw [hl]; exact fun j hj => by rw [hw j hj]; rfl)]
  show Except.ok _ = _
  congr 1
  refine List.ext_getElem? fun i => ?_
  unfold sdTo
  rw [List.getElem?_map]
  by_cases h3 : i < 8
  ·have h4 : i < e.length := by rw [he.1]; exact h3
   have h6 : e[i] = e.getD i 0 := by rw [List.getD_eq_getElem?_getD, List.getElem?_eq_getElem h4]; rfl
   rw [List.getElem?_range h3, List.getElem?_eq_getElem h4, h6, hl]
   show some (if i < fs.length then okW (wordC (fs.getD i f0) (xs.getD i n0)) else 0) = _
   by_cases h5 : i < fs.length
   ·rw [if_pos h5, hw i h5]; rfl
   ·rw [if_neg h5, hz i h3 (by omega)]
  ·rw [List.getElem?_eq_none (by rw [List.length_range]; omega), List.getElem?_eq_none (by rw [he.1]; omega)]; rfl
 unfold elemR
 rw [hr, node_fl h]
 rw [if_pos (by rfl)]
 by_cases h2 : t = true
 ·rw [if_pos h2]
  unfold nodeE
  rw [if_pos h, if_pos h2]
  have hl : ((List.range fs.length).map fun i => conN (fs.getD i f0) (e.getD i 0)).length = fs.length := by rw [List.length_map, List.length_range]
  rw [if_neg (by rintro (h3 | h3); exact h3 rfl; exact h3 hl)]
  refine key _ hl fun j hj => ?_
  show ((List.range fs.length).map fun i => conN (fs.getD i f0) (e.getD i 0)).getD j n0 = _
  rw [List.getD_eq_getElem?_getD, List.getElem?_map, List.getElem?_range hj]; rfl
 ·rw [if_neg h2]
  have h9 : fs.length = 1 := by
   unfold rightS at hr
   simp only [Bool.and_eq_true, decide_eq_true_eq, Bool.or_eq_true] at hr
   rcases hr.1.2 with h3 | h3
   ·exact absurd h3 h2
   ·exact h3
  refine key _ h9.symm fun j hj => ?_
  have : j = 0 := by omega
  subst this
  unfold nodeE
  rw [if_pos h, if_neg h2]; rfl
end SP
end Go.Proofs.YtkgonoejnochjaaGreatDoor
namespace Go.Proofs.YtkgonoejnochjaaGreatDoor
namespace TM
open LX TR
inductive W : Nat → Nd → Prop
 | point {p : Int} {s : ByteArray} {A : Option Addr} {c : Nat} {B : Option Addr} {d : Nat} (hs : NM.right s = true) : W 1 (.mk 2 p s A c [] B d [])
 | set {p : Int} {A : Option Addr} {c : Nat} {ws : List Wd} {B : Option Addr} {d : Nat} (hw : ∀ w ∈ ws, NM.right w.s = true) : W 1 (.mk 3 p e0 A c ws B d [])
 | tuple {p : Int} {A : Option Addr} {c : Nat} {B : Option Addr} {d : Nat} {ks : List Nd} (hne : ks ≠ []) (h : ∀ y ∈ ks, W 1 y) : W 1 (.mk 4 p e0 A c [] B d ks)
 | grid {p : Int} {A : Option Addr} {c : Nat} {B : Option Addr} {d : Nat} {ks : List Nd} (h : ∀ y ∈ ks, W 2 y) : W 1 (.mk 5 p e0 A c [] B d ks)
 | rule {p : Int} {s : ByteArray} {A : Option Addr} {c : Nat} {ws : List Wd} {B : Option Addr} {d : Nat} (hs : NM.right s = true) (hw : ∀ w ∈ ws, NM.right w.s = true) : W 2 (.mk 6 p s A c ws B d [])
 | var {p : Int} {s : ByteArray} {A : Option Addr} {c : Nat} {B : Option Addr} {d : Nat} (hs : NM.right s = true) : W 5 (.mk 1 p s A c [] B d [])
 | const {p : Int} {A : Option Addr} {c : Nat} {B : Option Addr} {d : Nat} {y : Nd} (h : W 1 y) : W 5 (.mk 7 p e0 A c [] B d [y])
 | atom {x : Nd} (h : W 5 x) : W 3 x
 | join {p : Int} {A : Option Addr} {c : Nat} {B : Option Addr} {d : Nat} {ks : List Nd} (hne : ks ≠ []) (h : ∀ y ∈ ks, W 3 y) : W 3 (.mk 8 p e0 A c [] B d ks)
 | meet {p : Int} {A : Option Addr} {c : Nat} {B : Option Addr} {d : Nat} {ks : List Nd} (hne : ks ≠ []) (h : ∀ y ∈ ks, W 3 y) : W 3 (.mk 9 p e0 A c [] B d ks)
 | field {p : Int} {s : ByteArray} {A : Option Addr} {c : Nat} {B : Option Addr} {d : Nat} {y : Nd} (hs : NM.right s = true) (h : W 5 y) : W 4 (.mk 11 p s A c [] B d [y])
 | rvar {p : Int} {s : ByteArray} {A : Option Addr} {c : Nat} {B : Option Addr} {d : Nat} (hs : NM.right s = true) : W 6 (.mk 1 p s A c [] B d [])
 | row {p : Int} {A : Option Addr} {c : Nat} {ws : List Wd} {B : Option Addr} {d : Nat} {ks : List Nd} (h1 : ws.length ≤ 1) (hw : ∀ w ∈ ws, NM.right w.s = true) (h : ∀ y ∈ ks, W 4 y) : W 6 (.mk 10 p e0 A c ws B d ks)
abbrev Ky := Nat × ByteArray
end TM
end Go.Proofs.YtkgonoejnochjaaGreatDoor
namespace Go.Proofs.YtkgonoejnochjaaGreatDoor
namespace TM
open LX TR
def Good (ts : List Tr) : Prop := ∀ y ∈ nodes ts, rightT y.t = true
theorem nodes_cons (x : Tr) (r : List Tr) : nodes (x :: r) = x :: (nodes x.ks ++ nodes r) := by cases x; rw [nodes]; rfl
theorem Good.cons {x : Tr} {r : List Tr} (h : Good (x :: r)) : rightT x.t = true ∧ Good x.ks ∧ Good r := by
 unfold Good at h
 rw [nodes_cons] at h
 exact ⟨h x (by simp), fun y hy => h y (by simp [hy]), fun y hy => h y (by simp [hy])⟩
theorem Good.right {a b : List Tr} (h : Good (a ++ b)) : Good b := fun y hy => h y (by rw [nodes_append]; exact List.mem_append_right _ hy)
section
variable {α : Type} {el : Rdr α} {ok : α → Prop} {g : α → List Ky}
end
end TM
end Go.Proofs.YtkgonoejnochjaaGreatDoor
namespace Go.Proofs.YtkgonoejnochjaaGreatDoor
namespace TM
open LX TR
section
variable {α : Type} {g : α → List Ky}
end
theorem eqL_length {α : Type} {g : α → α → Bool} {a b : List α} (h : eqL g a b = true) : a.length = b.length := by
 by_cases e : a.length = b.length
 ·exact e
 ·rw [eqL_len e] at h; cases h
end TM
end Go.Proofs.YtkgonoejnochjaaGreatDoor
namespace Go.Proofs.YtkgonoejnochjaaGreatDoor
namespace SP
open TM LX TR
theorem sw_map : ∀ {a b : List Wd}, eqL sw a b = true → a.map Wd.s = b.map Wd.s
 | [], [], _ => rfl
 | [], _ :: _, h => by rw [eqL] at h; cases h
 | _ :: _, [], h => by rw [eqL] at h; cases h
 | x :: a, y :: b, h => by
   rw [eqL, Bool.and_eq_true] at h
   have h1 : x.s = y.s := of_decide_eq_true h.1
   rw [List.map_cons, List.map_cons, h1, sw_map h.2]
theorem wrB_map (a : List Wd) : wrB a = (a.map Wd.s).all NM.right := by unfold wrB; rw [List.all_map]; rfl
theorem fls_sm : ∀ a b : List Nd, sms a b = true → fls a = fls b := by
 refine ind (fun b hb => ?_) fun k p s A c ws B d ks r h1 h2 b hb => ?_
 ·cases b with
  | nil => rfl
  | cons y b => rw [sms] at hb; cases hb
 ·cases b with
  | nil => rw [sms] at hb; cases hb
  | cons y b =>
    rw [sms] at hb
    simp only [Bool.and_eq_true, decide_eq_true_eq] at hb
    obtain ⟨⟨h3, h4, h5, h6⟩, h7⟩ := hb
    subst h3
    subst h4
    rw [fls, fls_cons, h2 _ h7]
    unfold fl
    rw [h1 _ h6]
    congr 1
    have hw : wrB ws = wrB y.ws := by rw [wrB_map, wrB_map, sw_map h5]
    have hl := eqL_length h5
    unfold fl1 cB lB rB ruB fiB atB leafB brB
    simp only [hw, hl]
theorem fl_sm {x y : Nd} (h : sm x y = true) : fl x = fl y := by
 have h1 := fls_sm [x] [y] (by rw [sms_eqL, eqL, eqL, h]; rfl)
 rw [fls_cons, fls_cons] at h1
 injection h1
theorem plc_sm {names : List ByteArray} {a b : List Wd} {v : Nat} (h : eqL sw a b = true) (hb : plc names b = .ok v) : plc names a = .ok v := by
 have hm := sw_map h
 have hf : ∀ c : List Wd, c.find? (miss names) = none ↔ ∀ s ∈ c.map Wd.s, ¬ idx names s < 0 := fun c => by
  rw [List.find?_eq_none]
  constructor
  ·intro h s hs
   obtain ⟨w, hw, rfl⟩ := List.mem_map.1 hs
   have := h w hw
   unfold miss at this
   simpa using this
  ·intro h w hw
   have := h w.s (List.mem_map.2 ⟨w, hw, rfl⟩)
   unfold miss
   simpa using this
 have hg : ∀ c : List Wd, (c.map fun v => idx names v.s) = (c.map Wd.s).map (idx names) := fun c => by rw [List.map_map]; rfl
 unfold plc at hb ⊢
 cases e : b.find? (miss names) with
 | some w => rw [e] at hb; cases hb
 | none =>
   rw [e] at hb
   have e2 : a.find? (miss names) = none := (hf a).2 (by rw [hm]; exact (hf b).1 e)
   rw [e2, hg, hm, ← hg]
   exact hb
theorem sm_parts {x y : Nd} (h : sm x y = true) : x.k = y.k ∧ x.s = y.s ∧ eqL sw x.ws y.ws = true ∧ eqL sm x.ks y.ks = true := by
 unfold sm at h
 rw [sms_eqL] at h
 simpa [Bool.and_eq_true] using h
theorem rls_sm {f : Fac} : ∀ (a b : List Nd) (g v : Nat), eqL sm a b = true → rls f b g = .ok v → rls f a g = .ok v
 | [], [], g, v, _, h => h
 | [], _ :: _, _, _, h, _ => by rw [eqL] at h; cases h
 | _ :: _, [], _, _, h, _ => by rw [eqL] at h; cases h
 | x :: a, y :: b, g, v, h, hv => by
   rw [eqL, Bool.and_eq_true] at h
   obtain ⟨_, h2, h3, _⟩ := sm_parts h.1
   rw [rls] at hv ⊢
   rw [h2]
   split at hv
   ·cases hv
   ·rename_i h0
    rw [if_neg h0]
    cases e : plc f.names y.ws with
    | error p => rw [e] at hv; cases hv
    | ok w =>
      rw [e] at hv
      rw [plc_sm h3 e]
      exact rls_sm a b _ v h.2 hv
theorem word_sm {f : Fac} {x y : Nd} {v : Nat} (h : sm x y = true) (hv : wordC f y = .ok v) : wordC f x = .ok v := by
 obtain ⟨h1, h2, h3, h4⟩ := sm_parts h
 unfold wordC at hv ⊢
 rw [h1, h2]
 by_cases k2 : f.kind = 2
 ·rw [if_pos k2] at hv ⊢
  split at hv
  ·rename_i hk
   rw [if_pos hk]
   exact plc_sm h3 hv
  ·cases hv
 ·rw [if_neg k2] at hv ⊢
  by_cases k3 : f.kind = 3
  ·rw [if_pos k3] at hv ⊢
   split at hv
   ·rename_i hk
    rw [if_pos hk]
    exact rls_sm _ _ _ _ h4 hv
   ·cases hv
  ·rw [if_neg k3] at hv ⊢
   split at hv
   ·rename_i hk
    rw [if_pos hk]
    exact hv
   ·cases hv
theorem eqL_at {a b : List Nd} (h : eqL sm a b = true) : ∀ j, j < b.length → sm (a.getD j n0) (b.getD j n0) = true := fun j hj => by
 have hl := eqL_length h
 cases e : sm (a.getD j n0) (b.getD j n0) with
 | true => rfl
 | false =>
   have := eqL_hit hl j (by omega) e
   rw [this] at h
   cases h
theorem elem_sm {t : Bool} {fs : List Fac} {x y : Nd} {l : List Nat} (h : sm x y = true) (hl : elemR t fs y = .ok l) : elemR t fs x = .ok l := by
 have key : ∀ a b : List Nd, eqL sm a b = true → elw fs b = .ok l → elw fs a = .ok l := fun a b hab he => by
  have hlen := eqL_length hab
  unfold elw at he
  split at he
  ·cases he
  ·rename_i hno
   have hw : ∀ j, j < b.length → wordC (fs.getD j f0) (a.getD j n0) = wordC (fs.getD j f0) (b.getD j n0) := fun j hj => by
        have h1 := List.find?_eq_none.1 hno j (List.mem_range.2 hj)
        cases e : wordC (fs.getD j f0) (b.getD j n0) with
        | error p => rw [e] at h1; exact absurd rfl h1
        | ok v => exact word_sm (eqL_at hab j hj) e
   have hn2 : ∀ j, j < a.length → (erW (wordC (fs.getD j f0) (a.getD j n0))).isSome = false := fun j hj => by
        rw [hw j (by omega)]
        have h1 := List.find?_eq_none.1 hno j (List.mem_range.2 (by omega))
        simpa using h1
   unfold elw
   rw [find_range_no hn2, ← he]
   show Except.ok _ = Except.ok _
   congr 1
   unfold sdTo
   rw [hlen]
   refine List.map_congr_left fun j _ => ?_
   by_cases hj : j < b.length
   ·rw [if_pos hj, if_pos hj]
    show okW (wordC (fs.getD j f0) (a.getD j n0)) = okW (wordC (fs.getD j f0) (b.getD j n0))
    rw [hw j hj]
   ·rw [if_neg hj, if_neg hj]
 obtain ⟨h1, _, _, h4⟩ := sm_parts h
 unfold elemR at hl ⊢
 rw [fl_sm h]
 split at hl
 ·rename_i hc
  rw [if_pos hc]
  by_cases h2 : t = true
  ·rw [if_pos h2] at hl ⊢
   split at hl
   ·cases hl
   ·rename_i h3
    rw [if_neg (by rw [h1, eqL_length h4]; exact h3)]
    exact key _ _ h4 hl
  ·rw [if_neg h2] at hl ⊢
   exact key _ _ (by rw [eqL, eqL, h]; rfl) hl
 ·cases hl
end SP
end Go.Proofs.YtkgonoejnochjaaGreatDoor
namespace Go.Proofs.YtkgonoejnochjaaGreatDoor
open Go.RowKit LX TR TM SP RM
theorem TM.er_idem : ∀ l : List Nd, TM.er (TM.er l) = TM.er l := by
 refine ind (by simp [TM.er]) fun k p s A c ws B d ks r h1 h2 => ?_
 rw [TM.er_cons, TM.er_cons, h2]
 congr 1
 show nd k p s ws (TM.er (TM.er ks)) = nd k p s ws (TM.er ks)
 rw [h1]
theorem TM.er1_idem (z : Nd) : er1 (er1 z) = er1 z := by
 have h := TM.er_idem [z]
 rw [er_one, er_one] at h
 injection h
theorem SP.back_node {t : Bool} {fs : List Fac} {e : List Nat} {z : Nd} (he : EW e) (h : fitsE t fs e = true) (hz : er1 z = nodeE t fs e) : elemR t fs z = .ok e ∧ (fl z).c = true := by
 have hs : sm z (nodeE t fs e) = true := sm_same (by rw [← hz, TM.er1_idem])
 exact ⟨elem_sm hs (elem_node he h), by rw [fl_sm hs]; exact node_fl h⟩
end Go.Proofs.YtkgonoejnochjaaGreatDoor

