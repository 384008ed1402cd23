/- Texts that all the claims need. Conditions: those that each states. -/
import Derived.BigRegion
import Derived.Deep.CutRange
import Derived.OwnWalk
import Derived.Test.YtdahllhbpdbknaaGreatDoorTc4
set_option linter.unusedSimpArgs false
set_option linter.unusedVariables false
set_option maxRecDepth 100000
set_option maxHeartbeats 40000000
namespace Go.Proofs.YtdahllhbpdbknaaGreatDoor
section
open Go.RowKit RM
def fnd (p : Nat) (P : Nat → Bool) : Option Nat := (List.range p).find? P
theorem fnd_hit {p k : Nat} {P : Nat → Bool} (hk : k < p) (h : P k = true) (hn : ∀ j, j < k → P j = false) : fnd p P = some k := by
 unfold fnd
 rw [List.find?_range_eq_some]
 exact ⟨h, List.mem_range.2 hk, fun j hj => by rw [hn j hj]; rfl⟩
theorem fnd_none {p : Nat} {P : Nat → Bool} (hn : ∀ j, j < p → P j = false) : fnd p P = none := by
 unfold fnd
 rw [List.find?_range_eq_none]
 exact fun j hj => by rw [hn j hj]; rfl
theorem fnd_some {p k : Nat} {P : Nat → Bool} (h : fnd p P = some k) : k < p ∧ P k = true := by
 unfold fnd at h
 rw [List.find?_range_eq_some] at h
 exact ⟨List.mem_range.1 h.2.1, h.1⟩
theorem fnd_congr {p : Nat} {P Q : Nat → Bool} (h : ∀ k, k < p → P k = Q k) : fnd p P = fnd p Q := by
 cases e : fnd p Q with
 | none =>
   unfold fnd at e
   rw [List.find?_range_eq_none] at e
   exact fnd_none fun j hj => by rw [h j hj]; simpa using e j hj
 | some k =>
   unfold fnd at e
   rw [List.find?_range_eq_some] at e
   have hk := List.mem_range.1 e.2.1
   exact fnd_hit hk (by rw [h k hk]; exact e.1) fun j hj => by rw [h j (by omega)]; simpa using e.2.2 j hj
theorem fnd_ex {p k : Nat} {P : Nat → Bool} (hk : k < p) (h : P k = true) : (fnd p P).isSome = true := by
 cases e : fnd p P with
 | some j => rfl
 | none =>
   unfold fnd at e
   rw [List.find?_range_eq_none] at e
   have := e k hk
   rw [h] at this
   cases this
def optV (o : Option Nat) : Value := .tuple #[.int .i64 ((o.getD 0 : Nat) : Int), .bool o.isSome]
theorem optV_some (k : Nat) : optV (some k) = .tuple #[.int .i64 (k : Int), .bool true] := rfl
theorem optV_none : optV none = .tuple #[.int .i64 0, .bool false] := rfl
def bndT (p : Nat) (R : Int → Int → Bool) (i j : Int) (u : Nat) : Bool := R i u && R j u && (List.range p).all fun v => !(R i v && R j v) || R u v
def bndO (p : Nat) (R : Int → Int → Bool) (i j : Int) : Option Nat := fnd p (bndT p R i j)
def flp (R : Int → Int → Bool) (a b : Int) : Bool := R b a
structure SideOf (p : Nat) (R : Int → Int → Bool) (xs : List Nat) : Prop where
 len : xs.length = p
 le : p ≤ 64
 lt : ∀ i, xs.getD i 0 < 18446744073709551616
 bit : ∀ i j : Nat, i < p → (xs.getD i 0).testBit j = (decide (j < p) && R i j)
def frsT (xs : List Nat) (s k : Nat) : Bool := s.testBit k && MM.subN s (xs.getD k 0)
def frsO (xs : List Nat) (s : Nat) : Option Nat := fnd xs.length (frsT xs s)
theorem subN_iff {a b : Nat} : MM.subN a b = true ↔ ∀ i, i < 64 → a.testBit i = true → b.testBit i = true := by
 unfold MM.subN
 rw [List.all_eq_true]
 exact ⟨fun h i hi ha => h i (MM.mem_els.2 ⟨hi, ha⟩), fun h i hi => h i (MM.mem_els.1 hi).1 (MM.mem_els.1 hi).2⟩
theorem frs_bnd {p : Nat} {R : Int → Int → Bool} {xs : List Nat} (h : SideOf p R xs) {i j : Nat} (hi : i < p) (hj : j < p) : frsO xs (xs.getD i 0 &&& xs.getD j 0) = bndO p R i j := by
 unfold frsO bndO
 rw [h.len]
 refine fnd_congr fun k hk => ?_
 unfold frsT bndT
 rw [Nat.testBit_and, h.bit i k hi, h.bit j k hj, Bool.eq_iff_iff]
 simp only [Bool.and_eq_true, decide_eq_true_eq, List.all_eq_true, List.mem_range, subN_iff, Nat.testBit_and, h.bit i _ hi, h.bit j _ hj, h.bit k _ hk, Bool.or_eq_true, Bool.not_eq_true', Bool.and_eq_false_iff]
 constructor
 ·rintro ⟨⟨⟨_, h1⟩, _, h2⟩, h3⟩
  refine ⟨⟨h1, h2⟩, fun v hv => ?_⟩
  cases e1 : R i v with
  | false => simp
  | true =>
    cases e2 : R j v with
    | false => simp
    | true => exact .inr (h3 v (by have := h.le; omega) ⟨⟨hv, e1⟩, hv, e2⟩).2
 ·rintro ⟨⟨h1, h2⟩, h3⟩
  refine ⟨⟨⟨hk, h1⟩, hk, h2⟩, fun v _ hv => ⟨hv.1.1, ?_⟩⟩
  rcases h3 v hv.1.1 with (h4 | h4) | h4
  ·rw [hv.1.2] at h4; cases h4
  ·rw [hv.2.2] at h4; cases h4
  ·exact h4
theorem bnd_no {p : Nat} {R : Int → Int → Bool} {i j : Int} (h : (∀ u : Nat, R i u = false) ∨ ∀ u : Nat, R j u = false) : bndO p R i j = none := fnd_none fun u _ => by
 unfold bndT
 rcases h with h | h <;> rw [h u] <;> simp
theorem hasR_left {n : Int} {l : List Nat} {i : Int} (h : isPt n i = false) (j : Int) : hasR n l i j = false := by unfold hasR; rw [h]; rfl
theorem hasR_right {n : Int} {l : List Nat} {i : Int} (h : isPt n i = false) (j : Int) : hasR n l j i = false := by unfold hasR; rw [h]; simp
theorem hasR_nat {n : Int} {l : List Nat} {a b : Nat} (h1 : a < pts n) (h2 : b < pts n) : hasR n l a b = bt l a b := by
 unfold hasR
 rw [isPt_nat, isPt_nat]
 simp [h1, h2]
theorem of1_bit (i j : Nat) : (MM.ofN [(i : Int)]).testBit j = (decide (j < 64) && decide (j = i)) := by
 rw [MM.ofN_bit]
 congr 1
 rw [Bool.eq_iff_iff]
 simp
 omega
def upF (n : Int) (l : List Nat) (i : Nat) : Nat := abv (cl n l) (MM.ofN [(i : Int)])
def dnF (n : Int) (l : List Nat) (i : Nat) : Nat := blw (cl n l) (MM.ofN [(i : Int)]) (pts n)
theorem upF_lt (n : Int) (l : List Nat) (i : Nat) : upF n l i < 18446744073709551616 := abv_lt (RW.mk _ _) _
theorem dnF_lt (n : Int) (l : List Nat) (i : Nat) : dnF n l i < 18446744073709551616 := blw_lt _ _ _
theorem upF_bit (n : Int) (l : List Nat) (i j : Nat) (hi : i < pts n) : (upF n l i).testBit j = (decide (j < pts n) && hasR n l i j) := by
 have hp := pts_le n
 unfold upF
 rw [Bool.eq_iff_iff, abv_bit, Bool.and_eq_true, decide_eq_true_eq]
 constructor
 ·rintro ⟨k, hk, h1, h2⟩
  rw [of1_bit] at h1
  have : k = i := by simpa [hk] using h1
  subst this
  rw [bt_cl] at h2
  simp only [Bool.and_eq_true, decide_eq_true_eq] at h2
  exact ⟨h2.1.2, by rw [hasR_nat hi h2.1.2]; exact h2.2⟩
 ·rintro ⟨h1, h2⟩
  rw [hasR_nat hi h1] at h2
  exact ⟨i, by omega, by rw [of1_bit]; simp; omega, by rw [bt_cl]; simp [hi, h1, h2]⟩
theorem blw_of (n : Int) (l : List Nat) (i : Int) (j : Nat) : (blw (cl n l) (MM.ofN [i]) (pts n)).testBit j = (decide (j < pts n) && hasR n l j i) := by
 have hp := pts_le n
 rw [blw_bit]
 by_cases hj : j < pts n
 ·rw [show decide (j < 64) = true by simp; omega, show decide (j < pts n) = true by simp [hj], Bool.true_and, Bool.true_and, Bool.true_and, Bool.eq_iff_iff,
   and_ne (x := (cl n l).getD j 0) (RW.lt (RW.mk _ _) j)]
  constructor
  ·rintro ⟨k, hk, h1, h2⟩
   rw [MM.ofN_bit] at h2
   have h3 : (k : Int) = i := by simpa [hk] using h2
   subst h3
   have h4 : bt (cl n l) j k = true := h1
   rw [bt_cl] at h4
   simp only [Bool.and_eq_true, decide_eq_true_eq] at h4
   rw [hasR_nat hj h4.1.2]
   exact h4.2
  ·intro h
   cases h5 : isPt n i with
   | false => rw [hasR_right h5] at h; cases h
   | true =>
     obtain ⟨h6, h7⟩ := isPt_iff.1 h5
     obtain ⟨k, rfl⟩ := Int.eq_ofNat_of_zero_le h6
     have hk : k < pts n := by omega
     rw [hasR_nat hj hk] at h
     refine ⟨k, by omega, ?_, by rw [of1_bit]; simp; omega⟩
     show bt (cl n l) j k = true
     rw [bt_cl]
     simp [hj, hk, h]
 ·rw [show decide (j < pts n) = false by simp; omega]; simp
theorem map_getD (F : Nat → Nat) (p i : Nat) (h : i < p) : ((List.range p).map F).getD i 0 = F i := by
 rw [List.getD_eq_getElem?_getD, List.getElem?_map, List.getElem?_range h]; rfl
theorem side_of {p : Nat} {R : Int → Int → Bool} (F : Nat → Nat) (hp : p ≤ 64) (h1 : ∀ i, F i < 18446744073709551616) (h2 : ∀ i j : Nat, i < p → (F i).testBit j = (decide (j < p) && R i j)) : SideOf p R ((List.range p).map F) where
 len := by simp
 le := hp
 lt i := by
  by_cases h : i < p
  ·rw [map_getD F p i h]; exact h1 i
  ·rw [List.getD_eq_getElem?_getD, List.getElem?_eq_none (by simp; omega)]; simp
 bit i j hi := by rw [map_getD F p i hi]; exact h2 i j hi
theorem up_side (n : Int) (l : List Nat) : SideOf (pts n) (hasR n l) ((List.range (pts n)).map (upF n l)) := side_of _ (pts_le n) (upF_lt n l) fun i j hi => upF_bit n l i j hi
theorem dn_side (n : Int) (l : List Nat) : SideOf (pts n) (flp (hasR n l)) ((List.range (pts n)).map (dnF n l)) := side_of _ (pts_le n) (dnF_lt n l) fun i j _ => blw_of n l (i : Int) j
def wordN (n : Int) (l : List Nat) (i : Int) : Nat := blw (cl n l) (MM.ofN [i]) (pts n)
theorem wordN_lt (n : Int) (l : List Nat) (i : Int) : wordN n l i < 18446744073709551616 := blw_lt _ _ _
theorem wordN_bit (n : Int) (l : List Nat) (i : Int) (j : Nat) : (wordN n l i).testBit j = (decide (j < pts n) && hasR n l j i) := blw_of n l i j
def ptT (n : Int) (l : List Nat) (w : Nat) (i : Nat) : Bool := wordN n l (i : Int) == w
def ptO (n : Int) (l : List Nat) (w : Nat) : Option Nat := fnd (pts n) (ptT n l w)
def raiseF (n : Int) (l : List Nat) (a b : Nat) (i j k : Option Nat) : Nat := if i.isSome && j.isSome && k.isSome then wordN n l ((k.getD 0 : Nat) : Int) else a ||| b
def joinR (n : Int) (l : List Nat) (i j : Int) : Option Nat := bndO (pts n) (hasR n l) i j
def meetR (n : Int) (l : List Nat) (i j : Int) : Option Nat := bndO (pts n) (flp (hasR n l)) i j
def raiseN (n : Int) (l : List Nat) (a b : Nat) : Nat := raiseF n l a b (ptO n l a) (ptO n l b) (joinR n l (((ptO n l a).getD 0 : Nat) : Int) (((ptO n l b).getD 0 : Nat) : Int))
end
section
open Go.RowKit RM
def SideAt (w : World) (g : Nat) (xs : List Nat) : Prop := w.heap[g]? = some (.cells (ucells xs).toArray 38 (0, 0))
section
variable {w w' : World} {g q B : Nat} {xs : List Nat}
theorem SideAt.lt (h : SideAt w g xs) : g < w.heap.size := (Array.getElem?_eq_some_iff.1 h).1
theorem SideAt.cell (h : SideAt w g xs) (j : Nat) (hj : j < xs.length) : w.cell? ⟨g, j, none⟩ = some (.int .u64 ((xs.getD j 0 : Nat) : Int)) := by
 rw [cell_of_row w g j _ 38 (0, 0) h]
 unfold ucells
 rw [zA1, List.getElem?_map, List.getElem?_eq_getElem hj, List.getD_eq_getElem?_getD, List.getElem?_eq_getElem hj]; rfl
theorem SideAt.free (h : SideAt w g xs) (o : Nat) : w.frozen? ⟨g, o, none⟩ = false := by unfold SideAt at h; simp [World.frozen?, h]
theorem SideAt.below (h : SideAt w g xs) (hb : Below B w w') (hg : g < B) : SideAt w' g xs := (hb.block g hg).trans h
theorem SideAt.alloc (h : SideAt w g xs) (o : Obj) : SideAt (w.alloc o) g xs := (heap_alloc_old w o h.lt).trans h
theorem SideAt.drewN (h : SideAt w g xs) (k : Nat) : SideAt (w.drewN k) g xs := h
theorem SideAt.put (h : SideAt w g xs) (i x : Nat) : SideAt (w.setCell ⟨g, i, none⟩ (.int .u64 (x : Int))) g (xs.set i x) := by
 unfold SideAt at h ⊢
 simp [World.setCell, Array.getElem?_modify, h, ucells, List.map_set]
theorem own_whole {base c : Nat} {e : TypeId} {cs : List Value} (h : w.ownsRow base e 1 (.slice (some ⟨g, 0, none⟩) c c) c cs) : w.heap[g]? = some (.cells cs.toArray e (0, 0)) ∧ base ≤ g := by
 rcases h.2 with ⟨hv, _⟩ | ⟨g', cap, cur, hv, hb, hh, h1, _, h3, h4⟩
 ·cases hv
 ·injection hv with e1 e2 e3
  injection e1 with e1
  injection e1 with e1
  subst e1 e3
  refine ⟨?_, hb⟩
  rw [hh, ← h4, List.take_of_length_le (by simp [h3])]
end
theorem hfirst_any (g : Nat) (xs : List Nat) (hx : ∀ i, xs.getD i 0 < 18446744073709551616) (hl : xs.length ≤ 64) (s : Nat) (hs : s < 18446744073709551616) (w : World) (hg : SideAt w g xs) :
 Calls Tryz.prog 95 #[.slice (some ⟨g, 0, none⟩) xs.length xs.length, .int .u64 (s : Int)] w fun e w' => e = .returned (optV (frsO xs s)) ∧ w = w' := by
 have hc := hg.cell
 have HC := zh hc; clear hc
 have HX := zh hx; clear hx
 have HHIT : Hid (∀ k, k < xs.length → frsT xs s k = true → (∀ j, j < k → frsT xs s j = false) → optV (frsO xs s) = .tuple #[.int .i64 (k : Int), .bool true]) := fun k h1 h2 h3 => by
  unfold frsO; rw [fnd_hit h1 h2 h3, optV_some]
 have HNO : Hid ((∀ j, j < xs.length → frsT xs s j = false) → optV (frsO xs s) = .tuple #[.int .i64 0, .bool false]) := fun h => by
  unfold frsO; rw [fnd_none h, optV_none]
 have HF : Hid (∀ k, frsT xs s k = (s.testBit k && MM.subN s (xs.getD k 0))) := fun _ => rfl
 generalize optV (frsO xs s) = res at *
 generalize frsT xs s = T at *
 clear hg
 generalize xs.length = p at *
 go_enter Tryz.func95, Tryz.ntmps95
 go_wp2_with fail
 go_loop [6, 9] (fun _ kv => ∃ k : Nat, k ≤ p ∧ kv = .int .i64 k ∧ Hid (∀ j, j < k → T j = false)) (fun _ kv => p - (intOf kv).toNat)
 case atStart => exact ⟨0, by omega, rfl, fun j hj => by omega⟩
 case round =>
  obtain ⟨k, hk, rfl, HK⟩ := hrel
  by_cases hlt : k < p
  ·have hck := HC.out k hlt
   have hx := HX.out k
   have HT : Hid (T k = (s.testBit k && MM.subN s (xs.getD k 0))) := HF.out k
   have HKN : Hid (T k = false → ∀ j, j < k + 1 → T j = false) := fun h j hj => by
        by_cases e : j = k
        ·subst e; exact h
        ·exact HK.out j (by omega)
   have HR : Hid (T k = true → res = .tuple #[.int .i64 (k : Int), .bool true]) := fun h => HHIT.out k hlt h HK.out
   have hn : MM.hasN s (k : Int) = s.testBit k := MM.hasN_in s k (by omega)
   generalize xs.getD k 0 = x at *
   generalize T k = t at *
   have HHAS : Hid (∀ w, Calls Tryz.prog 111 #[.int .u64 (s : Int), .int .i64 (k : Int)] w fun e w' => e = .returned (.bool (s.testBit k)) ∧ w = w') := fun w => by
        have h := has_any s hs (k : Int) w
        rw [hn] at h; exact h
   have HSUB : Hid (∀ w, Calls Tryz.prog 40 #[.int .u64 (s : Int), .int .u64 (x : Int)] w fun e w' => e = .returned (.bool (MM.subN s x)) ∧ w = w') := fun w => sub_any s x hs hx w
   clear hn
   generalize s.testBit k = b at *
   generalize MM.subN s x = d at *
   cases b with
   | false =>
     go_wp2_with (go_at_call 111; refine (HHAS.out _).mono ?_; rintro e w' ⟨rfl, rfl⟩)
     go_round
     case rel => exact ⟨k + 1, by omega, by go_num, HKN.out HT.out⟩
     case measure => simp [intOf]; omega
   | true =>
     cases d with
     | false =>
       go_wp2_with (first | (go_at_call 111; refine (HHAS.out _).mono ?_; rintro e w' ⟨rfl, rfl⟩) | (go_at_call 40; refine (HSUB.out _).mono ?_; rintro e w' ⟨rfl, rfl⟩))
       go_round
       case rel => exact ⟨k + 1, by omega, by go_num, HKN.out HT.out⟩
       case measure => simp [intOf]; omega
     | true =>
       go_wp2_with (first | (go_at_call 111; refine (HHAS.out _).mono ?_; rintro e w' ⟨rfl, rfl⟩) | (go_at_call 40; refine (HSUB.out _).mono ?_; rintro e w' ⟨rfl, rfl⟩))
       go_ret2
       exact ⟨congrArg Ending.returned (HR.out HT.out).symm, rfl⟩
  ·have e : k = p := by omega
   subst e
   have HR := zh (HNO.out HK.out)
   go_wp2_with fail
   go_ret2
   exact ⟨congrArg Ending.returned HR.out.symm, rfl⟩
def bdO (xs : List Nat) (i j : Int) : Option Nat := if 0 ≤ i ∧ 0 ≤ j ∧ i < (xs.length : Int) ∧ j < (xs.length : Int) then frsO xs (xs.getD i.toNat 0 &&& xs.getD j.toNat 0) else none
theorem bdO_side {n : Int} {R : Int → Int → Bool} {xs : List Nat} (h : SideOf (pts n) R xs) (hR : ∀ i j : Int, isPt n i = false → R i j = false) (i j : Int) : bdO xs i j = bndO (pts n) R i j := by
 unfold bdO
 rw [h.len]
 split
 ·next hc =>
  obtain ⟨a, rfl⟩ := Int.eq_ofNat_of_zero_le hc.1
  obtain ⟨b, rfl⟩ := Int.eq_ofNat_of_zero_le hc.2.1
  exact frs_bnd h (i := a) (j := b) (by omega) (by omega)
 ·next hc =>
  refine (bnd_no ?_).symm
  cases h1 : isPt n i with
  | false => exact .inl fun u => hR _ _ h1
  | true =>
    cases h2 : isPt n j with
    | false => exact .inr fun u => hR _ _ h2
    | true =>
      have := isPt_iff.1 h1
      have := isPt_iff.1 h2
      omega
theorem hbound_any (g : Nat) (xs : List Nat) (hx : ∀ i, xs.getD i 0 < 18446744073709551616) (hl : xs.length ≤ 64) (i j : Int) (w : World) (hg : SideAt w g xs) :
 Calls Tryz.prog 83 #[.slice (some ⟨g, 0, none⟩) xs.length xs.length, .int .i64 i, .int .i64 j] w fun e w' => e = .returned (optV (bdO xs i j)) ∧ Below w.heap.size w w' := by
 by_cases hlo : i < 0 ∨ j < 0
 ·have hz : bdO xs i j = none := by unfold bdO; rw [if_neg (by omega)]
  rw [hz, optV_none]
  have hm : decide ((if i ≤ j then i else j) < 0) = true := by simp; split <;> omega
  clear hg hz
  generalize xs.length = p at *
  rcases Int.le_total i j with h1 | h1
  ·have h2 : i < 0 := by omega
   go_enter Tryz.func83, Tryz.ntmps83
   go_wp2_with fail
   all_goals (go_ret2; exact ⟨rfl, zB _ _⟩)
  ·have h2 : j < 0 := by omega
   go_enter Tryz.func83, Tryz.ntmps83
   go_wp2_with fail
   all_goals (go_ret2; exact ⟨rfl, zB _ _⟩)
 ·by_cases hhi : (xs.length : Int) ≤ i ∨ (xs.length : Int) ≤ j
  ·have hz : bdO xs i j = none := by unfold bdO; rw [if_neg (by omega)]
   rw [hz, optV_none]
   clear hg hz
   generalize xs.length = p at *
   have h0 : 0 ≤ i := by omega
   have h1 : 0 ≤ j := by omega
   rcases Int.le_total i j with h2 | h2
   ·have h3 : (p : Int) ≤ j := by omega
    go_enter Tryz.func83, Tryz.ntmps83
    go_wp2_with fail
    all_goals (go_ret2; exact ⟨rfl, zB _ _⟩)
   ·have h3 : (p : Int) ≤ i := by omega
    go_enter Tryz.func83, Tryz.ntmps83
    go_wp2_with fail
    all_goals (go_ret2; exact ⟨rfl, zB _ _⟩)
  ·obtain ⟨a, rfl⟩ := Int.eq_ofNat_of_zero_le (show 0 ≤ i by omega)
   obtain ⟨b, rfl⟩ := Int.eq_ofNat_of_zero_le (show 0 ≤ j by omega)
   have ha : a < xs.length := by omega
   have hb : b < xs.length := by omega
   have hz : bdO xs (a : Int) (b : Int) = frsO xs (xs.getD a 0 &&& xs.getD b 0) := by unfold bdO; rw [if_pos (by omega)]; rfl
   rw [hz]
   have hca := hg.cell a ha
   have hcb := hg.cell b hb
   have hxa := hx a
   have hxb := hx b
   have HFI : Hid (∀ w', SideAt w' g xs → Calls Tryz.prog 95 #[.slice (some ⟨g, 0, none⟩) xs.length xs.length, .int .u64 ((xs.getD a 0 &&& xs.getD b 0 : Nat) : Int)] w' fun e w'' => e = .returned (optV (frsO xs (xs.getD a 0 &&& xs.getD b 0))) ∧ w' = w'') :=
        fun w' h => hfirst_any g xs hx hl _ (Nat.lt_of_le_of_lt Nat.and_le_left hxa) w' h
   have HG : Hid (SideAt w g xs) := hg
   clear hg hx hz hlo hhi
   obtain ⟨r1, r2, hv⟩ : ∃ (r1 : Nat) (r2 : Bool), optV (frsO xs (xs.getD a 0 &&& xs.getD b 0)) = .tuple #[.int .i64 (r1 : Int), .bool r2] := ⟨_, _, rfl⟩
   rw [hv] at HFI ⊢
   clear hv
   have e1 : bits BinOp.and IntKind.u64 ((xs.getD a 0 : Nat) : Int) ((xs.getD b 0 : Nat) : Int) = ((xs.getD a 0 &&& xs.getD b 0 : Nat) : Int) := u64_and_nat _ _ hxa hxb
   have HS : Hid (∀ w' : World, w'.heap = w.heap → SideAt w' g xs) := fun w' h => by have := HG.out; unfold SideAt at this ⊢; rw [h]; exact this
   generalize xs.getD a 0 = x at *
   generalize xs.getD b 0 = y at *
   generalize hp : xs.length = p at *
   clear hp
   have h0 : (a : Int) < (p : Int) := by omega
   have h1 : (b : Int) < (p : Int) := by omega
   rcases Int.le_total (a : Int) (b : Int) with h2 | h2
   ·go_enter Tryz.func83, Tryz.ntmps83
    go_wp2_with fail
    all_goals
     go_quiet ((go_at_call 95; exact Calls.quiet_of_same (still_of (HFI.out _ (HS.out _ rfl)))))
     go_wp2_with fail
     go_ret2
     exact ⟨rfl, bdrewN (zB _ _) _⟩
   ·go_enter Tryz.func83, Tryz.ntmps83
    go_wp2_with fail
    all_goals
     go_quiet ((go_at_call 95; exact Calls.quiet_of_same (still_of (HFI.out _ (HS.out _ rfl)))))
     go_wp2_with fail
     go_ret2
     exact ⟨rfl, bdrewN (zB _ _) _⟩
end
section
open Go.RowKit RM
theorem made_zero (p : Nat) : (madeCells (Value.int .u64 0).cells (p * 1)).toList = ucells (List.replicate p 0) := by
 have e : (Value.int .u64 0).cells = #[Value.int .u64 0] := rfl
 rw [e, Nat.mul_one]
 unfold madeCells ucells
 refine List.ext_getElem (by simp) fun i h1 h2 => ?_
 simp [Nat.mod_one]
def sdTo (F : Nat → Nat) (p k : Nat) : List Nat := (List.range p).map fun i => if i < k then F i else 0
theorem sdTo_length (F : Nat → Nat) (p k : Nat) : (sdTo F p k).length = p := by simp [sdTo]
theorem sdTo_zero (F : Nat → Nat) (p : Nat) : sdTo F p 0 = List.replicate p 0 := by
 refine List.ext_getElem (by simp [sdTo]) fun i h1 h2 => ?_
 simp [sdTo]
theorem sdTo_end (F : Nat → Nat) (p : Nat) : sdTo F p p = (List.range p).map F := by
 unfold sdTo
 refine List.map_congr_left fun i hi => ?_
 rw [if_pos (List.mem_range.1 hi)]
theorem sdTo_set (F : Nat → Nat) (p k : Nat) : (sdTo F p k).set k (F k) = sdTo F p (k + 1) := by
 refine List.ext_getElem (by simp [sdTo]) fun i h1 h2 => ?_
 simp only [sdTo, List.getElem_set, List.getElem_map, List.getElem_range]
 by_cases e : k = i
 ·subst e; simp
 ·rw [if_neg e]
  by_cases h : i < k
  ·rw [if_pos h, if_pos (by omega)]
  ·rw [if_neg h, if_neg (by omega)]
theorem hsides_any (n : Int) (l : List Nat) (hl : RW l) (f : FuncId) (hf : ∀ args w, (callFunc f args).run Tryz.prog w = .ok (.enter f args) w) (F : Nat → Nat) (w : World)
 (H : ∀ (i : Nat) W, Below w.heap.size w W → Calls Tryz.prog f #[.agg (rv n l), .int .u64 ((MM.ofN [(i : Int)] : Nat) : Int)] W fun e W' => e = .returned (.int .u64 ((F i : Nat) : Int)) ∧ Below W.heap.size W W') :
 Calls Tryz.prog 84 #[.agg (rv n l), .func (.func f) #[] #[]] w fun e w' => ∃ g, e = .returned (.slice (some ⟨g, 0, none⟩) (pts n) (pts n)) ∧ SideAt w' g ((List.range (pts n)).map F) ∧ Below w.heap.size w w' := by
 obtain ⟨i0, hi, hz0, hz1, hz2⟩ := info_parts infoU64
 have hbytes : i0.bytes * pts n ≤ 281474976710656 := by
  have := pts_le n
  rw [hz2]; omega
 have HBY := zh hbytes
 have HI := zh hi; have HZ0 := zh hz0; have HZ1 := zh hz1
 clear hi hz0 hz1 hz2 hbytes
 have HH := zh H; clear H
 have HNEW : Hid (∀ w, Calls Tryz.prog 82 #[.int .i64 n] w fun e w' => e = .returned (.agg (rv ((pts n : Nat) : Int) zs)) ∧ Below w.heap.size w w') := new_any n
 have hf0 := run_field0 (pts n) zs
 have hr1 := RelAt.new w n l
 have hc0 := hr1.cell0
 have hb : Below w.heap.size w (w.alloc (.cells (rv n l) 59)) := (zB _ _).alloc (zL _) _
 have HB := zh hb; clear hb
 have hp := pts_le n
 have HE : Hid (sdTo F (pts n) (pts n) = (List.range (pts n)).map F) := sdTo_end F (pts n)
 have HZ : Hid (sdTo F (pts n) 0 = List.replicate (pts n) 0) := sdTo_zero F (pts n)
 generalize (List.range (pts n)).map F = res at *
 generalize rv ((pts n : Nat) : Int) zs = rz at *
 generalize pts n = p at *
 go_enter Tryz.func84, Tryz.ntmps84
 go_wp2_with fail
 refine (HNEW.out _).mono ?_
 rintro e w1 ⟨rfl, hb1⟩
 have r1 := hr1.below hb1 hr1.lt
 have hs1 : w.heap.size < w1.heap.size := zT hr1.lt hb1.size
 have HB1 := zh (HB.out.trans (hb1.mono (by simp))); clear hb1 HB hr1 hc0
 go_wp2_with (at_make; refine wpList_make_full _ rfl (.tmp 10) (.tmp 10) 119 rfl w.heap.size 38 i0 _ 1 Tryz.underlying119 HI.out HZ0.out HZ1.out .i64 .i64 _ _ p rfl rfl rfl rfl HBY.out (by unfold maxLen; omega) (Nat.le_of_lt hs1) ?_; intro w2 hown hgr; obtain ⟨hO, _⟩ := own_whole hown; rw [made_zero, ← HZ.out] at hO; have hO2 : SideAt w2 w1.heap.size (sdTo F p 0) := hO; have r2 := r1.grown hgr (fun e => by cases e); have HB2 := zh (HB1.out.trans (((zB w1.heap.size w1).grown hgr (zL _) (fun j hj => by cases hj)).mono (Nat.le_of_lt hs1))); clear hown hgr hO r1 HB1)
 clear hf0 HNEW HBY HI HZ0 HZ1 HZ
 have hg0 : w.heap.size ≠ w1.heap.size := by omega
 have hg1 : w.heap.size ≤ w1.heap.size := by omega
 generalize w1.heap.size = g at *
 clear hs1
 go_loopw [6, 14] (fun _ kv wr => ∃ k : Nat, k ≤ p ∧ kv = .int .i64 k ∧ RelAt wr w.heap.size n l ∧ SideAt wr g (sdTo F p k) ∧ Hid (Below w.heap.size w wr)) (fun _ kv _ => p - (intOf kv).toNat)
 case atStart => exact ⟨0, by omega, rfl, r2, hO2, HB2⟩
 case round =>
  clear r2 hO2 HB2
  obtain ⟨k, hk, rfl, rr, sd, HB⟩ := hrel
  by_cases hlt : k < p
  ·have HLEN : Hid ((sdTo F p k).length = p) := sdTo_length F p k
   have HNX : Hid ((sdTo F p k).set k (F k) = sdTo F p (k + 1)) := sdTo_set F p k
   have HC : Hid (∀ W, Below w.heap.size w W → Calls Tryz.prog f #[.agg (rv n l), .int .u64 ((MM.ofN [(k : Int)] : Nat) : Int)] W fun e W' => e = .returned (.int .u64 ((F k : Nat) : Int)) ∧ Below W.heap.size W W') := fun W h => HH.out k W h
   generalize sdTo F p k = xs at *
   generalize F k = fk at *
   obtain ⟨S, HS, pM, keepS, SI⟩ := ex_mut g wr
   have PM : Hid (∀ w', S w' → Mut g wr w') := pM
   have PB : Hid (∀ w', S w' → Below w.heap.size w w') := fun w' h => HB.out.trans ((pM w' h).below hg1 HB.out.size)
   have pR := fun w' h => rr.mut (pM w' h) hg0
   have b1 : SideAt wr.drew g xs := sd.drewN 1
   clear pM rr sd
   go_wp2_with fail
   refine wp_region_ord S [(0, true), (1, true), (2, true), (3, true), (4, true), (5, false), (6, false), (7, false), (8, true), (9, false)] (by kernel_rfl) (by kernel_rfl) rfl (by kernel_rfl) HS.out ?_
   generalize wr.drew = V at HS b1 ⊢
   iterate 5
        (refine wpOrd_step (zO rfl) ?_)
        (first
         | (refine wpOrd_skip (by rfl) ?_)
         | (refine wpOrd_take (by rfl) (take_loadRel _ rfl _ rfl _ _ hl pR) ?_)
         | (refine wpOrd_take (v := ?_) (by rfl) ?_ ?_; rotate_left 1; (intro wx hSx; go_simp; try with_reducible rfl)))
        (try simp only [Act.put, zA4, zA5, zA6])
   (refine wpOrd_solo (zO rfl) ?_)
   intro K hK
   go_simp
   have hI : Ints (V.alloc (.cells #[.int .i64 (k : Int)] 3)) (some ⟨V.heap.size, 0, none⟩) [(k : Int)] := new_ints V [(k : Int)] 3
   have b2 := b1.alloc (.cells #[.int .i64 (k : Int)] 3)
   have hS := keepS _ _ HS.out ((zB V.heap.size V).alloc (zL _) (.cells #[.int .i64 (k : Int)] 3))
   clear HS b1
   have HS := zh hS; clear hS
   refine hK.out _ _ HS.out ?_
   clear hK K
   (try simp only [Act.put, zA4, zA5, zA6])
   have HI := zh hI; clear hI
   generalize V.alloc (.cells #[.int .i64 (k : Int)] 3) = V2 at HI HS b2 ⊢
   (refine wpOrd_solo (zO rfl) ?_)
   intro K hK
   go_simp
   go_at_call 87
   refine (of_any _ 1 [(k : Int)] _ (by simp) HI.out).mono ?_
   rintro e w' ⟨rfl, rfl⟩
   refine hK.out _ _ HS.out ?_
   clear hK K
   (try simp only [Act.put, zA4, zA5, zA6])
   (refine wpOrd_solo (zO rfl) ?_)
   intro K hK
   go_simp
   refine (HC.out _ (PB.out _ HS.out)).mono ?_
   rintro e w4 ⟨rfl, hb⟩
   have b4 := b2.below hb b2.lt
   have hS := keepS _ _ HS.out hb
   clear HS b2
   have HS := zh hS; clear hS hb
   refine hK.out _ _ HS.out ?_
   clear hK K
   (try simp only [Act.put, zA4, zA5, zA6])
   iterate 1
        (refine wpOrd_step (zO rfl) ?_)
        (first
         | (refine wpOrd_skip (by rfl) ?_)
         | (refine wpOrd_take (v := ?_) (by rfl) ?_ ?_; rotate_left 1; (intro wx hSx; go_simp; try with_reducible rfl)))
        (try simp only [Act.put, zA4, zA5, zA6])
   have hc4 := b4.cell k (by rw [HLEN.out]; exact hlt)
   have hf4 := b4.free k
   (refine wpOrd_solo (zO rfl) ?_)
   intro K hK
   go_simp
   have HM5 := zh ((PM.out _ HS.out).trans (Mut.of_set w4 g k (.int .u64 (fk : Int))))
   have b5 := b4.put k fk
   rw [HNX.out] at b5
   refine hK.out _ _ (SI.out _ HM5.out) ?_
   clear hK K
   (try simp only [Act.put, zA4, zA5, zA6])
   refine wpOrd_done ?_
   have r5 := pR _ (SI.out _ HM5.out)
   have HB5 := zh (PB.out _ (SI.out _ HM5.out))
   clear pR PM PB SI keepS HS HI b4 HM5 hc4 hf4
   go_wp2_with fail
   go_roundw
   case rel => exact ⟨k + 1, by omega, by go_num, r5, b5, HB5⟩
   case measure => simp [intOf]; omega
  ·have e : k = p := by omega
   subst e
   rw [HE.out] at sd
   go_wp2_with fail
   go_ret
   exact ⟨g, rfl, sd, HB.out⟩
theorem hword_any (n : Int) (l : List Nat) (hl : RW l) (i : Int) (w : World) :
 Calls Tryz.prog 71 #[.agg (rv n l), .int .i64 i] w fun e w' => e = .returned (.int .u64 ((wordN n l i : Nat) : Int)) ∧ Below w.heap.size w w' := by
 have HDN : Hid (∀ w, Calls Tryz.prog 86 #[.agg (rv n l), .int .u64 ((MM.ofN [i] : Nat) : Int)] w fun e w' => e = .returned (.int .u64 ((wordN n l i : Nat) : Int)) ∧ Below w.heap.size w w') := fun w => rdown_any n l hl (MM.ofN [i]) (MM.ofN_lt _) w
 generalize wordN n l i = x at *
 have hr1 := RelAt.new w n l
 have hb : Below w.heap.size w (w.alloc (.cells (rv n l) 59)) := (zB _ _).alloc (zL _) _
 have HW := zh hb; clear hb
 go_enter Tryz.func71, Tryz.ntmps71
 go_wp2_with fail
 generalize w.alloc (.cells (rv n l) 59) = W at *
 obtain ⟨S, HS, pW, keepS⟩ := ex_gen W
 have pR := fun w' h => hr1.below (pW w' h) hr1.lt
 have PB : Hid (∀ w', S w' → Below w.heap.size w w') := fun w' h => HW.out.trans ((pW w' h).mono HW.out.size)
 clear pW hr1 HW
 refine wp_region_ord S [(0, true), (1, true), (2, false), (3, false), (4, false), (5, true)] (by kernel_rfl) (by kernel_rfl) rfl (by kernel_rfl) HS.out ?_
 generalize W.drew = V at HS ⊢
 iterate 2
  (refine wpOrd_step (zO rfl) ?_)
  (first
        | (refine wpOrd_skip (by rfl) ?_)
        | (refine wpOrd_take (by rfl) (take_loadRel _ rfl _ rfl _ _ hl pR) ?_)
        | (refine wpOrd_take (v := ?_) (by rfl) ?_ ?_; rotate_left 1; (intro wx hSx; go_simp; try with_reducible rfl)))
  (try simp only [Act.put, zA4, zA5, zA6])
 (refine wpOrd_solo (zO rfl) ?_)
 intro K hK
 go_simp
 have hI : Ints (V.alloc (.cells #[.int .i64 i] 3)) (some ⟨V.heap.size, 0, none⟩) [i] := new_ints V [i] 3
 have hS := keepS _ _ HS.out ((zB V.heap.size V).alloc (zL _) (.cells #[.int .i64 i] 3))
 clear HS
 have HS := zh hS; clear hS
 refine hK.out _ _ HS.out ?_
 clear hK K
 (try simp only [Act.put, zA4, zA5, zA6])
 have HI := zh hI; clear hI
 generalize V.alloc (.cells #[.int .i64 i] 3) = V2 at HI HS ⊢
 (refine wpOrd_solo (zO rfl) ?_)
 intro K hK
 go_simp
 go_at_call 87
 refine (of_any _ 1 [i] _ (by simp) HI.out).mono ?_
 rintro e w' ⟨rfl, rfl⟩
 refine hK.out _ _ HS.out ?_
 clear hK K
 (try simp only [Act.put, zA4, zA5, zA6])
 (refine wpOrd_solo (zO rfl) ?_)
 intro K hK
 go_simp
 go_at_call 86
 refine (HDN.out _).mono ?_
 rintro e w4 ⟨rfl, hb⟩
 have hS := keepS _ _ HS.out hb
 clear HS
 have HS := zh hS; clear hS hb
 refine hK.out _ _ HS.out ?_
 clear hK K
 (try simp only [Act.put, zA4, zA5, zA6])
 iterate 1
  (refine wpOrd_step (zO rfl) ?_)
  (first
        | (refine wpOrd_skip (by rfl) ?_)
        | (refine wpOrd_take (v := ?_) (by rfl) ?_ ?_; rotate_left 1; (intro wx hSx; go_simp; try with_reducible rfl)))
  (try simp only [Act.put, zA4, zA5, zA6])
 refine wpOrd_done ?_
 have HB := zh (PB.out _ HS.out)
 clear pR PB HS keepS HI
 go_wp2_with fail
 go_ret
 exact ⟨rfl, HB.out⟩
end
section
open Go.RowKit RM
def upL (n : Int) (l : List Nat) : List Nat := (List.range (pts n)).map (upF n l)
def dnL (n : Int) (l : List Nat) : List Nat := (List.range (pts n)).map (dnF n l)
theorem upL_len (n : Int) (l : List Nat) : (upL n l).length = pts n := (up_side n l).len
theorem dnL_len (n : Int) (l : List Nat) : (dnL n l).length = pts n := (dn_side n l).len
theorem hup_any (n : Int) (l : List Nat) (hl : RW l) (w : World) (hT : Tab w) :
 Calls Tryz.prog 84 #[.agg (rv n l), .func (.func 85) #[] #[]] w fun e w' => ∃ g, e = .returned (.slice (some ⟨g, 0, none⟩) (pts n) (pts n)) ∧ SideAt w' g (upL n l) ∧ Below w.heap.size w w' :=
 hsides_any n l hl 85 (fun _ _ => by kernel_rfl) (upF n l) w fun i W hb => rup_any n l hl (MM.ofN [(i : Int)]) (MM.ofN_lt _) W (hT.below hb)
theorem hdn_any (n : Int) (l : List Nat) (hl : RW l) (w : World) :
 Calls Tryz.prog 84 #[.agg (rv n l), .func (.func 86) #[] #[]] w fun e w' => ∃ g, e = .returned (.slice (some ⟨g, 0, none⟩) (pts n) (pts n)) ∧ SideAt w' g (dnL n l) ∧ Below w.heap.size w w' :=
 hsides_any n l hl 86 (fun _ _ => by kernel_rfl) (dnF n l) w fun i W _ => rdown_any n l hl (MM.ofN [(i : Int)]) (MM.ofN_lt _) W
theorem hbound_up (n : Int) (l : List Nat) (g : Nat) (i j : Int) (w : World) (hg : SideAt w g (upL n l)) :
 Calls Tryz.prog 83 #[.slice (some ⟨g, 0, none⟩) (pts n) (pts n), .int .i64 i, .int .i64 j] w fun e w' => e = .returned (optV (joinR n l i j)) ∧ Below w.heap.size w w' := by
 have hs := up_side n l
 have h := hbound_any g (upL n l) hs.lt (by rw [upL_len]; exact pts_le n) i j w hg
 rw [upL_len, show bdO (upL n l) i j = joinR n l i j from bdO_side hs (fun a b h => hasR_left h b) i j] at h
 exact h
theorem hbound_dn (n : Int) (l : List Nat) (g : Nat) (i j : Int) (w : World) (hg : SideAt w g (dnL n l)) :
 Calls Tryz.prog 83 #[.slice (some ⟨g, 0, none⟩) (pts n) (pts n), .int .i64 i, .int .i64 j] w fun e w' => e = .returned (optV (meetR n l i j)) ∧ Below w.heap.size w w' := by
 have hs := dn_side n l
 have h := hbound_any g (dnL n l) hs.lt (by rw [dnL_len]; exact pts_le n) i j w hg
 rw [dnL_len, show bdO (dnL n l) i j = meetR n l i j from bdO_side hs (fun a b h => hasR_right h b) i j] at h
 exact h
theorem hjoin_any (n : Int) (l : List Nat) (hl : RW l) (i j : Int) (w : World) (hT : Tab w) :
 Calls Tryz.prog 70 #[.agg (rv n l), .int .i64 i, .int .i64 j] w fun e w' => e = .returned (optV (joinR n l i j)) ∧ Below w.heap.size w w' := by
 have hr1 := RelAt.new w n l
 have hb : Below w.heap.size w (w.alloc (.cells (rv n l) 59)) := (zB _ _).alloc (zL _) _
 have HB := zh hb; clear hb
 have HSD := zh (hup_any n l hl (w.alloc (.cells (rv n l) 59)) (hT.below HB.out))
 have HBO : Hid (∀ g w, SideAt w g (upL n l) → Calls Tryz.prog 83 #[.slice (some ⟨g, 0, none⟩) (pts n) (pts n), .int .i64 i, .int .i64 j] w fun e w' => e = .returned (optV (joinR n l i j)) ∧ Below w.heap.size w w') := fun g w h => hbound_up n l g i j w h
 obtain ⟨r1, r2, hv⟩ : ∃ (r1 : Nat) (r2 : Bool), optV (joinR n l i j) = .tuple #[.int .i64 (r1 : Int), .bool r2] := ⟨_, _, rfl⟩
 rw [hv] at HBO ⊢
 clear hv
 generalize pts n = p at *
 generalize upL n l = xs at *
 go_enter Tryz.func70, Tryz.ntmps70
 go_wp2_with (refine wpList_loadRel rfl _ rfl w.heap.size rfl n l hl hr1 ?_)
 refine HSD.out.mono ?_
 rintro e w1 ⟨g, rfl, hs1, hb1⟩
 have HB1 := zh (HB.out.trans (hb1.mono (by simp))); clear hb1
 go_wp2_with fail
 refine (HBO.out _ _ hs1).mono ?_
 rintro e w2 ⟨rfl, hb2⟩
 have HB2 := zh (HB1.out.trans (hb2.mono HB1.out.size)); clear hb2
 go_wp2_with fail
 go_ret2
 exact ⟨rfl, HB2.out⟩
end
section
open Go.RowKit RM
def latT (n : Int) (l : List Nat) (i j : Nat) : Bool := (joinR n l i j).isSome && (meetR n l i j).isSome
def latB (n : Int) (l : List Nat) : Bool := decide (1 ≤ n) && decide (n ≤ 64) && ordR n l && (List.range (pts n)).all fun i => (List.range i).all fun j => latT n l i j
theorem latB_low {n : Int} {l : List Nat} (h : n < 1) : latB n l = false := by unfold latB; rw [show decide (1 ≤ n) = false by simp; omega]; rfl
theorem latB_high {n : Int} {l : List Nat} (h : 64 < n) : latB n l = false := by unfold latB; rw [show decide (n ≤ 64) = false by simp; omega]; simp
theorem latB_ord {n : Int} {l : List Nat} (h : ordR n l = false) : latB n l = false := by unfold latB; rw [h]; simp
theorem latB_pair {n : Int} {l : List Nat} {a b : Nat} (ha : a < pts n) (hb : b < a) (h : latT n l a b = false) : latB n l = false := by
 unfold latB
 rw [show ((List.range (pts n)).all fun i => (List.range i).all fun j => latT n l i j) = false by
  rw [Bool.eq_false_iff]
  intro h2
  rw [List.all_eq_true] at h2
  have h3 := h2 a (List.mem_range.2 ha)
  rw [List.all_eq_true] at h3
  rw [h3 b (List.mem_range.2 hb)] at h
  cases h]
 simp
theorem latB_yes {n : Int} {l : List Nat} (h1 : 1 ≤ n) (h2 : n ≤ 64) (ho : ordR n l = true) (h : ∀ a, a < pts n → ∀ b, b < a → latT n l a b = true) : latB n l = true := by
 unfold latB
 rw [ho]
 simp only [Bool.and_eq_true, decide_eq_true_eq, List.all_eq_true, List.mem_range]
 exact ⟨⟨⟨h1, h2⟩, trivial⟩, h⟩
theorem hpoint_any (n : Int) (l : List Nat) (hl : RW l) (v : Nat) (w : World) :
 Calls Tryz.prog 69 #[.agg (rv n l), .int .u64 (v : Int)] w fun e w' => e = .returned (optV (ptO n l v)) ∧ Below w.heap.size w w' := by
 have hr1 := RelAt.new w n l
 have hc0 := hr1.cell0
 have hb : Below w.heap.size w (w.alloc (.cells (rv n l) 59)) := (zB _ _).alloc (zL _) _
 have HB := zh hb; clear hb
 have HNEW : Hid (∀ w, Calls Tryz.prog 82 #[.int .i64 n] w fun e w' => e = .returned (.agg (rv ((pts n : Nat) : Int) zs)) ∧ Below w.heap.size w w') := new_any n
 have HWD : Hid (∀ (i : Nat) w, Calls Tryz.prog 71 #[.agg (rv n l), .int .i64 (i : Int)] w fun e w' => e = .returned (.int .u64 ((wordN n l i : Nat) : Int)) ∧ Below w.heap.size w w') := fun i w => hword_any n l hl i w
 have hf0 := run_field0 (pts n) zs
 have hp := pts_le n
 have HHIT : Hid (∀ k : Nat, k < pts n → (wordN n l k == v) = true → (∀ j : Nat, j < k → (wordN n l j == v) = false) → optV (ptO n l v) = .tuple #[.int .i64 (k : Int), .bool true]) := fun k h1 h2 h3 => by
  unfold ptO; rw [fnd_hit (P := ptT n l v) h1 h2 h3, optV_some]
 have HNO : Hid ((∀ j : Nat, j < pts n → (wordN n l j == v) = false) → optV (ptO n l v) = .tuple #[.int .i64 0, .bool false]) := fun h => by
  unfold ptO; rw [fnd_none (P := ptT n l v) h, optV_none]
 generalize optV (ptO n l v) = res at *
 generalize rv ((pts n : Nat) : Int) zs = rz at *
 generalize pts n = p at *
 go_enter Tryz.func69, Tryz.ntmps69
 go_wp2_with fail
 refine (HNEW.out _).mono ?_
 rintro e w1 ⟨rfl, hb1⟩
 have r1 := hr1.below hb1 hr1.lt
 have HB1 := zh (HB.out.trans (hb1.mono (by simp))); clear hb1 HB hr1 hc0
 go_wp2_with fail
 clear hf0 HNEW
 go_loopw [6, 11] (fun _ kv wr => ∃ k : Nat, k ≤ p ∧ kv = .int .i64 k ∧ RelAt wr w.heap.size n l ∧ Hid (Below w.heap.size w wr) ∧ Hid (∀ j : Nat, j < k → (wordN n l j == v) = false)) (fun _ kv _ => p - (intOf kv).toNat)
 case atStart => exact ⟨0, by omega, rfl, r1, HB1, fun j hj => by omega⟩
 case round =>
  clear r1 HB1
  obtain ⟨k, hk, rfl, rr, HB, HK⟩ := hrel
  by_cases hlt : k < p
  ·have HC := zh (HWD.out k)
   have HKN : Hid ((wordN n l k == v) = false → ∀ j : Nat, j < k + 1 → (wordN n l j == v) = false) := fun h j hj => by
        by_cases e : j = k
        ·subst e; exact h
        ·exact HK.out j (by omega)
   have HR : Hid ((wordN n l k == v) = true → res = .tuple #[.int .i64 (k : Int), .bool true]) := fun h => HHIT.out k hlt h HK.out
   have hxv : (((wordN n l k : Nat) : Int) == (v : Int)) = (wordN n l k == v) := by rw [Bool.eq_iff_iff]; simp; omega
   generalize wordN n l k = x at *
   go_wp2_with (refine wpList_loadRel rfl _ rfl w.heap.size rfl n l hl rr ?_)
   refine (HC.out _).mono ?_
   rintro e w2 ⟨rfl, hb2⟩
   have r2 := rr.below hb2 rr.lt
   have HB2 := zh (HB.out.trans (hb2.mono HB.out.size)); clear hb2 rr HB
   cases ht : (x == v) with
   | false =>
     rw [ht] at hxv
     have HKN2 := zh (HKN.out ht); clear ht HR HKN
     go_wp2_with fail
     go_roundw
     case rel => exact ⟨k + 1, by omega, by go_num, r2, HB2, HKN2⟩
     case measure => simp [intOf]; omega
   | true =>
     rw [ht] at hxv
     have HR2 := zh (HR.out ht); clear ht HR HKN
     go_wp2_with fail
     go_ret2
     exact ⟨congrArg Ending.returned HR2.out.symm, HB2.out⟩
  ·have e : k = p := by omega
   subst e
   have HR := zh (HNO.out HK.out)
   go_wp2_with fail
   go_ret2
   exact ⟨congrArg Ending.returned HR.out.symm, HB.out⟩
theorem hraise_any (n : Int) (l : List Nat) (hl : RW l) (a b : Nat) (ha : a < 18446744073709551616) (hb : b < 18446744073709551616) (w : World) (hT : Tab w) :
 Calls Tryz.prog 58 #[.agg (rv n l), .int .u64 (a : Int), .int .u64 (b : Int)] w fun e w' => e = .returned (.int .u64 ((raiseN n l a b : Nat) : Int)) ∧ Below w.heap.size w w' := by
 have hr1 := RelAt.new w n l
 have hb0 : Below w.heap.size w (w.alloc (.cells (rv n l) 59)) := (zB _ _).alloc (zL _) _
 have HB := zh hb0; clear hb0
 obtain ⟨pa, ea⟩ : ∃ pa, pa = ptO n l a := ⟨_, rfl⟩
 obtain ⟨pb, eb⟩ : ∃ pb, pb = ptO n l b := ⟨_, rfl⟩
 obtain ⟨k, ek⟩ : ∃ k, k = joinR n l ((pa.getD 0 : Nat) : Int) ((pb.getD 0 : Nat) : Int) := ⟨_, rfl⟩
 have HPA : Hid (∀ w, Calls Tryz.prog 69 #[.agg (rv n l), .int .u64 (a : Int)] w fun e w' => e = .returned (optV pa) ∧ Below w.heap.size w w') := fun w => by rw [ea]; exact hpoint_any n l hl a w
 have HPB : Hid (∀ w, Calls Tryz.prog 69 #[.agg (rv n l), .int .u64 (b : Int)] w fun e w' => e = .returned (optV pb) ∧ Below w.heap.size w w') := fun w => by rw [eb]; exact hpoint_any n l hl b w
 have HJ : Hid (∀ w, Tab w → Calls Tryz.prog 70 #[.agg (rv n l), .int .i64 ((pa.getD 0 : Nat) : Int), .int .i64 ((pb.getD 0 : Nat) : Int)] w fun e w' => e = .returned (optV k) ∧ Below w.heap.size w w') := fun w h => by rw [ek]; exact hjoin_any n l hl _ _ w h
 have HWD : Hid (∀ w, Calls Tryz.prog 71 #[.agg (rv n l), .int .i64 ((k.getD 0 : Nat) : Int)] w fun e w' => e = .returned (.int .u64 ((wordN n l ((k.getD 0 : Nat) : Int) : Nat) : Int)) ∧ Below w.heap.size w w') := fun w => hword_any n l hl _ w
 have HV : Hid (raiseN n l a b = if pa.isSome && pb.isSome && k.isSome then wordN n l ((k.getD 0 : Nat) : Int) else a ||| b) := by
  show raiseN n l a b = _
  unfold raiseN raiseF
  rw [← ea, ← eb, ← ek]
 have hor : bits BinOp.or IntKind.u64 (a : Int) (b : Int) = ((a ||| b : Nat) : Int) := u64_or_nat a b ha hb
 have HOR := zh hor; clear hor
 clear ea eb ek
 unfold optV at HPA HPB HJ
 generalize raiseN n l a b = res at *
 generalize wordN n l ((k.getD 0 : Nat) : Int) = wd at *
 generalize pa.getD 0 = x at *
 generalize pb.getD 0 = y at *
 generalize k.getD 0 = z at *
 generalize pa.isSome = b1 at *
 generalize pb.isSome = b2 at *
 generalize k.isSome = b3 at *
 have HT := zh hT; clear hT
 go_enter Tryz.func58, Tryz.ntmps58
 go_wp2_with (refine wpList_loadRel rfl _ rfl w.heap.size rfl n l hl hr1 ?_)
 refine (HPA.out _).mono ?_
 rintro e w1 ⟨rfl, hb1⟩
 have r1 := hr1.below hb1 hr1.lt
 have HB1 := zh (HB.out.trans (hb1.mono HB.out.size)); clear hb1
 go_wp2_with (refine wpList_loadRel rfl _ rfl w.heap.size rfl n l hl r1 ?_)
 refine (HPB.out _).mono ?_
 rintro e w2 ⟨rfl, hb2⟩
 have r2 := r1.below hb2 r1.lt
 have HB2 := zh (HB1.out.trans (hb2.mono HB1.out.size)); clear hb2
 go_wp2_with (refine wpList_loadRel rfl _ rfl w.heap.size rfl n l hl r2 ?_)
 refine (HJ.out _ (HT.out.below HB2.out)).mono ?_
 rintro e w3 ⟨rfl, hb3⟩
 have r3 := r2.below hb3 r2.lt
 have HB3 := zh (HB2.out.trans (hb3.mono HB2.out.size)); clear hb3
 clear hr1 r1 r2 HB HB1 HB2 HPA HPB HJ
 cases b1 with
 | false =>
   go_wp2_with fail
   go_ret
   exact ⟨ret_eq (by rw [HV.out]; exact int_eq HOR.out), HB3.out⟩
 | true =>
   cases b2 with
   | false =>
     go_wp2_with fail
     go_ret
     exact ⟨ret_eq (by rw [HV.out]; exact int_eq HOR.out), HB3.out⟩
   | true =>
     cases b3 with
     | false =>
       go_wp2_with fail
       go_ret
       exact ⟨ret_eq (by rw [HV.out]; exact int_eq HOR.out), HB3.out⟩
     | true =>
       go_wp2_with (refine wpList_loadRel rfl _ rfl w.heap.size rfl n l hl r3 ?_)
       refine (HWD.out _).mono ?_
       rintro e w4 ⟨rfl, hb4⟩
       have HB4 := zh (HB3.out.trans (hb4.mono HB3.out.size)); clear hb4
       go_wp2_with fail
       go_ret
       exact ⟨ret_eq (by rw [HV.out]; rfl), HB4.out⟩
end
section
open Go.RowKit RM
structure Lat (p : Nat) (R : Int → Int → Bool) : Prop where
 pos : 1 ≤ p
 refl : ∀ a : Nat, a < p → R a a = true
 trans : ∀ a b c : Nat, a < p → b < p → c < p → R a b = true → R b c = true → R a c = true
 anti : ∀ a b : Nat, a < p → b < p → R a b = true → R b a = true → a = b
 join : ∀ a b : Nat, a < p → b < p → (bndO p R a b).isSome = true
 meet : ∀ a b : Nat, a < p → b < p → (bndO p (flp R) a b).isSome = true
def bJ (p : Nat) (R : Int → Int → Bool) (a b : Nat) : Nat := (bndO p R a b).getD 0
section
variable {p : Nat} {R : Int → Int → Bool} {a b c : Nat}
theorem bndT_iff {u : Nat} : bndT p R a b u = true ↔ R a u = true ∧ R b u = true ∧ ∀ v : Nat, v < p → R a v = true → R b v = true → R u v = true := by
 unfold bndT
 rw [Bool.and_eq_true, Bool.and_eq_true, List.all_eq_true, and_assoc]
 refine and_congr_right fun _ => and_congr_right fun _ => ?_
 constructor
 ·intro h v hv h1 h2
  have := h v (List.mem_range.2 hv)
  simpa [h1, h2] using this
 ·intro h v hv
  have := h v (List.mem_range.1 hv)
  cases h1 : R a v with
  | false => simp
  | true =>
    cases h2 : R b v with
    | false => simp
    | true => simp [this h1 h2]
theorem bJ_spec (h : Lat p R) (ha : a < p) (hb : b < p) : bJ p R a b < p ∧ R a (bJ p R a b) = true ∧ R b (bJ p R a b) = true ∧ ∀ v : Nat, v < p → R a v = true → R b v = true → R (bJ p R a b) v = true := by
 obtain ⟨k, hk⟩ := Option.isSome_iff_exists.1 (h.join a b ha hb)
 have e : bJ p R a b = k := by unfold bJ; rw [hk]; rfl
 rw [e]
 obtain ⟨h1, h2⟩ := fnd_some hk
 exact ⟨h1, bndT_iff.1 h2⟩
end
theorem bnd_comm {p : Nat} {R : Int → Int → Bool} {a b : Nat} : bndO p R a b = bndO p R b a := by
 unfold bndO
 refine fnd_congr fun k _ => ?_
 rw [Bool.eq_iff_iff, bndT_iff, bndT_iff]
 exact ⟨fun h => ⟨h.2.1, h.1, fun v hv h1 h2 => h.2.2 v hv h2 h1⟩, fun h => ⟨h.2.1, h.1, fun v hv h1 h2 => h.2.2 v hv h2 h1⟩⟩
theorem bnd_self {p : Nat} {R : Int → Int → Bool} {a : Nat} (ha : a < p) (h : R a a = true) : (bndO p R a a).isSome = true := fnd_ex ha (bndT_iff.2 ⟨h, h, fun _ _ h1 _ => h1⟩)
theorem lat_of {n : Int} {l : List Nat} (h : latB n l = true) : Lat (pts n) (hasR n l) := by
 unfold latB at h
 simp only [Bool.and_eq_true, decide_eq_true_eq, List.all_eq_true, List.mem_range] at h
 obtain ⟨⟨⟨h1, h2⟩, ho⟩, hp⟩ := h
 unfold ordR at ho
 rw [Bool.and_eq_true] at ho
 obtain ⟨hc, ha⟩ := ho
 have hC := (closedB_iff n l).1 hc
 have hpn := pts_in (show 0 ≤ n by omega) h2
 unfold antiB at ha
 rw [List.all_eq_true] at ha
 have hlt : ∀ i j : Nat, i < pts n → j < i → bt l i j = true → bt l j i = true → False := fun i j hi hj h1 h2 => by
  have := ha i (List.mem_range.2 hi)
  unfold fstB at this
  rw [List.all_eq_true] at this
  have := this j (List.mem_range.2 hj)
  rw [h1, h2] at this
  cases this
 have hall : ∀ i j : Nat, i < pts n → j < pts n → (joinR n l i j).isSome = true ∧ (meetR n l i j).isSome = true := fun i j hi hj => by
  rcases Nat.lt_trichotomy i j with h | h | h
  ·have := hp j hj i h
   unfold latT at this
   rw [Bool.and_eq_true] at this
   exact ⟨by unfold joinR; rw [bnd_comm]; exact this.1, by unfold meetR; rw [bnd_comm]; exact this.2⟩
  ·subst h
   have hr : hasR n l i i = true := by rw [hasR_nat hi hi]; exact hC.1 i hi
   exact ⟨bnd_self hi hr, bnd_self (R := flp (hasR n l)) hi hr⟩
  ·have := hp i hi j h
   unfold latT at this
   rw [Bool.and_eq_true] at this
   exact this
 exact {
  pos := by omega
  refl := fun a ha => by rw [hasR_nat ha ha]; exact hC.1 a ha
  trans := fun a b c ha hb hc h1 h2 => by
   rw [hasR_nat ha hb] at h1
   rw [hasR_nat hb hc] at h2
   rw [hasR_nat ha hc]
   exact hC.2 a b c ha hb hc h1 h2
  anti := fun a b ha hb h1 h2 => by
   rw [hasR_nat ha hb] at h1
   rw [hasR_nat hb ha] at h2
   rcases Nat.lt_trichotomy a b with h | h | h
   ·exact absurd (hlt b a hb h h2 h1) id
   ·exact h
   ·exact absurd (hlt a b ha h h1 h2) id
  join := fun a b ha hb => (hall a b ha hb).1
  meet := fun a b ha hb => (hall a b ha hb).2 }
theorem lat_n {n : Int} {l : List Nat} (h : latB n l = true) : 1 ≤ n ∧ n ≤ 64 := by
 unfold latB at h
 simp only [Bool.and_eq_true, decide_eq_true_eq] at h
 exact h.1.1
section
variable {n : Int} {l : List Nat} {a b : Nat}
theorem word_inj (h : Lat (pts n) (hasR n l)) (ha : a < pts n) (hb : b < pts n) (e : wordN n l a = wordN n l b) : a = b := by
 have h1 := wordN_bit n l b a
 have h2 := wordN_bit n l a b
 rw [← e, wordN_bit, h.refl a ha] at h1
 rw [e, wordN_bit, h.refl b hb] at h2
 refine h.anti a b ha hb ?_ ?_
 ·simpa [ha] using h1.symm
 ·simpa [hb] using h2.symm
theorem pt_word (h : Lat (pts n) (hasR n l)) (ha : a < pts n) : ptO n l (wordN n l a) = some a := by
 unfold ptO
 refine fnd_hit ha (by unfold ptT; exact beq_self_eq_true _) fun j hj => ?_
 unfold ptT
 rw [beq_eq_false_iff_ne]
 intro e
 have := word_inj h (show j < pts n by omega) ha e
 omega
theorem word_sub (h : Lat (pts n) (hasR n l)) (ha : a < pts n) (hb : b < pts n) : MM.subN (wordN n l a) (wordN n l b) = hasR n l a b := by
 have hp := pts_le n
 rw [Bool.eq_iff_iff, subN_iff]
 constructor
 ·intro h1
  have := h1 a (by omega) (by rw [wordN_bit, h.refl a ha]; simp [ha])
  rw [wordN_bit] at this
  simpa [ha] using this
 ·intro h1 v _ h2
  rw [wordN_bit, Bool.and_eq_true, decide_eq_true_eq] at h2
  rw [wordN_bit, h.trans v a b h2.1 ha hb h2.2 h1]
  simp [h2.1]
theorem word_raise (h : Lat (pts n) (hasR n l)) (ha : a < pts n) (hb : b < pts n) : raiseN n l (wordN n l a) (wordN n l b) = wordN n l ((joinR n l a b).getD 0 : Nat) := by
 unfold raiseN raiseF
 rw [pt_word h ha, pt_word h hb]
 have hj : (joinR n l a b).isSome = true := h.join a b ha hb
 simp only [Option.getD_some, Option.isSome_some, Bool.true_and, hj, if_true]
end
end
end Go.Proofs.YtdahllhbpdbknaaGreatDoor
