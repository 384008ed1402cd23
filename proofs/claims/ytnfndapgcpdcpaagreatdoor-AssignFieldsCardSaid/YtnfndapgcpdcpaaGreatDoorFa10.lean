/- Texts that all the claims need. Conditions: those that each states. -/
import Derived.BigRegion
import Derived.Deep.CutRange
import Derived.OwnWalk
import Derived.Test.YtnfndapgcpdcpaaGreatDoorFa6
set_option linter.unusedSimpArgs false
set_option linter.unusedVariables false
set_option maxRecDepth 100000
set_option maxHeartbeats 40000000
namespace Go.Proofs.YtnfndapgcpdcpaaGreatDoor
section
open Go.RowKit RM
def fnd (p : Nat) (P : Nat → Bool) : Option Nat := (List.range p).find? P
theorem fnd_hit {p k : Nat} {P : Nat → Bool} (hk : k < p) (h : P k = true) (hn : ∀ j, j < k → P j = false) : fnd p P = some k := by
 unfold fnd
 rw [List.find?_range_eq_some]
 exact ⟨h, List.mem_range.2 hk, fun j hj => by rw [hn j hj]; rfl⟩
theorem fnd_none {p : Nat} {P : Nat → Bool} (hn : ∀ j, j < p → P j = false) : fnd p P = none := by
 unfold fnd
 rw [List.find?_range_eq_none]
 exact fun j hj => by rw [hn j hj]; rfl
theorem fnd_some {p k : Nat} {P : Nat → Bool} (h : fnd p P = some k) : k < p ∧ P k = true := by
 unfold fnd at h
 rw [List.find?_range_eq_some] at h
 exact ⟨List.mem_range.1 h.2.1, h.1⟩
theorem fnd_congr {p : Nat} {P Q : Nat → Bool} (h : ∀ k, k < p → P k = Q k) : fnd p P = fnd p Q := by
 cases e : fnd p Q with
 | none =>
   unfold fnd at e
   rw [List.find?_range_eq_none] at e
   exact fnd_none fun j hj => by rw [h j hj]; simpa using e j hj
 | some k =>
   unfold fnd at e
   rw [List.find?_range_eq_some] at e
   have hk := List.mem_range.1 e.2.1
   exact fnd_hit hk (by rw [h k hk]; exact e.1) fun j hj => by rw [h j (by omega)]; simpa using e.2.2 j hj
def optV (o : Option Nat) : Value := .tuple #[.int .i64 ((o.getD 0 : Nat) : Int), .bool o.isSome]
theorem optV_some (k : Nat) : optV (some k) = .tuple #[.int .i64 (k : Int), .bool true] := rfl
theorem optV_none : optV none = .tuple #[.int .i64 0, .bool false] := rfl
def bndT (p : Nat) (R : Int → Int → Bool) (i j : Int) (u : Nat) : Bool := R i u && R j u && (List.range p).all fun v => !(R i v && R j v) || R u v
def bndO (p : Nat) (R : Int → Int → Bool) (i j : Int) : Option Nat := fnd p (bndT p R i j)
def endO (p : Nat) (R : Int → Int → Bool) : Option Nat := fnd p fun u => (List.range p).all fun v => R u v
def flp (R : Int → Int → Bool) (a b : Int) : Bool := R b a
structure SideOf (p : Nat) (R : Int → Int → Bool) (xs : List Nat) : Prop where
 len : xs.length = p
 le : p ≤ 64
 lt : ∀ i, xs.getD i 0 < 18446744073709551616
 bit : ∀ i j : Nat, i < p → (xs.getD i 0).testBit j = (decide (j < p) && R i j)
def frsT (xs : List Nat) (s k : Nat) : Bool := s.testBit k && MM.subN s (xs.getD k 0)
def frsO (xs : List Nat) (s : Nat) : Option Nat := fnd xs.length (frsT xs s)
theorem subN_iff {a b : Nat} : MM.subN a b = true ↔ ∀ i, i < 64 → a.testBit i = true → b.testBit i = true := by
 unfold MM.subN
 rw [List.all_eq_true]
 exact ⟨fun h i hi ha => h i (MM.mem_els.2 ⟨hi, ha⟩), fun h i hi => h i (MM.mem_els.1 hi).1 (MM.mem_els.1 hi).2⟩
theorem frs_bnd {p : Nat} {R : Int → Int → Bool} {xs : List Nat} (h : SideOf p R xs) {i j : Nat} (hi : i < p) (hj : j < p) : frsO xs (xs.getD i 0 &&& xs.getD j 0) = bndO p R i j := by
 unfold frsO bndO
 rw [h.len]
 refine fnd_congr fun k hk => ?_
 unfold frsT bndT
 rw [Nat.testBit_and, h.bit i k hi, h.bit j k hj, Bool.eq_iff_iff]
 simp only [Bool.and_eq_true, decide_eq_true_eq, List.all_eq_true, List.mem_range, subN_iff, Nat.testBit_and, h.bit i _ hi, h.bit j _ hj, h.bit k _ hk, Bool.or_eq_true, Bool.not_eq_true', Bool.and_eq_false_iff]
 constructor
 ·rintro ⟨⟨⟨_, h1⟩, _, h2⟩, h3⟩
  refine ⟨⟨h1, h2⟩, fun v hv => ?_⟩
  cases e1 : R i v with
  | false => simp
  | true =>
    cases e2 : R j v with
    | false => simp
    | true => exact .inr (h3 v (by have := h.le; omega) ⟨⟨hv, e1⟩, hv, e2⟩).2
 ·rintro ⟨⟨h1, h2⟩, h3⟩
  refine ⟨⟨⟨hk, h1⟩, hk, h2⟩, fun v _ hv => ⟨hv.1.1, ?_⟩⟩
  rcases h3 v hv.1.1 with (h4 | h4) | h4
  ·rw [hv.1.2] at h4; cases h4
  ·rw [hv.2.2] at h4; cases h4
  ·exact h4
theorem frs_end {p : Nat} {n : Int} {R : Int → Int → Bool} {xs : List Nat} (h : SideOf p R xs) (hp : p = pts n) : frsO xs (MM.belowN n) = endO p R := by
 have hle := h.le
 have hb : ∀ k, k < 64 → (MM.belowN n).testBit k = decide (k < p) := fun k hk => by
  rw [belowN_bit, Bool.eq_iff_iff]
  simp only [Bool.and_eq_true, decide_eq_true_eq]
  subst hp
  unfold pts
  split
  ·omega
  ·split <;> omega
 unfold frsO endO
 rw [h.len]
 refine fnd_congr fun k hk => ?_
 unfold frsT
 rw [hb k (by omega), Bool.eq_iff_iff]
 simp only [Bool.and_eq_true, decide_eq_true_eq, List.all_eq_true, List.mem_range, subN_iff, h.bit k _ hk]
 constructor
 ·rintro ⟨_, h1⟩ v hv
  exact (h1 v (by omega) (by rw [hb v (by omega)]; simp [hv])).2
 ·intro h1
  refine ⟨hk, fun v hv h2 => ?_⟩
  rw [hb v hv] at h2
  have hv2 : v < p := by simpa using h2
  exact ⟨hv2, h1 v hv2⟩
theorem bnd_no {p : Nat} {R : Int → Int → Bool} {i j : Int} (h : (∀ u : Nat, R i u = false) ∨ ∀ u : Nat, R j u = false) : bndO p R i j = none := fnd_none fun u _ => by
 unfold bndT
 rcases h with h | h <;> rw [h u] <;> simp
theorem hasR_left {n : Int} {l : List Nat} {i : Int} (h : isPt n i = false) (j : Int) : hasR n l i j = false := by unfold hasR; rw [h]; rfl
theorem hasR_right {n : Int} {l : List Nat} {i : Int} (h : isPt n i = false) (j : Int) : hasR n l j i = false := by unfold hasR; rw [h]; simp
theorem hasR_nat {n : Int} {l : List Nat} {a b : Nat} (h1 : a < pts n) (h2 : b < pts n) : hasR n l a b = bt l a b := by
 unfold hasR
 rw [isPt_nat, isPt_nat]
 simp [h1, h2]
theorem of1_bit (i j : Nat) : (MM.ofN [(i : Int)]).testBit j = (decide (j < 64) && decide (j = i)) := by
 rw [MM.ofN_bit]
 congr 1
 rw [Bool.eq_iff_iff]
 simp
 omega
def upF (n : Int) (l : List Nat) (i : Nat) : Nat := abv (cl n l) (MM.ofN [(i : Int)])
def dnF (n : Int) (l : List Nat) (i : Nat) : Nat := blw (cl n l) (MM.ofN [(i : Int)]) (pts n)
theorem upF_lt (n : Int) (l : List Nat) (i : Nat) : upF n l i < 18446744073709551616 := abv_lt (RW.mk _ _) _
theorem dnF_lt (n : Int) (l : List Nat) (i : Nat) : dnF n l i < 18446744073709551616 := blw_lt _ _ _
theorem upF_bit (n : Int) (l : List Nat) (i j : Nat) (hi : i < pts n) : (upF n l i).testBit j = (decide (j < pts n) && hasR n l i j) := by
 have hp := pts_le n
 unfold upF
 rw [Bool.eq_iff_iff, abv_bit, Bool.and_eq_true, decide_eq_true_eq]
 constructor
 ·rintro ⟨k, hk, h1, h2⟩
  rw [of1_bit] at h1
  have : k = i := by simpa [hk] using h1
  subst this
  rw [bt_cl] at h2
  simp only [Bool.and_eq_true, decide_eq_true_eq] at h2
  exact ⟨h2.1.2, by rw [hasR_nat hi h2.1.2]; exact h2.2⟩
 ·rintro ⟨h1, h2⟩
  rw [hasR_nat hi h1] at h2
  exact ⟨i, by omega, by rw [of1_bit]; simp; omega, by rw [bt_cl]; simp [hi, h1, h2]⟩
theorem blw_of (n : Int) (l : List Nat) (i : Int) (j : Nat) : (blw (cl n l) (MM.ofN [i]) (pts n)).testBit j = (decide (j < pts n) && hasR n l j i) := by
 have hp := pts_le n
 rw [blw_bit]
 by_cases hj : j < pts n
 ·rw [show decide (j < 64) = true by simp; omega, show decide (j < pts n) = true by simp [hj], Bool.true_and, Bool.true_and, Bool.true_and, Bool.eq_iff_iff,
   and_ne (x := (cl n l).getD j 0) (RW.lt (RW.mk _ _) j)]
  constructor
  ·rintro ⟨k, hk, h1, h2⟩
   rw [MM.ofN_bit] at h2
   have h3 : (k : Int) = i := by simpa [hk] using h2
   subst h3
   have h4 : bt (cl n l) j k = true := h1
   rw [bt_cl] at h4
   simp only [Bool.and_eq_true, decide_eq_true_eq] at h4
   rw [hasR_nat hj h4.1.2]
   exact h4.2
  ·intro h
   cases h5 : isPt n i with
   | false => rw [hasR_right h5] at h; cases h
   | true =>
     obtain ⟨h6, h7⟩ := isPt_iff.1 h5
     obtain ⟨k, rfl⟩ := Int.eq_ofNat_of_zero_le h6
     have hk : k < pts n := by omega
     rw [hasR_nat hj hk] at h
     refine ⟨k, by omega, ?_, by rw [of1_bit]; simp; omega⟩
     show bt (cl n l) j k = true
     rw [bt_cl]
     simp [hj, hk, h]
 ·rw [show decide (j < pts n) = false by simp; omega]; simp
theorem map_getD (F : Nat → Nat) (p i : Nat) (h : i < p) : ((List.range p).map F).getD i 0 = F i := by
 rw [List.getD_eq_getElem?_getD, List.getElem?_map, List.getElem?_range h]; rfl
theorem side_of {p : Nat} {R : Int → Int → Bool} (F : Nat → Nat) (hp : p ≤ 64) (h1 : ∀ i, F i < 18446744073709551616) (h2 : ∀ i j : Nat, i < p → (F i).testBit j = (decide (j < p) && R i j)) : SideOf p R ((List.range p).map F) where
 len := by simp
 le := hp
 lt i := by
  by_cases h : i < p
  ·rw [map_getD F p i h]; exact h1 i
  ·rw [List.getD_eq_getElem?_getD, List.getElem?_eq_none (by simp; omega)]; simp
 bit i j hi := by rw [map_getD F p i hi]; exact h2 i j hi
theorem up_side (n : Int) (l : List Nat) : SideOf (pts n) (hasR n l) ((List.range (pts n)).map (upF n l)) := side_of _ (pts_le n) (upF_lt n l) fun i j hi => upF_bit n l i j hi
theorem dn_side (n : Int) (l : List Nat) : SideOf (pts n) (flp (hasR n l)) ((List.range (pts n)).map (dnF n l)) := side_of _ (pts_le n) (dnF_lt n l) fun i j _ => blw_of n l (i : Int) j
def wordN (n : Int) (l : List Nat) (i : Int) : Nat := blw (cl n l) (MM.ofN [i]) (pts n)
theorem wordN_lt (n : Int) (l : List Nat) (i : Int) : wordN n l i < 18446744073709551616 := blw_lt _ _ _
def ptT (n : Int) (l : List Nat) (w : Nat) (i : Nat) : Bool := wordN n l (i : Int) == w
def ptO (n : Int) (l : List Nat) (w : Nat) : Option Nat := fnd (pts n) (ptT n l w)
def joinR (n : Int) (l : List Nat) (i j : Int) : Option Nat := bndO (pts n) (hasR n l) i j
def meetR (n : Int) (l : List Nat) (i j : Int) : Option Nat := bndO (pts n) (flp (hasR n l)) i j
end
section
open Go.RowKit RM
def SideAt (w : World) (g : Nat) (xs : List Nat) : Prop := w.heap[g]? = some (.cells (ucells xs).toArray 39 (0, 0))
section
variable {w w' : World} {g q B : Nat} {xs : List Nat}
theorem SideAt.lt (h : SideAt w g xs) : g < w.heap.size := (Array.getElem?_eq_some_iff.1 h).1
theorem SideAt.cell (h : SideAt w g xs) (j : Nat) (hj : j < xs.length) : w.cell? ⟨g, j, none⟩ = some (.int .u64 ((xs.getD j 0 : Nat) : Int)) := by
 rw [cell_of_row w g j _ 39 (0, 0) h]
 unfold ucells
 rw [zA1, List.getElem?_map, List.getElem?_eq_getElem hj, List.getD_eq_getElem?_getD, List.getElem?_eq_getElem hj]; rfl
theorem SideAt.free (h : SideAt w g xs) (o : Nat) : w.frozen? ⟨g, o, none⟩ = false := by unfold SideAt at h; simp [World.frozen?, h]
theorem SideAt.below (h : SideAt w g xs) (hb : Below B w w') (hg : g < B) : SideAt w' g xs := (hb.block g hg).trans h
theorem SideAt.alloc (h : SideAt w g xs) (o : Obj) : SideAt (w.alloc o) g xs := (heap_alloc_old w o h.lt).trans h
theorem SideAt.drewN (h : SideAt w g xs) (k : Nat) : SideAt (w.drewN k) g xs := h
theorem SideAt.put (h : SideAt w g xs) (i x : Nat) : SideAt (w.setCell ⟨g, i, none⟩ (.int .u64 (x : Int))) g (xs.set i x) := by
 unfold SideAt at h ⊢
 simp [World.setCell, Array.getElem?_modify, h, ucells, List.map_set]
theorem own_whole {base c : Nat} {e : TypeId} {cs : List Value} (h : w.ownsRow base e 1 (.slice (some ⟨g, 0, none⟩) c c) c cs) : w.heap[g]? = some (.cells cs.toArray e (0, 0)) ∧ base ≤ g := by
 rcases h.2 with ⟨hv, _⟩ | ⟨g', cap, cur, hv, hb, hh, h1, _, h3, h4⟩
 ·cases hv
 ·injection hv with e1 e2 e3
  injection e1 with e1
  injection e1 with e1
  subst e1 e3
  refine ⟨?_, hb⟩
  rw [hh, ← h4, List.take_of_length_le (by simp [h3])]
end
theorem hfirst_any (g : Nat) (xs : List Nat) (hx : ∀ i, xs.getD i 0 < 18446744073709551616) (hl : xs.length ≤ 64) (s : Nat) (hs : s < 18446744073709551616) (w : World) (hg : SideAt w g xs) :
 Calls Tryz.prog 136 #[.slice (some ⟨g, 0, none⟩) xs.length xs.length, .int .u64 (s : Int)] w fun e w' => e = .returned (optV (frsO xs s)) ∧ w = w' := by
 have hc := hg.cell
 have HC := zh hc; clear hc
 have HX := zh hx; clear hx
 have HHIT : Hid (∀ k, k < xs.length → frsT xs s k = true → (∀ j, j < k → frsT xs s j = false) → optV (frsO xs s) = .tuple #[.int .i64 (k : Int), .bool true]) := fun k h1 h2 h3 => by
  unfold frsO; rw [fnd_hit h1 h2 h3, optV_some]
 have HNO : Hid ((∀ j, j < xs.length → frsT xs s j = false) → optV (frsO xs s) = .tuple #[.int .i64 0, .bool false]) := fun h => by
  unfold frsO; rw [fnd_none h, optV_none]
 have HF : Hid (∀ k, frsT xs s k = (s.testBit k && MM.subN s (xs.getD k 0))) := fun _ => rfl
 generalize optV (frsO xs s) = res at *
 generalize frsT xs s = T at *
 clear hg
 generalize xs.length = p at *
 go_enter Tryz.func136, Tryz.ntmps136
 go_wp2_with fail
 go_loop [6, 9] (fun _ kv => ∃ k : Nat, k ≤ p ∧ kv = .int .i64 k ∧ Hid (∀ j, j < k → T j = false)) (fun _ kv => p - (intOf kv).toNat)
 case atStart => exact ⟨0, by omega, rfl, fun j hj => by omega⟩
 case round =>
  obtain ⟨k, hk, rfl, HK⟩ := hrel
  by_cases hlt : k < p
  ·have hck := HC.out k hlt
   have hx := HX.out k
   have HT : Hid (T k = (s.testBit k && MM.subN s (xs.getD k 0))) := HF.out k
   have HKN : Hid (T k = false → ∀ j, j < k + 1 → T j = false) := fun h j hj => by
        by_cases e : j = k
        ·subst e; exact h
        ·exact HK.out j (by omega)
   have HR : Hid (T k = true → res = .tuple #[.int .i64 (k : Int), .bool true]) := fun h => HHIT.out k hlt h HK.out
   have hn : MM.hasN s (k : Int) = s.testBit k := MM.hasN_in s k (by omega)
   generalize xs.getD k 0 = x at *
   generalize T k = t at *
   have HHAS : Hid (∀ w, Calls Tryz.prog 166 #[.int .u64 (s : Int), .int .i64 (k : Int)] w fun e w' => e = .returned (.bool (s.testBit k)) ∧ w = w') := fun w => by
        have h := has_any s hs (k : Int) w
        rw [hn] at h; exact h
   have HSUB : Hid (∀ w, Calls Tryz.prog 88 #[.int .u64 (s : Int), .int .u64 (x : Int)] w fun e w' => e = .returned (.bool (MM.subN s x)) ∧ w = w') := fun w => sub_any s x hs hx w
   clear hn
   generalize s.testBit k = b at *
   generalize MM.subN s x = d at *
   cases b with
   | false =>
     go_wp2_with (go_at_call 166; refine (HHAS.out _).mono ?_; rintro e w' ⟨rfl, rfl⟩)
     go_round
     case rel => exact ⟨k + 1, by omega, by go_num, HKN.out HT.out⟩
     case measure => simp [intOf]; omega
   | true =>
     cases d with
     | false =>
       go_wp2_with (first | (go_at_call 166; refine (HHAS.out _).mono ?_; rintro e w' ⟨rfl, rfl⟩) | (go_at_call 88; refine (HSUB.out _).mono ?_; rintro e w' ⟨rfl, rfl⟩))
       go_round
       case rel => exact ⟨k + 1, by omega, by go_num, HKN.out HT.out⟩
       case measure => simp [intOf]; omega
     | true =>
       go_wp2_with (first | (go_at_call 166; refine (HHAS.out _).mono ?_; rintro e w' ⟨rfl, rfl⟩) | (go_at_call 88; refine (HSUB.out _).mono ?_; rintro e w' ⟨rfl, rfl⟩))
       go_ret2
       exact ⟨congrArg Ending.returned (HR.out HT.out).symm, rfl⟩
  ·have e : k = p := by omega
   subst e
   have HR := zh (HNO.out HK.out)
   go_wp2_with fail
   go_ret2
   exact ⟨congrArg Ending.returned HR.out.symm, rfl⟩
def bdO (xs : List Nat) (i j : Int) : Option Nat := if 0 ≤ i ∧ 0 ≤ j ∧ i < (xs.length : Int) ∧ j < (xs.length : Int) then frsO xs (xs.getD i.toNat 0 &&& xs.getD j.toNat 0) else none
theorem bdO_side {n : Int} {R : Int → Int → Bool} {xs : List Nat} (h : SideOf (pts n) R xs) (hR : ∀ i j : Int, isPt n i = false → R i j = false) (i j : Int) : bdO xs i j = bndO (pts n) R i j := by
 unfold bdO
 rw [h.len]
 split
 ·next hc =>
  obtain ⟨a, rfl⟩ := Int.eq_ofNat_of_zero_le hc.1
  obtain ⟨b, rfl⟩ := Int.eq_ofNat_of_zero_le hc.2.1
  exact frs_bnd h (i := a) (j := b) (by omega) (by omega)
 ·next hc =>
  refine (bnd_no ?_).symm
  cases h1 : isPt n i with
  | false => exact .inl fun u => hR _ _ h1
  | true =>
    cases h2 : isPt n j with
    | false => exact .inr fun u => hR _ _ h2
    | true =>
      have := isPt_iff.1 h1
      have := isPt_iff.1 h2
      omega
theorem hbound_any (g : Nat) (xs : List Nat) (hx : ∀ i, xs.getD i 0 < 18446744073709551616) (hl : xs.length ≤ 64) (i j : Int) (w : World) (hg : SideAt w g xs) :
 Calls Tryz.prog 165 #[.slice (some ⟨g, 0, none⟩) xs.length xs.length, .int .i64 i, .int .i64 j] w fun e w' => e = .returned (optV (bdO xs i j)) ∧ Below w.heap.size w w' := by
 by_cases hlo : i < 0 ∨ j < 0
 ·have hz : bdO xs i j = none := by unfold bdO; rw [if_neg (by omega)]
  rw [hz, optV_none]
  have hm : decide ((if i ≤ j then i else j) < 0) = true := by simp; split <;> omega
  clear hg hz
  generalize xs.length = p at *
  rcases Int.le_total i j with h1 | h1
  ·have h2 : i < 0 := by omega
   go_enter Tryz.func165, Tryz.ntmps165
   go_wp2_with fail
   all_goals (go_ret2; exact ⟨rfl, zB _ _⟩)
  ·have h2 : j < 0 := by omega
   go_enter Tryz.func165, Tryz.ntmps165
   go_wp2_with fail
   all_goals (go_ret2; exact ⟨rfl, zB _ _⟩)
 ·by_cases hhi : (xs.length : Int) ≤ i ∨ (xs.length : Int) ≤ j
  ·have hz : bdO xs i j = none := by unfold bdO; rw [if_neg (by omega)]
   rw [hz, optV_none]
   clear hg hz
   generalize xs.length = p at *
   have h0 : 0 ≤ i := by omega
   have h1 : 0 ≤ j := by omega
   rcases Int.le_total i j with h2 | h2
   ·have h3 : (p : Int) ≤ j := by omega
    go_enter Tryz.func165, Tryz.ntmps165
    go_wp2_with fail
    all_goals (go_ret2; exact ⟨rfl, zB _ _⟩)
   ·have h3 : (p : Int) ≤ i := by omega
    go_enter Tryz.func165, Tryz.ntmps165
    go_wp2_with fail
    all_goals (go_ret2; exact ⟨rfl, zB _ _⟩)
  ·obtain ⟨a, rfl⟩ := Int.eq_ofNat_of_zero_le (show 0 ≤ i by omega)
   obtain ⟨b, rfl⟩ := Int.eq_ofNat_of_zero_le (show 0 ≤ j by omega)
   have ha : a < xs.length := by omega
   have hb : b < xs.length := by omega
   have hz : bdO xs (a : Int) (b : Int) = frsO xs (xs.getD a 0 &&& xs.getD b 0) := by unfold bdO; rw [if_pos (by omega)]; rfl
   rw [hz]
   have hca := hg.cell a ha
   have hcb := hg.cell b hb
   have hxa := hx a
   have hxb := hx b
   have HFI : Hid (∀ w', SideAt w' g xs → Calls Tryz.prog 136 #[.slice (some ⟨g, 0, none⟩) xs.length xs.length, .int .u64 ((xs.getD a 0 &&& xs.getD b 0 : Nat) : Int)] w' fun e w'' => e = .returned (optV (frsO xs (xs.getD a 0 &&& xs.getD b 0))) ∧ w' = w'') :=
        fun w' h => hfirst_any g xs hx hl _ (Nat.lt_of_le_of_lt Nat.and_le_left hxa) w' h
   have HG : Hid (SideAt w g xs) := hg
   clear hg hx hz hlo hhi
   obtain ⟨r1, r2, hv⟩ : ∃ (r1 : Nat) (r2 : Bool), optV (frsO xs (xs.getD a 0 &&& xs.getD b 0)) = .tuple #[.int .i64 (r1 : Int), .bool r2] := ⟨_, _, rfl⟩
   rw [hv] at HFI ⊢
   clear hv
   have e1 : bits BinOp.and IntKind.u64 ((xs.getD a 0 : Nat) : Int) ((xs.getD b 0 : Nat) : Int) = ((xs.getD a 0 &&& xs.getD b 0 : Nat) : Int) := u64_and_nat _ _ hxa hxb
   have HS : Hid (∀ w' : World, w'.heap = w.heap → SideAt w' g xs) := fun w' h => by have := HG.out; unfold SideAt at this ⊢; rw [h]; exact this
   generalize xs.getD a 0 = x at *
   generalize xs.getD b 0 = y at *
   generalize hp : xs.length = p at *
   clear hp
   have h0 : (a : Int) < (p : Int) := by omega
   have h1 : (b : Int) < (p : Int) := by omega
   rcases Int.le_total (a : Int) (b : Int) with h2 | h2
   ·go_enter Tryz.func165, Tryz.ntmps165
    go_wp2_with fail
    all_goals
     go_quiet ((go_at_call 136; exact Calls.quiet_of_same (still_of (HFI.out _ (HS.out _ rfl)))))
     go_wp2_with fail
     go_ret2
     exact ⟨rfl, bdrewN (zB _ _) _⟩
   ·go_enter Tryz.func165, Tryz.ntmps165
    go_wp2_with fail
    all_goals
     go_quiet ((go_at_call 136; exact Calls.quiet_of_same (still_of (HFI.out _ (HS.out _ rfl)))))
     go_wp2_with fail
     go_ret2
     exact ⟨rfl, bdrewN (zB _ _) _⟩
end
section
open Go.RowKit RM
theorem made_zero (p : Nat) : (madeCells (Value.int .u64 0).cells (p * 1)).toList = ucells (List.replicate p 0) := by
 have e : (Value.int .u64 0).cells = #[Value.int .u64 0] := rfl
 rw [e, Nat.mul_one]
 unfold madeCells ucells
 refine List.ext_getElem (by simp) fun i h1 h2 => ?_
 simp [Nat.mod_one]
def sdTo (F : Nat → Nat) (p k : Nat) : List Nat := (List.range p).map fun i => if i < k then F i else 0
theorem sdTo_length (F : Nat → Nat) (p k : Nat) : (sdTo F p k).length = p := by simp [sdTo]
theorem sdTo_zero (F : Nat → Nat) (p : Nat) : sdTo F p 0 = List.replicate p 0 := by
 refine List.ext_getElem (by simp [sdTo]) fun i h1 h2 => ?_
 simp [sdTo]
theorem sdTo_end (F : Nat → Nat) (p : Nat) : sdTo F p p = (List.range p).map F := by
 unfold sdTo
 refine List.map_congr_left fun i hi => ?_
 rw [if_pos (List.mem_range.1 hi)]
theorem sdTo_set (F : Nat → Nat) (p k : Nat) : (sdTo F p k).set k (F k) = sdTo F p (k + 1) := by
 refine List.ext_getElem (by simp [sdTo]) fun i h1 h2 => ?_
 simp only [sdTo, List.getElem_set, List.getElem_map, List.getElem_range]
 by_cases e : k = i
 ·subst e; simp
 ·rw [if_neg e]
  by_cases h : i < k
  ·rw [if_pos h, if_pos (by omega)]
  ·rw [if_neg h, if_neg (by omega)]
theorem hsides_any (n : Int) (l : List Nat) (hl : RW l) (f : FuncId) (hf : ∀ args w, (callFunc f args).run Tryz.prog w = .ok (.enter f args) w) (F : Nat → Nat) (w : World)
 (H : ∀ (i : Nat) W, Below w.heap.size w W → Calls Tryz.prog f #[.agg (rv n l), .int .u64 ((MM.ofN [(i : Int)] : Nat) : Int)] W fun e W' => e = .returned (.int .u64 ((F i : Nat) : Int)) ∧ Below W.heap.size W W') :
 Calls Tryz.prog 137 #[.agg (rv n l), .func (.func f) #[] #[]] w fun e w' => ∃ g, e = .returned (.slice (some ⟨g, 0, none⟩) (pts n) (pts n)) ∧ SideAt w' g ((List.range (pts n)).map F) ∧ Below w.heap.size w w' := by
 obtain ⟨i0, hi, hz0, hz1, hz2⟩ := info_parts infoU64
 have hbytes : i0.bytes * pts n ≤ 281474976710656 := by
  have := pts_le n
  rw [hz2]; omega
 have HBY := zh hbytes
 have HI := zh hi; have HZ0 := zh hz0; have HZ1 := zh hz1
 clear hi hz0 hz1 hz2 hbytes
 have HH := zh H; clear H
 have HNEW : Hid (∀ w, Calls Tryz.prog 124 #[.int .i64 n] w fun e w' => e = .returned (.agg (rv ((pts n : Nat) : Int) zs)) ∧ Below w.heap.size w w') := new_any n
 have hf0 := run_field0 (pts n) zs
 have hr1 := RelAt.new w n l
 have hc0 := hr1.cell0
 have hb : Below w.heap.size w (w.alloc (.cells (rv n l) 62)) := (zB _ _).alloc (zL _) _
 have HB := zh hb; clear hb
 have hp := pts_le n
 have HE : Hid (sdTo F (pts n) (pts n) = (List.range (pts n)).map F) := sdTo_end F (pts n)
 have HZ : Hid (sdTo F (pts n) 0 = List.replicate (pts n) 0) := sdTo_zero F (pts n)
 generalize (List.range (pts n)).map F = res at *
 generalize rv ((pts n : Nat) : Int) zs = rz at *
 generalize pts n = p at *
 go_enter Tryz.func137, Tryz.ntmps137
 go_wp2_with fail
 refine (HNEW.out _).mono ?_
 rintro e w1 ⟨rfl, hb1⟩
 have r1 := hr1.below hb1 hr1.lt
 have hs1 : w.heap.size < w1.heap.size := zT hr1.lt hb1.size
 have HB1 := zh (HB.out.trans (hb1.mono (by simp))); clear hb1 HB hr1 hc0
 go_wp2_with (at_make; refine wpList_make_full _ rfl (.tmp 10) (.tmp 10) 168 rfl w.heap.size 39 i0 _ 1 Tryz.underlying168 HI.out HZ0.out HZ1.out .i64 .i64 _ _ p rfl rfl rfl rfl HBY.out (by unfold maxLen; omega) (Nat.le_of_lt hs1) ?_; intro w2 hown hgr; obtain ⟨hO, _⟩ := own_whole hown; rw [made_zero, ← HZ.out] at hO; have hO2 : SideAt w2 w1.heap.size (sdTo F p 0) := hO; have r2 := r1.grown hgr (fun e => by cases e); have HB2 := zh (HB1.out.trans (((zB w1.heap.size w1).grown hgr (zL _) (fun j hj => by cases hj)).mono (Nat.le_of_lt hs1))); clear hown hgr hO r1 HB1)
 clear hf0 HNEW HBY HI HZ0 HZ1 HZ
 have hg0 : w.heap.size ≠ w1.heap.size := by omega
 have hg1 : w.heap.size ≤ w1.heap.size := by omega
 generalize w1.heap.size = g at *
 clear hs1
 go_loopw [6, 14] (fun _ kv wr => ∃ k : Nat, k ≤ p ∧ kv = .int .i64 k ∧ RelAt wr w.heap.size n l ∧ SideAt wr g (sdTo F p k) ∧ Hid (Below w.heap.size w wr)) (fun _ kv _ => p - (intOf kv).toNat)
 case atStart => exact ⟨0, by omega, rfl, r2, hO2, HB2⟩
 case round =>
  clear r2 hO2 HB2
  obtain ⟨k, hk, rfl, rr, sd, HB⟩ := hrel
  by_cases hlt : k < p
  ·have HLEN : Hid ((sdTo F p k).length = p) := sdTo_length F p k
   have HNX : Hid ((sdTo F p k).set k (F k) = sdTo F p (k + 1)) := sdTo_set F p k
   have HC : Hid (∀ W, Below w.heap.size w W → Calls Tryz.prog f #[.agg (rv n l), .int .u64 ((MM.ofN [(k : Int)] : Nat) : Int)] W fun e W' => e = .returned (.int .u64 ((F k : Nat) : Int)) ∧ Below W.heap.size W W') := fun W h => HH.out k W h
   generalize sdTo F p k = xs at *
   generalize F k = fk at *
   obtain ⟨S, HS, pM, keepS, SI⟩ := ex_mut g wr
   have PM : Hid (∀ w', S w' → Mut g wr w') := pM
   have PB : Hid (∀ w', S w' → Below w.heap.size w w') := fun w' h => HB.out.trans ((pM w' h).below hg1 HB.out.size)
   have pR := fun w' h => rr.mut (pM w' h) hg0
   have b1 : SideAt wr.drew g xs := sd.drewN 1
   clear pM rr sd
   go_wp2_with fail
   refine wp_region_ord S [(0, true), (1, true), (2, true), (3, true), (4, true), (5, false), (6, false), (7, false), (8, true), (9, false)] (by kernel_rfl) (by kernel_rfl) rfl (by kernel_rfl) HS.out ?_
   generalize wr.drew = V at HS b1 ⊢
   iterate 5
        (refine wpOrd_step (zO rfl) ?_)
        (first
         | (refine wpOrd_skip (by rfl) ?_)
         | (refine wpOrd_take (by rfl) (take_loadRel _ rfl _ rfl _ _ hl pR) ?_)
         | (refine wpOrd_take (v := ?_) (by rfl) ?_ ?_; rotate_left 1; (intro wx hSx; go_simp; try with_reducible rfl)))
        (try simp only [Act.put, zA4, zA5, zA6])
   (refine wpOrd_solo (zO rfl) ?_)
   intro K hK
   go_simp
   have hI : Ints (V.alloc (.cells #[.int .i64 (k : Int)] 3)) (some ⟨V.heap.size, 0, none⟩) [(k : Int)] := new_ints V [(k : Int)] 3
   have b2 := b1.alloc (.cells #[.int .i64 (k : Int)] 3)
   have hS := keepS _ _ HS.out ((zB V.heap.size V).alloc (zL _) (.cells #[.int .i64 (k : Int)] 3))
   clear HS b1
   have HS := zh hS; clear hS
   refine hK.out _ _ HS.out ?_
   clear hK K
   (try simp only [Act.put, zA4, zA5, zA6])
   have HI := zh hI; clear hI
   generalize V.alloc (.cells #[.int .i64 (k : Int)] 3) = V2 at HI HS b2 ⊢
   (refine wpOrd_solo (zO rfl) ?_)
   intro K hK
   go_simp
   go_at_call 140
   refine (of_any _ 1 [(k : Int)] _ (by simp) HI.out).mono ?_
   rintro e w' ⟨rfl, rfl⟩
   refine hK.out _ _ HS.out ?_
   clear hK K
   (try simp only [Act.put, zA4, zA5, zA6])
   (refine wpOrd_solo (zO rfl) ?_)
   intro K hK
   go_simp
   refine (HC.out _ (PB.out _ HS.out)).mono ?_
   rintro e w4 ⟨rfl, hb⟩
   have b4 := b2.below hb b2.lt
   have hS := keepS _ _ HS.out hb
   clear HS b2
   have HS := zh hS; clear hS hb
   refine hK.out _ _ HS.out ?_
   clear hK K
   (try simp only [Act.put, zA4, zA5, zA6])
   iterate 1
        (refine wpOrd_step (zO rfl) ?_)
        (first
         | (refine wpOrd_skip (by rfl) ?_)
         | (refine wpOrd_take (v := ?_) (by rfl) ?_ ?_; rotate_left 1; (intro wx hSx; go_simp; try with_reducible rfl)))
        (try simp only [Act.put, zA4, zA5, zA6])
   have hc4 := b4.cell k (by rw [HLEN.out]; exact hlt)
   have hf4 := b4.free k
   (refine wpOrd_solo (zO rfl) ?_)
   intro K hK
   go_simp
   have HM5 := zh ((PM.out _ HS.out).trans (Mut.of_set w4 g k (.int .u64 (fk : Int))))
   have b5 := b4.put k fk
   rw [HNX.out] at b5
   refine hK.out _ _ (SI.out _ HM5.out) ?_
   clear hK K
   (try simp only [Act.put, zA4, zA5, zA6])
   refine wpOrd_done ?_
   have r5 := pR _ (SI.out _ HM5.out)
   have HB5 := zh (PB.out _ (SI.out _ HM5.out))
   clear pR PM PB SI keepS HS HI b4 HM5 hc4 hf4
   go_wp2_with fail
   go_roundw
   case rel => exact ⟨k + 1, by omega, by go_num, r5, b5, HB5⟩
   case measure => simp [intOf]; omega
  ·have e : k = p := by omega
   subst e
   rw [HE.out] at sd
   go_wp2_with fail
   go_ret
   exact ⟨g, rfl, sd, HB.out⟩
theorem hword_any (n : Int) (l : List Nat) (hl : RW l) (i : Int) (w : World) :
 Calls Tryz.prog 106 #[.agg (rv n l), .int .i64 i] w fun e w' => e = .returned (.int .u64 ((wordN n l i : Nat) : Int)) ∧ Below w.heap.size w w' := by
 have HDN : Hid (∀ w, Calls Tryz.prog 139 #[.agg (rv n l), .int .u64 ((MM.ofN [i] : Nat) : Int)] w fun e w' => e = .returned (.int .u64 ((wordN n l i : Nat) : Int)) ∧ Below w.heap.size w w') := fun w => rdown_any n l hl (MM.ofN [i]) (MM.ofN_lt _) w
 generalize wordN n l i = x at *
 have hr1 := RelAt.new w n l
 have hb : Below w.heap.size w (w.alloc (.cells (rv n l) 62)) := (zB _ _).alloc (zL _) _
 have HW := zh hb; clear hb
 go_enter Tryz.func106, Tryz.ntmps106
 go_wp2_with fail
 generalize w.alloc (.cells (rv n l) 62) = W at *
 obtain ⟨S, HS, pW, keepS⟩ := ex_gen W
 have pR := fun w' h => hr1.below (pW w' h) hr1.lt
 have PB : Hid (∀ w', S w' → Below w.heap.size w w') := fun w' h => HW.out.trans ((pW w' h).mono HW.out.size)
 clear pW hr1 HW
 refine wp_region_ord S [(0, true), (1, true), (2, false), (3, false), (4, false), (5, true)] (by kernel_rfl) (by kernel_rfl) rfl (by kernel_rfl) HS.out ?_
 generalize W.drew = V at HS ⊢
 iterate 2
  (refine wpOrd_step (zO rfl) ?_)
  (first
        | (refine wpOrd_skip (by rfl) ?_)
        | (refine wpOrd_take (by rfl) (take_loadRel _ rfl _ rfl _ _ hl pR) ?_)
        | (refine wpOrd_take (v := ?_) (by rfl) ?_ ?_; rotate_left 1; (intro wx hSx; go_simp; try with_reducible rfl)))
  (try simp only [Act.put, zA4, zA5, zA6])
 (refine wpOrd_solo (zO rfl) ?_)
 intro K hK
 go_simp
 have hI : Ints (V.alloc (.cells #[.int .i64 i] 3)) (some ⟨V.heap.size, 0, none⟩) [i] := new_ints V [i] 3
 have hS := keepS _ _ HS.out ((zB V.heap.size V).alloc (zL _) (.cells #[.int .i64 i] 3))
 clear HS
 have HS := zh hS; clear hS
 refine hK.out _ _ HS.out ?_
 clear hK K
 (try simp only [Act.put, zA4, zA5, zA6])
 have HI := zh hI; clear hI
 generalize V.alloc (.cells #[.int .i64 i] 3) = V2 at HI HS ⊢
 (refine wpOrd_solo (zO rfl) ?_)
 intro K hK
 go_simp
 go_at_call 140
 refine (of_any _ 1 [i] _ (by simp) HI.out).mono ?_
 rintro e w' ⟨rfl, rfl⟩
 refine hK.out _ _ HS.out ?_
 clear hK K
 (try simp only [Act.put, zA4, zA5, zA6])
 (refine wpOrd_solo (zO rfl) ?_)
 intro K hK
 go_simp
 go_at_call 139
 refine (HDN.out _).mono ?_
 rintro e w4 ⟨rfl, hb⟩
 have hS := keepS _ _ HS.out hb
 clear HS
 have HS := zh hS; clear hS hb
 refine hK.out _ _ HS.out ?_
 clear hK K
 (try simp only [Act.put, zA4, zA5, zA6])
 iterate 1
  (refine wpOrd_step (zO rfl) ?_)
  (first
        | (refine wpOrd_skip (by rfl) ?_)
        | (refine wpOrd_take (v := ?_) (by rfl) ?_ ?_; rotate_left 1; (intro wx hSx; go_simp; try with_reducible rfl)))
  (try simp only [Act.put, zA4, zA5, zA6])
 refine wpOrd_done ?_
 have HB := zh (PB.out _ HS.out)
 clear pR PB HS keepS HI
 go_wp2_with fail
 go_ret
 exact ⟨rfl, HB.out⟩
end
section
open Go.RowKit RM
def upL (n : Int) (l : List Nat) : List Nat := (List.range (pts n)).map (upF n l)
def dnL (n : Int) (l : List Nat) : List Nat := (List.range (pts n)).map (dnF n l)
theorem upL_len (n : Int) (l : List Nat) : (upL n l).length = pts n := (up_side n l).len
theorem dnL_len (n : Int) (l : List Nat) : (dnL n l).length = pts n := (dn_side n l).len
def bottomR (n : Int) (l : List Nat) : Option Nat := endO (pts n) (hasR n l)
theorem hup_any (n : Int) (l : List Nat) (hl : RW l) (w : World) (hT : Tab w) :
 Calls Tryz.prog 137 #[.agg (rv n l), .func (.func 138) #[] #[]] w fun e w' => ∃ g, e = .returned (.slice (some ⟨g, 0, none⟩) (pts n) (pts n)) ∧ SideAt w' g (upL n l) ∧ Below w.heap.size w w' :=
 hsides_any n l hl 138 (fun _ _ => by kernel_rfl) (upF n l) w fun i W hb => rup_any n l hl (MM.ofN [(i : Int)]) (MM.ofN_lt _) W (hT.below hb)
theorem hdn_any (n : Int) (l : List Nat) (hl : RW l) (w : World) :
 Calls Tryz.prog 137 #[.agg (rv n l), .func (.func 139) #[] #[]] w fun e w' => ∃ g, e = .returned (.slice (some ⟨g, 0, none⟩) (pts n) (pts n)) ∧ SideAt w' g (dnL n l) ∧ Below w.heap.size w w' :=
 hsides_any n l hl 139 (fun _ _ => by kernel_rfl) (dnF n l) w fun i W _ => rdown_any n l hl (MM.ofN [(i : Int)]) (MM.ofN_lt _) W
theorem hbound_up (n : Int) (l : List Nat) (g : Nat) (i j : Int) (w : World) (hg : SideAt w g (upL n l)) :
 Calls Tryz.prog 165 #[.slice (some ⟨g, 0, none⟩) (pts n) (pts n), .int .i64 i, .int .i64 j] w fun e w' => e = .returned (optV (joinR n l i j)) ∧ Below w.heap.size w w' := by
 have hs := up_side n l
 have h := hbound_any g (upL n l) hs.lt (by rw [upL_len]; exact pts_le n) i j w hg
 rw [upL_len, show bdO (upL n l) i j = joinR n l i j from bdO_side hs (fun a b h => hasR_left h b) i j] at h
 exact h
theorem hbound_dn (n : Int) (l : List Nat) (g : Nat) (i j : Int) (w : World) (hg : SideAt w g (dnL n l)) :
 Calls Tryz.prog 165 #[.slice (some ⟨g, 0, none⟩) (pts n) (pts n), .int .i64 i, .int .i64 j] w fun e w' => e = .returned (optV (meetR n l i j)) ∧ Below w.heap.size w w' := by
 have hs := dn_side n l
 have h := hbound_any g (dnL n l) hs.lt (by rw [dnL_len]; exact pts_le n) i j w hg
 rw [dnL_len, show bdO (dnL n l) i j = meetR n l i j from bdO_side hs (fun a b h => hasR_right h b) i j] at h
 exact h
theorem hfirst_up (n : Int) (l : List Nat) (g : Nat) (w : World) (hg : SideAt w g (upL n l)) :
 Calls Tryz.prog 136 #[.slice (some ⟨g, 0, none⟩) (pts n) (pts n), .int .u64 ((MM.belowN n : Nat) : Int)] w fun e w' => e = .returned (optV (bottomR n l)) ∧ w = w' := by
 have hs := up_side n l
 have h := hfirst_any g (upL n l) hs.lt (by rw [upL_len]; exact pts_le n) (MM.belowN n) (belowN_lt n) w hg
 rw [upL_len, show frsO (upL n l) (MM.belowN n) = bottomR n l from frs_end hs rfl] at h
 exact h
theorem hbottom_any (n : Int) (l : List Nat) (hl : RW l) (w : World) (hT : Tab w) :
 Calls Tryz.prog 105 #[.agg (rv n l)] w fun e w' => e = .returned (optV (bottomR n l)) ∧ Below w.heap.size w w' := by
 have hr1 := RelAt.new w n l
 have hb : Below w.heap.size w (w.alloc (.cells (rv n l) 62)) := (zB _ _).alloc (zL _) _
 have HW := zh hb; clear hb
 have HSD : Hid (∀ W, Tab W → Calls Tryz.prog 137 #[.agg (rv n l), .func (.func 138) #[] #[]] W fun e w' => ∃ g, e = .returned (.slice (some ⟨g, 0, none⟩) (pts n) (pts n)) ∧ SideAt w' g (upL n l) ∧ Below W.heap.size W w') := fun W h => hup_any n l hl W h
 have HFI : Hid (∀ g w, SideAt w g (upL n l) → Calls Tryz.prog 136 #[.slice (some ⟨g, 0, none⟩) (pts n) (pts n), .int .u64 ((MM.belowN n : Nat) : Int)] w fun e w' => e = .returned (optV (bottomR n l)) ∧ w = w') := fun g w h => hfirst_up n l g w h
 obtain ⟨r1, r2, hv⟩ : ∃ (r1 : Nat) (r2 : Bool), optV (bottomR n l) = .tuple #[.int .i64 (r1 : Int), .bool r2] := ⟨_, _, rfl⟩
 rw [hv] at HFI ⊢
 clear hv
 have HT := zh hT; clear hT
 generalize pts n = p at *
 generalize upL n l = xs at *
 go_enter Tryz.func105, Tryz.ntmps105
 go_wp2_with fail
 generalize w.alloc (.cells (rv n l) 62) = W at *
 obtain ⟨S, HS, pW, keepS⟩ := ex_gen W
 have pR := fun w' h => hr1.below (pW w' h) hr1.lt
 have cN := fun w' h => (pR w' h).cell0
 have PB : Hid (∀ w', S w' → Below w.heap.size w w') := fun w' h => HW.out.trans ((pW w' h).mono HW.out.size)
 clear pW hr1 HW
 refine wp_region_ord S [(0, true), (2, true), (3, true), (1, false), (4, false), (5, false), (6, true), (7, true), (8, true), (9, true)] (by kernel_rfl) (by kernel_rfl) rfl (by kernel_rfl) HS.out ?_
 iterate 3
  (refine wpOrd_step (zO rfl) ?_)
  (first
        | (refine wpOrd_skip (by rfl) ?_)
        | (refine wpOrd_take (by rfl) (take_loadRel _ rfl _ rfl _ _ hl pR) ?_)
        | (refine wpOrd_take (v := ?_) (by rfl) ?_ ?_; rotate_left 1; (intro wx hSx; have hc_0 := cN wx hSx; go_simp; try with_reducible rfl)))
  (try simp only [Act.put, zA4, zA5, zA6])
 (refine wpOrd_solo (zO rfl) ?_)
 intro K hK
 go_simp
 go_at_call 137
 refine (HSD.out _ (HT.out.below (PB.out _ HS.out))).mono ?_
 rintro e w1 ⟨g, rfl, hs1, hb⟩
 have hS := keepS _ _ HS.out hb
 clear HS
 have HS := zh hS; clear hS hb
 refine hK.out _ _ HS.out ?_
 clear hK K
 (try simp only [Act.put, zA4, zA5, zA6])
 (refine wpOrd_solo (zO rfl) ?_)
 intro K hK
 go_simp
 go_at_call 98
 refine (below_any _ _).mono ?_
 rintro e w' ⟨rfl, rfl⟩
 refine hK.out _ _ HS.out ?_
 clear hK K
 (try simp only [Act.put, zA4, zA5, zA6])
 (refine wpOrd_solo (zO rfl) ?_)
 intro K hK
 go_simp
 go_at_call 136
 refine (HFI.out _ _ hs1).mono ?_
 rintro e w' ⟨rfl, rfl⟩
 refine hK.out _ _ HS.out ?_
 clear hK K
 (try simp only [Act.put, zA4, zA5, zA6])
 iterate 4
  (refine wpOrd_step (zO rfl) ?_)
  (first
        | (refine wpOrd_skip (by rfl) ?_)
        | (refine wpOrd_take (v := ?_) (by rfl) ?_ ?_; rotate_left 1; (intro wx hSx; go_simp; try with_reducible rfl)))
  (try simp only [Act.put, zA4, zA5, zA6])
 refine wpOrd_done ?_
 have HB := zh (PB.out _ HS.out)
 clear pR PB HS keepS
 go_wp2_with fail
 go_ret2
 exact ⟨rfl, HB.out⟩
end
section
open Go.RowKit RM
def latT (n : Int) (l : List Nat) (i j : Nat) : Bool := (joinR n l i j).isSome && (meetR n l i j).isSome
def latB (n : Int) (l : List Nat) : Bool := decide (1 ≤ n) && decide (n ≤ 64) && ordR n l && (List.range (pts n)).all fun i => (List.range i).all fun j => latT n l i j
theorem latB_low {n : Int} {l : List Nat} (h : n < 1) : latB n l = false := by unfold latB; rw [show decide (1 ≤ n) = false by simp; omega]; rfl
theorem latB_high {n : Int} {l : List Nat} (h : 64 < n) : latB n l = false := by unfold latB; rw [show decide (n ≤ 64) = false by simp; omega]; simp
theorem latB_ord {n : Int} {l : List Nat} (h : ordR n l = false) : latB n l = false := by unfold latB; rw [h]; simp
theorem latB_pair {n : Int} {l : List Nat} {a b : Nat} (ha : a < pts n) (hb : b < a) (h : latT n l a b = false) : latB n l = false := by
 unfold latB
 rw [show ((List.range (pts n)).all fun i => (List.range i).all fun j => latT n l i j) = false by
  rw [Bool.eq_false_iff]
  intro h2
  rw [List.all_eq_true] at h2
  have h3 := h2 a (List.mem_range.2 ha)
  rw [List.all_eq_true] at h3
  rw [h3 b (List.mem_range.2 hb)] at h
  cases h]
 simp
theorem latB_yes {n : Int} {l : List Nat} (h1 : 1 ≤ n) (h2 : n ≤ 64) (ho : ordR n l = true) (h : ∀ a, a < pts n → ∀ b, b < a → latT n l a b = true) : latB n l = true := by
 unfold latB
 rw [ho]
 simp only [Bool.and_eq_true, decide_eq_true_eq, List.all_eq_true, List.mem_range]
 exact ⟨⟨⟨h1, h2⟩, trivial⟩, h⟩
theorem hpoint_any (n : Int) (l : List Nat) (hl : RW l) (v : Nat) (w : World) :
 Calls Tryz.prog 100 #[.agg (rv n l), .int .u64 (v : Int)] w fun e w' => e = .returned (optV (ptO n l v)) ∧ Below w.heap.size w w' := by
 have hr1 := RelAt.new w n l
 have hc0 := hr1.cell0
 have hb : Below w.heap.size w (w.alloc (.cells (rv n l) 62)) := (zB _ _).alloc (zL _) _
 have HB := zh hb; clear hb
 have HNEW : Hid (∀ w, Calls Tryz.prog 124 #[.int .i64 n] w fun e w' => e = .returned (.agg (rv ((pts n : Nat) : Int) zs)) ∧ Below w.heap.size w w') := new_any n
 have HWD : Hid (∀ (i : Nat) w, Calls Tryz.prog 106 #[.agg (rv n l), .int .i64 (i : Int)] w fun e w' => e = .returned (.int .u64 ((wordN n l i : Nat) : Int)) ∧ Below w.heap.size w w') := fun i w => hword_any n l hl i w
 have hf0 := run_field0 (pts n) zs
 have hp := pts_le n
 have HHIT : Hid (∀ k : Nat, k < pts n → (wordN n l k == v) = true → (∀ j : Nat, j < k → (wordN n l j == v) = false) → optV (ptO n l v) = .tuple #[.int .i64 (k : Int), .bool true]) := fun k h1 h2 h3 => by
  unfold ptO; rw [fnd_hit (P := ptT n l v) h1 h2 h3, optV_some]
 have HNO : Hid ((∀ j : Nat, j < pts n → (wordN n l j == v) = false) → optV (ptO n l v) = .tuple #[.int .i64 0, .bool false]) := fun h => by
  unfold ptO; rw [fnd_none (P := ptT n l v) h, optV_none]
 generalize optV (ptO n l v) = res at *
 generalize rv ((pts n : Nat) : Int) zs = rz at *
 generalize pts n = p at *
 go_enter Tryz.func100, Tryz.ntmps100
 go_wp2_with fail
 refine (HNEW.out _).mono ?_
 rintro e w1 ⟨rfl, hb1⟩
 have r1 := hr1.below hb1 hr1.lt
 have HB1 := zh (HB.out.trans (hb1.mono (by simp))); clear hb1 HB hr1 hc0
 go_wp2_with fail
 clear hf0 HNEW
 go_loopw [6, 11] (fun _ kv wr => ∃ k : Nat, k ≤ p ∧ kv = .int .i64 k ∧ RelAt wr w.heap.size n l ∧ Hid (Below w.heap.size w wr) ∧ Hid (∀ j : Nat, j < k → (wordN n l j == v) = false)) (fun _ kv _ => p - (intOf kv).toNat)
 case atStart => exact ⟨0, by omega, rfl, r1, HB1, fun j hj => by omega⟩
 case round =>
  clear r1 HB1
  obtain ⟨k, hk, rfl, rr, HB, HK⟩ := hrel
  by_cases hlt : k < p
  ·have HC := zh (HWD.out k)
   have HKN : Hid ((wordN n l k == v) = false → ∀ j : Nat, j < k + 1 → (wordN n l j == v) = false) := fun h j hj => by
        by_cases e : j = k
        ·subst e; exact h
        ·exact HK.out j (by omega)
   have HR : Hid ((wordN n l k == v) = true → res = .tuple #[.int .i64 (k : Int), .bool true]) := fun h => HHIT.out k hlt h HK.out
   have hxv : (((wordN n l k : Nat) : Int) == (v : Int)) = (wordN n l k == v) := by rw [Bool.eq_iff_iff]; simp; omega
   generalize wordN n l k = x at *
   go_wp2_with (refine wpList_loadRel rfl _ rfl w.heap.size rfl n l hl rr ?_)
   refine (HC.out _).mono ?_
   rintro e w2 ⟨rfl, hb2⟩
   have r2 := rr.below hb2 rr.lt
   have HB2 := zh (HB.out.trans (hb2.mono HB.out.size)); clear hb2 rr HB
   cases ht : (x == v) with
   | false =>
     rw [ht] at hxv
     have HKN2 := zh (HKN.out ht); clear ht HR HKN
     go_wp2_with fail
     go_roundw
     case rel => exact ⟨k + 1, by omega, by go_num, r2, HB2, HKN2⟩
     case measure => simp [intOf]; omega
   | true =>
     rw [ht] at hxv
     have HR2 := zh (HR.out ht); clear ht HR HKN
     go_wp2_with fail
     go_ret2
     exact ⟨congrArg Ending.returned HR2.out.symm, HB2.out⟩
  ·have e : k = p := by omega
   subst e
   have HR := zh (HNO.out HK.out)
   go_wp2_with fail
   go_ret2
   exact ⟨congrArg Ending.returned HR.out.symm, HB.out⟩
end
section
open Go.RowKit RM
section
variable {p : Nat} {R : Int → Int → Bool} {a b c : Nat}
end
theorem lat_n {n : Int} {l : List Nat} (h : latB n l = true) : 1 ≤ n ∧ n ≤ 64 := by
 unfold latB at h
 simp only [Bool.and_eq_true, decide_eq_true_eq] at h
 exact h.1.1
section
variable {n : Int} {l : List Nat} {a b : Nat}
end
end
end Go.Proofs.YtnfndapgcpdcpaaGreatDoor
