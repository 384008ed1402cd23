/- Texts that SpellElemCard, SpellNodeCard, SpellSoundCard need. Conditions: those that each states. -/
import Derived.Test.YtkgonoejnochjaaGreatDoorRows
import Derived.Test.YtkgonoejnochjaaGreatDoorY4
set_option linter.unusedSimpArgs false
set_option linter.unusedVariables false
set_option maxRecDepth 8000
namespace Go.Proofs.YtkgonoejnochjaaGreatDoor
open Go.RowKit
section
variable {w w' : World} {B B' n size c : Nat} {A : Option Addr} {cs : List Value}
end
theorem wpList_more {P : Program} (w : World) {ops : Array Oper} {rest : List Oper} {o : Oper} {a : Act} {Q : Exit → Act → World → Prop} (hgd : o.guard = none) (s x : Operand) (t : TypeId)
 (ho : o.op = .call { callee := .builtin .append, args := #[s, x], argTypes := #[t, t] })
 (e : TypeId) (z : Value) (size bytes : Nat) (ht : P.underlying t = some (.slice e))
 (hinf : (P.info? e).map (fun i => (i.zero, i.size, i.bytes)) = some (some z, size, bytes)) (hzs : z.cells.size = size) (hsz : 0 < size) (hby : bytes ≤ 4096)
 (base : Nat) (A : Option Addr) (n c : Nat) (cs : List Value) (hs : a.eval s = .slice A n c) (hown : w.ownsRow base e size (.slice A n c) n cs)
 (g m k : Nat) (news : List Value) (hx : a.eval x = .slice (some ⟨g, 0, none⟩) m k) (hl : news.length = m * size) (hm : m ≤ 65536)
 (hnews : ∀ j u, news[j]? = some u → w.cell? ⟨g, j, none⟩ = some u) (h1 : ∀ u ∈ news, u.oneCell' = true)
 (hn : n ≤ 4294967296) (hbase : base ≤ w.heap.size)
 (h : ∀ A' c' w', w'.ownsRow base e size (.slice A' (n + m) c') (n + m) (cs ++ news) → Below base w w' → w.grownBy w' (Value.slice A n c).ownBlock → wpList P ops Q rest (a.put o.dst (.slice A' (n + m) c')) w') :
 wpList P ops Q (o :: rest) a w := by
 obtain ⟨i, hi, hz, hi1, hi2⟩ := info_parts hinf
 have hadd : ∀ j, (⟨g, 0, none⟩ : Addr).add j = ⟨g, j, none⟩ := fun j => by unfold Addr.add; split <;> simp_all
 have hb2 : (n + m) * bytes ≤ 140737488355328 := Nat.le_trans (Nat.mul_le_mul (show n + m ≤ 4295032832 by omega) hby) (by decide)
 refine wpList_append_own w hgd s x t ho base e i z size bytes ht hi hz hi1 hi2 hzs hsz (.slice A n c) n cs hs hown ⟨g, 0, none⟩ m k news hx hl
  (fun j u hu => by rw [hadd]; exact hnews j u hu) h1 (by simp only [maxLen]; omega) hb2 hbase ?_
 intro v' w' hown' hg _
 obtain ⟨A', c', rfl, _, _⟩ := own_form hown'
 exact h A' c' w' hown' ((Below.refl base w).grown hg hbase (fun k hk => (hown.lt k hk).1)) hg
theorem one_new (w : World) (x : Value) (e : TypeId) : ∀ j u, [x][j]? = some u → (w.alloc (.cells #[x] e)).cell? ⟨w.heap.size, j, none⟩ = some u := by
 intro j u hu
 cases j with
 | zero =>
   simp at hu
   subst hu
   rw [World.cell?_alloc_at _ _ _ _ rfl]; rfl
 | succ j => simp at hu
section
variable {w w' : World} {g : Nat} {t : TypeId} {v : Value}
end
end Go.Proofs.YtkgonoejnochjaaGreatDoor
namespace Go.Proofs.YtkgonoejnochjaaGreatDoor
namespace MM
theorem half_bit (s i : Nat) : (s / 2 ^ i % 2 = 1) ↔ s.testBit i = true := by
 rw [Nat.testBit_eq_decide_div_mod_eq]; simp
end MM
end Go.Proofs.YtkgonoejnochjaaGreatDoor
namespace Go.Proofs.YtkgonoejnochjaaGreatDoor
open Go.RowKit
end Go.Proofs.YtkgonoejnochjaaGreatDoor
namespace Go.Proofs.YtkgonoejnochjaaGreatDoor
open Go.RowKit
end Go.Proofs.YtkgonoejnochjaaGreatDoor
namespace Go.Proofs.YtkgonoejnochjaaGreatDoor
open Go.RowKit
theorem ofP_succ_in (p : Nat → Bool) (k q o : Nat) (hk : k < 64) (hq : q = MM.ofP p k) (ho : o = 2 ^ k % 18446744073709551616) (h : p k = true) : q + o = MM.ofP p (k + 1) ∧ q + o < 18446744073709551616 := by
 have h1 : 2 ^ k < 2 ^ 64 := Nat.pow_lt_pow_right (by omega) (by omega)
 have h2 : o = 2 ^ k := by rw [ho]; exact Nat.mod_eq_of_lt h1
 have h3 : q + o = MM.ofP p (k + 1) := by rw [hq, h2]; show _ = MM.ofP p k + _; rw [if_pos h]
 exact ⟨h3, by rw [h3]; exact Nat.lt_of_lt_of_le (MM.ofP_lt p (k + 1)) (Nat.pow_le_pow_right (show 0 < 2 by omega) (show k + 1 ≤ 64 by omega))⟩
theorem ofP_succ_out (p : Nat → Bool) (k q : Nat) (hq : q = MM.ofP p k) (h : p k = false) : q = MM.ofP p (k + 1) := by
 rw [hq]; show _ = MM.ofP p k + _; rw [h]; simp
theorem pow_succ_mod (k o : Nat) (ho : o = 2 ^ k % 18446744073709551616) : IntKind.u64.wrap ((o : Int) * 2) = ((o * 2 % 18446744073709551616 : Nat) : Int) ∧ o * 2 % 18446744073709551616 = 2 ^ (k + 1) % 18446744073709551616 := by
 refine ⟨by rw [IntKind.wrap_u64]; omega, ?_⟩
 rw [ho, Nat.pow_succ]
 omega
theorem contains_at (xs : List Int) (k : Nat) (x : Int) (hk : k < xs.length) (h : xs.getD k 0 = x) : xs.contains x = true := by
 rw [List.getD_eq_getElem?_getD, List.getElem?_eq_getElem hk] at h
 simp only [List.contains_iff_mem]
 rw [← h]
 exact List.getElem_mem hk
theorem contains_not (xs : List Int) (x : Int) (h : ∀ j, j < xs.length → xs.getD j 0 ≠ x) : xs.contains x = false := by
 cases hc : xs.contains x with
 | false => rfl
 | true =>
   rw [List.contains_iff_mem] at hc
   obtain ⟨j, hj, he⟩ := List.mem_iff_getElem.1 hc
   exact absurd (by rw [List.getD_eq_getElem?_getD, List.getElem?_eq_getElem hj]; exact he) (h j hj)
set_option maxHeartbeats 800000 in
theorem refOf_any (A : Option Addr) (c : Nat) (xs : List Int) (w : World) (hn : xs.length ≤ 4294967296) (hA : Ints w A xs) :
 Calls Tryz.prog 98 #[.slice A xs.length c] w fun e w' => e = .returned (.int .u64 (MM.ofN xs : Int)) ∧ w = w' := by
 have HA := Lib.hid hA; clear hA
 generalize hl : xs.length = n at *
 have HL := Lib.hid hl; clear hl
 go_enter Tryz.func98, Tryz.ntmps98
 go_wp2
 go_loop [3, 4, 5, 6] (fun sv ov iv _ => ∃ i q o : Nat, i ≤ 64 ∧ iv = .int .i64 i ∧ sv = .int .u64 q ∧ ov = .int .u64 o ∧ q < 18446744073709551616 ∧ o < 18446744073709551616 ∧ Hid (q = MM.ofP (fun j => xs.contains (j : Int)) i) ∧ Hid (o = 2 ^ i % 18446744073709551616)) (fun _ _ iv _ => 64 - (intOf iv).toNat)
 case atStart => exact ⟨0, 0, 1, by omega, rfl, rfl, rfl, by omega, by omega, by show 0 = MM.ofP _ 0; rfl, by show 1 = 2 ^ 0 % 18446744073709551616; rfl⟩
 case round =>
  obtain ⟨i, q, o, hi, rfl, rfl, rfl, hq, ho, HQ, HO⟩ := hrel
  by_cases hlt : i < 64
  ·obtain ⟨hw1, hw2⟩ := pow_succ_mod i o HO.out
   have HW2 := Lib.hid hw2; clear hw2
   have ho2 : o * 2 % 18446744073709551616 < 18446744073709551616 := Nat.mod_lt _ (by omega)
   go_wp2
   go_loop [3, 6] (fun sv kv => ∃ k : Nat, k ≤ n ∧ kv = .int .i64 k ∧ sv = .int .u64 q ∧ Hid (∀ j, j < k → xs.getD j 0 ≠ (i : Int))) (fun _ kv => n - (intOf kv).toNat)
   case atStart => exact ⟨0, by omega, rfl, rfl, fun j hj => by omega⟩
   case round =>
        obtain ⟨k, hk, rfl, rfl, HK⟩ := hrel
        by_cases hkn : k < n
        ·obtain ⟨b, off, rfl, hc⟩ := HA.out.cell (by intro h; rw [h] at HL; have := HL.out; simp at this; omega)
         have hck := hc k (by rw [HL.out]; exact hkn)
         clear hc
         by_cases hx : xs.getD k 0 = (i : Int)
         ·rw [hx] at hck
          obtain ⟨h1, h2⟩ := ofP_succ_in _ i q o hlt HQ.out HO.out (contains_at xs k _ (by rw [HL.out]; exact hkn) hx)
          have H1 := Lib.hid h1; clear h1
          have HX := Lib.hid hx; clear hx
          go_wp2
          go_round
          case rel => exact ⟨i + 1, q + o, o * 2 % 18446744073709551616, by omega, by go_num, by go_num, rfl, h2, ho2, H1.out, HW2.out⟩
          case measure => simp [intOf]; omega
         ·generalize hy : xs.getD k 0 = y at *
          have HY := Lib.hid hy; clear hy
          have hb : (y == (i : Int)) = false := by simpa using hx
          have HX := Lib.hid hx; clear hx
          go_wp2
          go_round
          case rel =>
           refine ⟨k + 1, by omega, by go_num, rfl, ?_⟩
           show ∀ j, j < k + 1 → xs.getD j 0 ≠ (i : Int)
           intro j hj
           by_cases hjk : j = k
           ·subst hjk; rw [HY.out]; exact HX.out
           ·exact HK.out j (by omega)
          case measure => simp [intOf]; omega
        ·have e : k = n := by omega
         subst e
         have h1 := ofP_succ_out (fun j => xs.contains (j : Int)) i q HQ.out (contains_not xs _ fun j hj => HK.out j (by rw [← HL.out]; exact hj))
         have H1 := Lib.hid h1; clear h1
         go_wp2
         go_round
         case rel => exact ⟨i + 1, q, o * 2 % 18446744073709551616, by omega, by go_num, rfl, rfl, hq, ho2, H1.out, HW2.out⟩
         case measure => simp [intOf]; omega
  ·have e : i = 64 := by omega
   subst e
   have hr : q = MM.ofN xs := HQ.out
   have HR := Lib.hid hr; clear hr
   go_wp2
   go_ret
   rw [HR.out]
   exact ⟨rfl, rfl⟩
end Go.Proofs.YtkgonoejnochjaaGreatDoor
namespace Go.Proofs.YtkgonoejnochjaaGreatDoor
open Go.RowKit
theorem infoInt : (Tryz.prog.info? 3).map (fun i => (i.zero, i.size, i.bytes)) = some (some (.int .i64 0), 1, 8) := by kernel_rfl
def ei (l : List Nat) : List Int := l.map Int.ofNat
theorem cells_snoc (xs : List Int) (x : Int) : cells (xs ++ [x]) = cells xs ++ [.int .i64 x] := by simp [cells]
theorem ei_snoc (l : List Nat) (k : Nat) : ei (l ++ [k]) = ei l ++ [(k : Int)] := by simp [ei]
theorem ei_length (l : List Nat) : (ei l).length = l.length := by simp [ei]
def OwnI (w : World) (B : Nat) (A : Option Addr) (c : Nat) (xs : List Int) : Prop := w.ownsRow B 3 1 (.slice A xs.length c) xs.length (cells xs)
theorem OwnI.ints {w : World} {B c : Nat} {A : Option Addr} {xs : List Int} (h : OwnI w B A c xs) : Ints w A xs := Sl.of_own h
end Go.Proofs.YtkgonoejnochjaaGreatDoor
namespace Go.Proofs.YtkgonoejnochjaaGreatDoor
open Go.RowKit
end Go.Proofs.YtkgonoejnochjaaGreatDoor
namespace Go.Proofs.YtkgonoejnochjaaGreatDoor.RM
open Go.Proofs.YtkgonoejnochjaaGreatDoor
theorem cl_cz (n : Int) (l : List Nat) : cl (pts n) (cz n l) = cz n l := by
 refine rext (RW.mk _ _) (RW.mk _ _) fun i j _ _ => ?_
 rw [bt_cl, pts_pts, bt_cz]
 unfold clo
 cases decide (i < pts n) <;> cases decide (j < pts n) <;> simp
end Go.Proofs.YtkgonoejnochjaaGreatDoor.RM
namespace Go.Proofs.YtkgonoejnochjaaGreatDoor
open Go.RowKit RM
section
variable {w w' : World} {g : Nat} {n : Int} {l : List Nat}
end
section
variable {w w' : World} {g q B : Nat} {n : Int} {l : List Nat}
end
section
variable {w w' w2 : World} {g q B : Nat} {n : Int} {l : List Nat}
end
section
variable {ops : Array Oper} {rest : List Oper} {o : Oper} {a : Act} {w : World} {Q : Exit → Act → World → Prop}
end
end Go.Proofs.YtkgonoejnochjaaGreatDoor
namespace Go.Proofs.YtkgonoejnochjaaGreatDoor
open Go.RowKit
section
variable {w w' : World} {g q B : Nat} {t : TypeId} {cs : Array Value}
end
end Go.Proofs.YtkgonoejnochjaaGreatDoor
namespace Go.Proofs.YtkgonoejnochjaaGreatDoor
open Go.RowKit RM
theorem isPt_true {n i : Int} (h0 : 0 ≤ i) (h : i < (pts n : Int)) : isPt n i = true := by simp [isPt, h0, h]
end Go.Proofs.YtkgonoejnochjaaGreatDoor
namespace Go.Proofs.YtkgonoejnochjaaGreatDoor
open Go.RowKit RM
end Go.Proofs.YtkgonoejnochjaaGreatDoor
namespace Go.Proofs.YtkgonoejnochjaaGreatDoor
open Go.RowKit RM
end Go.Proofs.YtkgonoejnochjaaGreatDoor
namespace Go.Proofs.YtkgonoejnochjaaGreatDoor
section
variable {P : Program} {ops : Array Oper} {Q : Exit → Act → World → Prop} {S : World → Prop}
end
end Go.Proofs.YtkgonoejnochjaaGreatDoor
namespace Go.Proofs.YtkgonoejnochjaaGreatDoor
open Go.RowKit RM
section
variable {o : Oper} {a : Act} {S : World → Prop}
end
theorem ex_two (B g q : Nat) (n m : Int) (l k : List Nat) (w0 w : World) (h1 : RelAt w g n l) (h2 : RelAt w q m k) (hb : Below B w0 w) :
 ∃ S : World → Prop, Hid (S w.drew) ∧ (∀ w', S w' → RelAt w' g n l) ∧ (∀ w', S w' → RelAt w' q m k) ∧ Hid (∀ w', S w' → Below B w0 w') ∧ Hid (B ≤ w.heap.size → ∀ wa wb, S wa → Below wa.heap.size wa wb → S wb) :=
 ⟨fun w' => RelAt w' g n l ∧ RelAt w' q m k ∧ Below B w0 w' ∧ w.heap.size ≤ w'.heap.size, ⟨h1, h2, hb.drew, Nat.le_refl _⟩, fun _ h => h.1, fun _ h => h.2.1, fun _ h => h.2.2.1,
  fun hB _ _ h hb => ⟨h.1.below hb h.1.lt, h.2.1.below hb h.2.1.lt, h.2.2.1.trans (hb.mono (Nat.le_trans hB h.2.2.2)), Nat.le_trans h.2.2.2 hb.size⟩⟩
end Go.Proofs.YtkgonoejnochjaaGreatDoor
namespace Go.Proofs.YtkgonoejnochjaaGreatDoor
open Go.RowKit RM
end Go.Proofs.YtkgonoejnochjaaGreatDoor
namespace Go.Proofs.YtkgonoejnochjaaGreatDoor
open Go.RowKit RM
end Go.Proofs.YtkgonoejnochjaaGreatDoor
namespace Go.Proofs.YtkgonoejnochjaaGreatDoor
open Go.RowKit RM
end Go.Proofs.YtkgonoejnochjaaGreatDoor
namespace Go.Proofs.YtkgonoejnochjaaGreatDoor
open Go.RowKit RM
end Go.Proofs.YtkgonoejnochjaaGreatDoor
namespace Go.Proofs.YtkgonoejnochjaaGreatDoor
open Go.RowKit RM
end Go.Proofs.YtkgonoejnochjaaGreatDoor
namespace Go.Proofs.YtkgonoejnochjaaGreatDoor
section
variable {P : Program} {ops : Array Oper} {Q : Exit → Act → World → Prop} {S : World → Prop}
end
end Go.Proofs.YtkgonoejnochjaaGreatDoor
namespace Go.Proofs.YtkgonoejnochjaaGreatDoor
section
variable {P : Program} {ops : Array Oper} {Q : Exit → Act → World → Prop} {S : World → Prop}
end
end Go.Proofs.YtkgonoejnochjaaGreatDoor
namespace Go.Proofs.YtkgonoejnochjaaGreatDoor.RM
open Go.Proofs.YtkgonoejnochjaaGreatDoor
end Go.Proofs.YtkgonoejnochjaaGreatDoor.RM
namespace Go.Proofs.YtkgonoejnochjaaGreatDoor
open Go.RowKit RM
open Go.Sort hiding Below ahead
end Go.Proofs.YtkgonoejnochjaaGreatDoor
namespace Go.Proofs.YtkgonoejnochjaaGreatDoor
open Go.RowKit RM
theorem own_block {w : World} {base size n g : Nat} {e t : TypeId} {x : Value} {cs : List Value} {cur : Array Value} (h : w.ownsRow base e size x n cs) (hb : w.heap[g]? = some (.cells cur t (0, 0))) (he : e ≠ t) : x.ownBlock ≠ some g := by
 rcases h.2 with ⟨rfl, _⟩ | ⟨g', cap, cur', rfl, _, hh, _⟩
 ·simp [Value.ownBlock]
 ·intro hx
  have hx' : g' = g := by simpa [Value.ownBlock] using hx
  subst hx'
  rw [hh] at hb
  simp only [Option.some.injEq, Obj.cells.injEq] at hb
  exact he hb.2.1
end Go.Proofs.YtkgonoejnochjaaGreatDoor
namespace Go.Proofs.YtkgonoejnochjaaGreatDoor
open Go.RowKit RM
end Go.Proofs.YtkgonoejnochjaaGreatDoor
namespace Go.Proofs.YtkgonoejnochjaaGreatDoor
open Go.RowKit RM
end Go.Proofs.YtkgonoejnochjaaGreatDoor
namespace Go.Proofs.YtkgonoejnochjaaGreatDoor
open Go.RowKit RM
theorem qpoints_any (n : Int) (l : List Nat) (w : World) :
 Calls Tryz.prog 84 #[.agg (rv n l)] w fun e w' => e = .returned (.int .i64 ((pts n : Nat) : Int)) ∧ Below w.heap.size w w' := by
 have h0 := rv_0 n l
 generalize rv n l = r at *
 rcases Int.lt_or_le n 0 with hn | hn
 ·rw [pts_neg hn]
  go_enter Tryz.func84, Tryz.ntmps84
  go_wp2_with fail
  go_ret
  exact ⟨rfl, (Below.refl _ _).alloc (Nat.le_refl _) _⟩
 ·rcases Int.lt_or_le 64 n with h1 | h1
  ·rw [pts_big h1]
   go_enter Tryz.func84, Tryz.ntmps84
   go_wp2_with fail
   go_ret
   exact ⟨rfl, (Below.refl _ _).alloc (Nat.le_refl _) _⟩
  ·rw [pts_in hn h1]
   go_enter Tryz.func84, Tryz.ntmps84
   go_wp2_with fail
   go_ret
   exact ⟨rfl, (Below.refl _ _).alloc (Nat.le_refl _) _⟩
theorem hasR_no {n : Int} {l : List Nat} {i j : Int} (h : i < 0 ∨ j < 0 ∨ (pts n : Int) ≤ i ∨ (pts n : Int) ≤ j) : hasR n l i j = false := by
 unfold hasR
 cases h1 : isPt n i with
 | false => rfl
 | true =>
   cases h2 : isPt n j with
   | false => rfl
   | true =>
     have := isPt_iff.1 h1
     have := isPt_iff.1 h2
     omega
theorem hasR_in {n : Int} {l : List Nat} {a b : Nat} (h1 : a < pts n) (h2 : b < pts n) : hasR n l a b = (l.getD a 0).testBit b := by
 unfold hasR
 rw [isPt_nat, isPt_nat]
 simp [h1, h2, bt]
set_option maxHeartbeats 2000000 in
theorem qhas_no (n : Int) (l : List Nat) (hl : RW l) (i j : Int) (h : i < 0 ∨ j < 0 ∨ (pts n : Int) ≤ i ∨ (pts n : Int) ≤ j) (w : World) :
 Calls Tryz.prog 100 #[.agg (rv n l), .int .i64 i, .int .i64 j] w fun e w' => e = .returned (.bool false) ∧ Below w.heap.size w w' := by
 have hq := fun w => qpoints_any n l w
 have HQ := Lib.hid hq; clear hq
 have hp := pts_le n
 generalize pts n = p at *
 have hcases : i < 0 ∨ (0 ≤ i ∧ j < 0) ∨ (0 ≤ i ∧ 0 ≤ j ∧ (p : Int) ≤ i) ∨ (0 ≤ i ∧ 0 ≤ j ∧ i < (p : Int) ∧ (p : Int) ≤ j) := by omega
 clear h
 rcases hcases with h | ⟨h, h2⟩ | ⟨h, h2, h3⟩ | ⟨h, h2, h3, h4⟩
 all_goals
  go_enter Tryz.func100, Tryz.ntmps100
  go_wp2_with (refine wpList_loadRel rfl _ rfl w.heap.size rfl n l hl (RelAt.new _ _ _) ?_)
  refine (HQ.out _).mono ?_
  rintro e w1 ⟨rfl, hb1⟩
  have hb : Below w.heap.size w w1 := ((Below.refl _ _).alloc (Nat.le_refl _) _).trans (hb1.mono (by simp))
  have HB := Lib.hid hb; clear hb hb1
  go_wp2_with fail
  go_ret
  exact ⟨rfl, HB.out⟩
theorem shr_bit (x b : Nat) : ((((x : Int) / 2 ^ b).tmod 2 == 1)) = x.testBit b := by
 have e : ((x : Int) / 2 ^ b) = ((x / 2 ^ b : Nat) : Int) := by simp
 rw [e, Int.tmod_eq_emod_of_nonneg (Int.natCast_nonneg _), Bool.eq_iff_iff, ← MM.half_bit]
 generalize x / 2 ^ b = y
 simp
 omega
set_option maxHeartbeats 400000 in
theorem qhas_in (n : Int) (l : List Nat) (hl : RW l) (a b : Nat) (h1 : a < pts n) (h2 : b < pts n) (w : World) :
 Calls Tryz.prog 100 #[.agg (rv n l), .int .i64 (a : Int), .int .i64 (b : Int)] w fun e w' => e = .returned (.bool ((l.getD a 0).testBit b)) ∧ Below w.heap.size w w' := by
 have hq := fun w => qpoints_any n l w
 have HQ := Lib.hid hq; clear hq
 have hp := pts_le n
 generalize pts n = p at *
 have hx := hl.lt a
 obtain ⟨x, hxe⟩ : ∃ x, x = l.getD a 0 := ⟨_, rfl⟩
 rw [← hxe] at hx ⊢
 have HX := Lib.hid hxe; clear hxe
 go_enter Tryz.func100, Tryz.ntmps100
 go_wp2_with (refine wpList_loadRel rfl _ rfl w.heap.size rfl n l hl (RelAt.new _ _ _) ?_)
 refine (HQ.out _).mono ?_
 rintro e w1 ⟨rfl, hb1⟩
 have r1 := (RelAt.new w n l).below hb1 (by simp)
 have hb : Below w.heap.size w w1 := ((Below.refl _ _).alloc (Nat.le_refl _) _).trans (hb1.mono (by simp))
 have HB := Lib.hid hb; clear hb hb1
 have hc := r1.cell hl a (by omega)
 rw [← HX.out] at hc
 clear r1
 have hb1 : (b : Int) < 64 := by omega
 go_wp2_with fail
 go_ret
 exact ⟨ret_eq (bool_eq (shr_bit x b)), HB.out⟩
theorem qhas_any (n : Int) (l : List Nat) (hl : RW l) (i j : Int) (w : World) :
 Calls Tryz.prog 100 #[.agg (rv n l), .int .i64 i, .int .i64 j] w fun e w' => e = .returned (.bool (hasR n l i j)) ∧ Below w.heap.size w w' := by
 by_cases h : i < 0 ∨ j < 0 ∨ (pts n : Int) ≤ i ∨ (pts n : Int) ≤ j
 ·rw [hasR_no h]; exact qhas_no n l hl i j h w
 ·obtain ⟨a, rfl⟩ := Int.eq_ofNat_of_zero_le (show 0 ≤ i by omega)
  obtain ⟨b, rfl⟩ := Int.eq_ofNat_of_zero_le (show 0 ≤ j by omega)
  rw [hasR_in (by omega) (by omega)]
  exact qhas_in n l hl a b (by omega) (by omega) w
set_option maxHeartbeats 400000 in
theorem qin_any (A : Option Addr) (c : Nat) (xs : List Int) (x : Int) (w : World) (hn : xs.length ≤ 4294967296) (hA : Ints w A xs) :
 Calls Tryz.prog 155 #[.slice A xs.length c, .int .i64 x] w fun e w' => e = .returned (.bool (xs.contains x)) ∧ w = w' := by
 have HA := Lib.hid hA; clear hA
 have HCA : Hid (∀ k, k < xs.length → xs.getD k 0 = x → xs.contains x = true) := fun k hk h => contains_at xs k x hk h
 have HCN : Hid ((∀ j, j < xs.length → xs.getD j 0 ≠ x) → xs.contains x = false) := fun h => contains_not xs x h
 generalize xs.contains x = r at *
 generalize hl : xs.length = n at *
 have HL := Lib.hid hl; clear hl
 go_enter Tryz.func155, Tryz.ntmps155
 go_wp2_with fail
 go_loop [5] (fun kv => ∃ k : Nat, k ≤ n ∧ kv = .int .i64 k ∧ Hid (∀ j, j < k → xs.getD j 0 ≠ x)) (fun kv => n - (intOf kv).toNat)
 case atStart => exact ⟨0, by omega, rfl, fun j hj => by omega⟩
 case round =>
  obtain ⟨k, hk, rfl, HK⟩ := hrel
  by_cases hlt : k < n
  ·obtain ⟨b, o, rfl, hc⟩ := HA.out.cell (by intro h; rw [h] at HL; have := HL.out; simp at this; omega)
   have hck := hc k (by rw [HL.out]; exact hlt)
   clear hc
   by_cases hx : xs.getD k 0 = x
   ·rw [hx] at hck
    have hr := HCA.out k hlt hx
    have HR := Lib.hid hr; clear hr hx
    go_wp2_with fail
    go_ret
    exact ⟨ret_eq (bool_eq HR.out.symm), rfl⟩
   ·generalize hy : xs.getD k 0 = y at *
    have HY := Lib.hid hy; clear hy
    have hb : (y == x) = false := by simpa using hx
    have HX := Lib.hid hx; clear hx
    go_wp2_with fail
    go_round
    case rel =>
     refine ⟨k + 1, by omega, by go_num, ?_⟩
     show ∀ j, j < k + 1 → xs.getD j 0 ≠ x
     intro j hj
     by_cases hjk : j = k
     ·subst hjk; rw [HY.out]; exact HX.out
     ·exact HK.out j (by omega)
    case measure => simp [intOf]; omega
  ·have e : k = n := by omega
   subst e
   have HR := Lib.hid (HCN.out HK.out)
   go_wp2_with fail
   go_ret
   exact ⟨ret_eq (bool_eq HR.out.symm), rfl⟩
end Go.Proofs.YtkgonoejnochjaaGreatDoor
namespace Go.Proofs.YtkgonoejnochjaaGreatDoor
open Go.RowKit RM
section
variable {p : Nat} {R : Nat → Nat → Bool} {i a j : Nat} {o : List Nat}
theorem Rch.begin (hi : i < p) : Rch p R i [i] 0 0 := ⟨by simp, by simp, fun x hx => by simp at hx; subst hx; exact Path.refl _ hi, fun t ht => by omega, fun y hy => by omega⟩
theorem Rch.skip (h : Rch p R i o a j) (hs : R (o.getD a 0) j = true → j ∈ o) : Rch p R i o a (j + 1) :=
 ⟨h.nodup, h.start, h.path, h.done, fun y hy hp hr => by
  by_cases e : y = j
  ·subst e; exact hs hr
  ·exact h.part y (by omega) hp hr⟩
end
def rchB (n : Int) (l : List Nat) (i x : Int) : Bool := isPt n i && isPt n x && clo (pts n) (bt l) i.toNat x.toNat
theorem rch_contains {n : Int} {l : List Nat} {i : Nat} {o : List Nat} (hi : i < pts n) (h : ∀ x, x ∈ o ↔ Path (pts n) (bt l) i x) (x : Int) : (ei o).contains x = rchB n l i x := by
 rw [Bool.eq_iff_iff, List.contains_iff_mem]
 unfold rchB ei
 rw [isPt_nat]
 simp only [hi, decide_true, Bool.true_and, Bool.and_eq_true, clo_iff, Int.toNat_natCast, List.mem_map]
 constructor
 ·rintro ⟨y, hy, rfl⟩
  have := (h y).1 hy
  exact ⟨isPt_iff.2 ⟨Int.natCast_nonneg _, by have := this.lt_right; exact Int.ofNat_lt.2 this⟩, this⟩
 ·rintro ⟨h1, h2⟩
  have := isPt_iff.1 h1
  exact ⟨x.toNat, (h _).2 h2, by show ((x.toNat : Nat) : Int) = x; omega⟩
def Reached (n : Int) (l : List Nat) (i : Int) (w : World) (e : Ending) (w' : World) : Prop :=
 ∃ A c, ∃ xs : List Int, e = .returned (.slice A xs.length c) ∧ xs.length ≤ 64 ∧ OwnI w' w.heap.size A c xs ∧ Below w.heap.size w w' ∧ ∀ x, xs.contains x = rchB n l i x
theorem qreach_no (n : Int) (l : List Nat) (hl : RW l) (i : Int) (h : isPt n i = false) (w : World) :
 Calls Tryz.prog 151 #[.agg (rv n l), .int .i64 i] w (Reached n l i w) := by
 have hq := fun w => qpoints_any n l w
 have HQ := Lib.hid hq; clear hq
 have HR : Hid (∀ w', Below w.heap.size w w' → Reached n l i w (.returned (.slice none 0 0)) w') := fun w' hb => ⟨none, 0, [], rfl, by simp, World.ownsRow_nil _ _ _ _, hb, fun x => by unfold rchB; rw [h]; rfl⟩
 by_cases h0 : i < 0
 ·clear h
  go_enter Tryz.func151, Tryz.ntmps151
  go_wp2_with fail
  go_ret
  exact HR.out _ ((Below.refl _ _).alloc (Nat.le_refl _) _)
 ·have h1 : (pts n : Int) ≤ i := by
   apply Decidable.byContradiction
   intro h2
   rw [isPt_true (by omega) (by omega)] at h
   cases h
  clear h
  generalize pts n = p at *
  go_enter Tryz.func151, Tryz.ntmps151
  go_wp2_with (refine wpList_loadRel (by rfl) _ rfl w.heap.size rfl n l hl (RelAt.new _ _ _) ?_)
  refine (HQ.out _).mono ?_
  rintro e w1 ⟨rfl, hb1⟩
  have hb : Below w.heap.size w w1 := ((Below.refl _ _).alloc (Nat.le_refl _) _).trans (hb1.mono (by simp))
  have HB := Lib.hid hb; clear hb hb1
  go_wp2_with fail
  go_ret
  exact HR.out _ HB.out
theorem ex_reach (B g : Nat) (n : Int) (l : List Nat) (p : Addr) (v : Value) (A : Option Addr) (c : Nat) (xs : List Int) (w0 w : World) (h1 : RelAt w g n l) (h2 : w.cell? p = some v) (h3 : OwnI w B A c xs) (hb : Below B w0 w) :
 ∃ S : World → Prop, Hid (S w.drew) ∧ (∀ w', S w' → RelAt w' g n l) ∧ (∀ w', S w' → w'.cell? p = some v) ∧ Hid (∀ w', S w' → OwnI w' B A c xs) ∧ Hid (∀ w', S w' → Below B w0 w') ∧ Hid (B ≤ w.heap.size → ∀ wa wb, S wa → Below wa.heap.size wa wb → S wb) :=
 ⟨fun w' => RelAt w' g n l ∧ w'.cell? p = some v ∧ OwnI w' B A c xs ∧ Below B w0 w' ∧ w.heap.size ≤ w'.heap.size, ⟨h1, h2, h3, hb.drew, Nat.le_refl _⟩, fun _ h => h.1, fun _ h => h.2.1, fun _ h => h.2.2.1, fun _ h => h.2.2.2.1,
  fun hB _ _ h hb => ⟨h.1.below hb h.1.lt, by rw [hb.cell (World.block_lt_of_cell? _ _ h.2.1)]; exact h.2.1, own_below h.2.2.1 hb (Nat.le_refl _), h.2.2.2.1.trans (hb.mono (Nat.le_trans hB h.2.2.2.2)), Nat.le_trans h.2.2.2.2 hb.size⟩⟩
set_option maxHeartbeats 2000000 in
theorem qreach_in (n : Int) (l : List Nat) (hl : RW l) (i : Nat) (hi : i < pts n) (w : World) :
 Calls Tryz.prog 151 #[.agg (rv n l), .int .i64 (i : Int)] w (Reached n l i w) := by
 have hq := fun w => qpoints_any n l w
 have HQ := Lib.hid hq; clear hq
 have hp := pts_le n
 have HR : Hid (∀ (o : List Nat) (A : Option Addr) (c : Nat) w', Rch (pts n) (bt l) i o o.length 0 → OwnI w' w.heap.size A c (ei o) → Below w.heap.size w w' → Reached n l i w (.returned (.slice A o.length c)) w') := fun o A c w' h1 h2 h3 =>
  ⟨A, c, ei o, by rw [ei_length], by rw [ei_length]; have := h1.len; omega, h2, h3, rch_contains hi h1.all⟩
 have HH : Hid (∀ a b : Nat, a < pts n → b < pts n → ∀ w, Calls Tryz.prog 100 #[.agg (rv n l), .int .i64 (a : Int), .int .i64 (b : Int)] w fun e w' => e = .returned (.bool (bt l a b)) ∧ Below w.heap.size w w') := fun a b h1 h2 w => qhas_in n l hl a b h1 h2 w
 have HST : Hid (Rch (pts n) (bt l) i [i] 0 0) := Rch.begin hi
 generalize pts n = p at *
 have hd1 : decide ((i : Int) < 0) = false := decide_eq_false (by omega)
 have hd2 : decide (p ≤ i) = false := decide_eq_false (by omega)
 go_enter Tryz.func151, Tryz.ntmps151
 go_wp2_with (refine wpList_loadRel (by rfl) _ rfl w.heap.size rfl n l hl (RelAt.new _ _ _) ?_)
 refine (HQ.out _).mono ?_
 rintro e w1 ⟨rfl, hb1⟩
 have r1 := (RelAt.new w n l).below hb1 (by simp)
 have hb : Below w.heap.size w w1 := ((Below.refl _ _).alloc (Nat.le_refl _) _).trans (hb1.mono (by simp))
 have HB := Lib.hid hb; clear hb hb1
 go_wp2_with fail
 have r2 := r1.alloc (.cells #[.int .i64 (i : Int)] 3)
 have ho2 : OwnI (w1.alloc (.cells #[.int .i64 (i : Int)] 3)) w.heap.size (some ⟨w1.heap.size, 0, none⟩) 1 (ei [i]) := World.ownsRow_lit w1 #[.int .i64 (i : Int)] 1 HB.out.size (by simp [maxLen]) rfl
 have HO2 := Lib.hid ho2; clear ho2
 have HB2 := Lib.hid (HB.out.alloc HB.out.size (.cells #[.int .i64 (i : Int)] 3))
 clear r1 HB
 go_loopw [5, 6, 7] (fun ov av _ wr => ∃ (o : List Nat) (a m c : Nat) (A : Option Addr), a ≤ m ∧ m ≤ 64 ∧ ov = .slice A m c ∧ av = .int .i64 a ∧ Hid (m = o.length) ∧ Hid (Rch p (bt l) i o a 0) ∧ Hid (OwnI wr w.heap.size A c (ei o)) ∧ RelAt wr w.heap.size n l ∧ Hid (Below w.heap.size w wr)) (fun _ av _ _ => 64 - (intOf av).toNat)
 case atStart => exact ⟨[i], 0, 1, 1, _, by omega, by omega, rfl, rfl, rfl, HST, HO2, r2, HB2⟩
 case round =>
  clear r2 HO2 HB2 HST
  obtain ⟨o, a, m, c, A, ham, hm, rfl, rfl, HM, HRC, HO, rr, HB⟩ := hrel
  by_cases hlt : a < m
  ·go_wp2_with fail
   obtain ⟨wo, rfl⟩ : ∃ wo : World, wo = wr := ⟨_, rfl⟩
   go_loopw [5, 7] (fun ov jv wr => ∃ (o : List Nat) (j m c : Nat) (A : Option Addr), j ≤ p ∧ a < m ∧ m ≤ 64 ∧ ov = .slice A m c ∧ jv = .int .i64 j ∧ Hid (m = o.length) ∧ Hid (Rch p (bt l) i o a j) ∧ Hid (OwnI wr w.heap.size A c (ei o)) ∧ RelAt wr w.heap.size n l ∧ Hid (Below w.heap.size w wr)) (fun _ jv _ => p - (intOf jv).toNat)
   case atStart => exact ⟨o, 0, m, c, A, by omega, hlt, hm, rfl, rfl, HM, HRC, HO, rr, HB⟩
   case round =>
        clear HM HRC HO rr HB ham hm hlt
        obtain ⟨o, j, m, c, A, hj, ham, hm, rfl, rfl, HM, HRC, HO, rr, HB⟩ := hrel
        go_wp2_with (refine wpList_loadRel rfl _ rfl w.heap.size rfl n l hl rr ?_)
        refine (HQ.out _).mono ?_
        rintro e w2 ⟨rfl, hb2⟩
        have rr2 := rr.below hb2 rr.lt
        have HO2 : Hid (OwnI w2 w.heap.size A c (ei o)) := own_below HO.out hb2 (Nat.le_refl _)
        have HB2 := Lib.hid (HB.out.trans (hb2.mono HB.out.size)); clear hb2 HB HO rr
        by_cases hlt : j < p
        ·have hne : ei o ≠ [] := by intro h; have := congrArg List.length h; rw [ei_length, ← HM.out] at this; simp at this; omega
         obtain ⟨b, off, rfl, hc⟩ := HO2.out.ints.cell hne
         have hck := hc a (by rw [ei_length, ← HM.out]; exact ham)
         clear hc hne
         have hal : a < o.length := by rw [← HM.out]; exact ham
         have hxm : o.getD a 0 ∈ o := by rw [List.getD_eq_getElem?_getD, List.getElem?_eq_getElem hal]; exact List.getElem_mem hal
         have hxp : o.getD a 0 < p := (HRC.out.path _ hxm).lt_right
         have hxe : (ei o).getD a 0 = ((o.getD a 0 : Nat) : Int) := by simp [ei, List.getD_eq_getElem?_getD, List.getElem?_eq_getElem hal]
         rw [hxe] at hck
         have hcon : (ei o).contains (j : Int) = decide (j ∈ o) := by
          rw [Bool.eq_iff_iff, List.contains_iff_mem, decide_eq_true_eq]
          unfold ei
          simp only [List.mem_map]
          exact ⟨fun ⟨y, hy, e⟩ => by have : y = j := Int.ofNat.inj e; rwa [← this], fun h => ⟨j, h, rfl⟩⟩
         have hin := fun w h => qin_any (some ⟨b, off, none⟩) c (ei o) (j : Int) w (by rw [ei_length, ← HM.out]; omega) h
         rw [hcon, ei_length, ← HM.out] at hin
         have HIN := Lib.hid hin; clear hin hcon hxe hxm
         have HHX := Lib.hid (HH.out (o.getD a 0) j hxp hlt)
         have HSK : Hid ((bt l (o.getD a 0) j = true → j ∈ o) → Rch p (bt l) i o a (j + 1)) := HRC.out.skip
         have HAD : Hid (bt l (o.getD a 0) j = true → j ∉ o → Rch p (bt l) i (o ++ [j]) a (j + 1)) := fun h1 h2 => HRC.out.add hal hlt h1 h2
         clear hal
         generalize o.getD a 0 = x at *
         have hm0 : (0 : Int) ≤ (a : Int) := by omega
         have ham' : (a : Int) < (m : Int) := by omega
         obtain ⟨S, HS, p1, c1, PO, PB, keep⟩ := ex_reach _ _ _ _ _ _ _ _ _ _ _ rr2 hck HO2.out HB2.out
         have keepS := keep.out (Nat.le_of_lt rr2.lt)
         clear keep rr2 hck HO2 HB2
         cases hbt : bt l x j with
         | false =>
           rw [hbt] at HHX HSK HAD
           have HN := Lib.hid (HSK.out (fun h => by cases h)); clear HSK HAD hbt
           go_wp2_with fail
           refine wp_region_ord S [(0, true), (1, true), (2, true), (3, true), (4, true), (5, true), (6, false), (7, true), (8, true), (9, true), (10, false), (11, true), (12, true)] (by kernel_rfl) (by kernel_rfl) rfl (by kernel_rfl) HS.out ?_
           iterate 6
            (refine wpOrd_step (o := ?_) ?_ ?_; rotate_left 1; (simp only [zA1, zA2, zA3]; with_reducible rfl))
            (first
                 | (refine wpOrd_skip (by rfl) ?_)
                 | (refine wpOrd_take (by rfl) (take_loadRel _ rfl _ rfl n l hl p1) ?_)
                 | (refine wpOrd_take (v := ?_) (by rfl) ?_ ?_; rotate_left 1; (intro wx hSx; have hc_0 := c1 wx hSx; go_simp; try with_reducible rfl)))
            (try simp only [Act.put, zA4, zA5, zA6])
           (refine wpOrd_solo (o := ?_) ?_ ?_; rotate_left 1; (simp only [zA1, zA2, zA3]; with_reducible rfl))
           intro K hK
           go_simp
           go_at_call 100
           refine (HHX.out _).mono ?_
           rintro e w3 ⟨rfl, hb⟩
           have hS := keepS _ _ HS.out hb
           clear HS
           have HS := Lib.hid hS; clear hS hb
           refine hK.out _ _ HS.out ?_
           clear hK K
           (try simp only [Act.put, zA4, zA5, zA6])
           iterate 3
            (refine wpOrd_step (o := ?_) ?_ ?_; rotate_left 1; (simp only [zA1, zA2, zA3]; with_reducible rfl))
            (first
                 | (refine wpOrd_skip (by rfl) ?_)
                 | (refine wpOrd_take (v := ?_) (by rfl) ?_ ?_; rotate_left 1; (intro wx hSx; go_simp; try with_reducible rfl)))
            (try simp only [Act.put, zA4, zA5, zA6])
           (refine wpOrd_solo (o := ?_) ?_ ?_; rotate_left 1; (simp only [zA1, zA2, zA3]; with_reducible rfl))
           intro K hK
           go_simp
           refine hK.out _ _ HS.out ?_
           clear hK K
           (try simp only [Act.put, zA4, zA5, zA6])
           iterate 2
            (refine wpOrd_step (o := ?_) ?_ ?_; rotate_left 1; (simp only [zA1, zA2, zA3]; with_reducible rfl))
            (first
                 | (refine wpOrd_skip (by rfl) ?_)
                 | (refine wpOrd_take (v := ?_) (by rfl) ?_ ?_; rotate_left 1; (intro wx hSx; go_simp; try with_reducible rfl)))
            (try simp only [Act.put, zA4, zA5, zA6])
           refine wpOrd_done ?_
           have rr3 := p1 _ HS.out
           have HO3 := Lib.hid (PO.out _ HS.out)
           have HB3 := Lib.hid (PB.out _ HS.out)
           clear p1 c1 PO PB keepS HS
           go_wp2_with fail
           go_roundw
           case rel => exact ⟨o, j + 1, m, c, _, by omega, ham, hm, rfl, by go_num, HM, HN, HO3, rr3, HB3⟩
           case measure => simp [intOf]; omega
         | true =>
           rw [hbt] at HHX HSK HAD
           cases hmem : decide (j ∈ o) with
           | true =>
             have HN := Lib.hid (HSK.out (fun _ => of_decide_eq_true hmem))
             have HMEM := Lib.hid hmem; clear HSK HAD hbt hmem
             go_wp2_with fail
             refine wp_region_ord S [(0, true), (1, true), (2, true), (3, true), (4, true), (5, true), (6, false), (7, true), (8, true), (9, true), (10, false), (11, true), (12, true)] (by kernel_rfl) (by kernel_rfl) rfl (by kernel_rfl) HS.out ?_
             iterate 6
              (refine wpOrd_step (o := ?_) ?_ ?_; rotate_left 1; (simp only [zA1, zA2, zA3]; with_reducible rfl))
              (first
               | (refine wpOrd_skip (by rfl) ?_)
               | (refine wpOrd_take (by rfl) (take_loadRel _ rfl _ rfl n l hl p1) ?_)
               | (refine wpOrd_take (v := ?_) (by rfl) ?_ ?_; rotate_left 1; (intro wx hSx; have hc_0 := c1 wx hSx; go_simp; try with_reducible rfl)))
              (try simp only [Act.put, zA4, zA5, zA6])
             (refine wpOrd_solo (o := ?_) ?_ ?_; rotate_left 1; (simp only [zA1, zA2, zA3]; with_reducible rfl))
             intro K hK
             go_simp
             go_at_call 100
             refine (HHX.out _).mono ?_
             rintro e w3 ⟨rfl, hb⟩
             have hS := keepS _ _ HS.out hb
             clear HS
             have HS := Lib.hid hS; clear hS hb
             refine hK.out _ _ HS.out ?_
             clear hK K
             (try simp only [Act.put, zA4, zA5, zA6])
             iterate 3
              (refine wpOrd_step (o := ?_) ?_ ?_; rotate_left 1; (simp only [zA1, zA2, zA3]; with_reducible rfl))
              (first
               | (refine wpOrd_skip (by rfl) ?_)
               | (refine wpOrd_take (v := ?_) (by rfl) ?_ ?_; rotate_left 1; (intro wx hSx; go_simp; try with_reducible rfl)))
              (try simp only [Act.put, zA4, zA5, zA6])
             (refine wpOrd_solo (o := ?_) ?_ ?_; rotate_left 1; (simp only [zA1, zA2, zA3]; with_reducible rfl))
             intro K hK
             go_simp
             go_at_call 155
             refine (HIN.out _ (PO.out _ HS.out).ints).mono ?_
             rintro e w' ⟨rfl, rfl⟩
             refine hK.out _ _ HS.out ?_
             clear hK K
             (try simp only [Act.put, zA4, zA5, zA6])
             rw [HMEM.out]
             iterate 2
              (refine wpOrd_step (o := ?_) ?_ ?_; rotate_left 1; (simp only [zA1, zA2, zA3]; with_reducible rfl))
              (first
               | (refine wpOrd_skip (by rfl) ?_)
               | (refine wpOrd_take (v := ?_) (by rfl) ?_ ?_; rotate_left 1; (intro wx hSx; go_simp; try with_reducible rfl)))
              (try simp only [Act.put, zA4, zA5, zA6])
             refine wpOrd_done ?_
             have rr3 := p1 _ HS.out
             have HO3 := Lib.hid (PO.out _ HS.out)
             have HB3 := Lib.hid (PB.out _ HS.out)
             clear p1 c1 PO PB keepS HS
             go_wp2_with fail
             go_roundw
             case rel => exact ⟨o, j + 1, m, c, _, by omega, ham, hm, rfl, by go_num, HM, HN, HO3, rr3, HB3⟩
             case measure => simp [intOf]; omega
           | false =>
             have HN := Lib.hid (HAD.out rfl (of_decide_eq_false hmem))
             have HMEM := Lib.hid hmem; clear HSK HAD hbt hmem
             go_wp2_with fail
             refine wp_region_ord S [(0, true), (1, true), (2, true), (3, true), (4, true), (5, true), (6, false), (7, true), (8, true), (9, true), (10, false), (11, true), (12, true)] (by kernel_rfl) (by kernel_rfl) rfl (by kernel_rfl) HS.out ?_
             iterate 6
              (refine wpOrd_step (o := ?_) ?_ ?_; rotate_left 1; (simp only [zA1, zA2, zA3]; with_reducible rfl))
              (first
                   | (refine wpOrd_skip (by rfl) ?_)
                   | (refine wpOrd_take (by rfl) (take_loadRel _ rfl _ rfl n l hl p1) ?_)
                   | (refine wpOrd_take (v := ?_) (by rfl) ?_ ?_; rotate_left 1; (intro wx hSx; have hc_0 := c1 wx hSx; go_simp; try with_reducible rfl)))
              (try simp only [Act.put, zA4, zA5, zA6])
             (refine wpOrd_solo (o := ?_) ?_ ?_; rotate_left 1; (simp only [zA1, zA2, zA3]; with_reducible rfl))
             intro K hK
             go_simp
             go_at_call 100
             refine (HHX.out _).mono ?_
             rintro e w3 ⟨rfl, hb⟩
             have hS := keepS _ _ HS.out hb
             clear HS
             have HS := Lib.hid hS; clear hS hb
             refine hK.out _ _ HS.out ?_
             clear hK K
             (try simp only [Act.put, zA4, zA5, zA6])
             iterate 3
              (refine wpOrd_step (o := ?_) ?_ ?_; rotate_left 1; (simp only [zA1, zA2, zA3]; with_reducible rfl))
              (first
                   | (refine wpOrd_skip (by rfl) ?_)
                   | (refine wpOrd_take (v := ?_) (by rfl) ?_ ?_; rotate_left 1; (intro wx hSx; go_simp; try with_reducible rfl)))
              (try simp only [Act.put, zA4, zA5, zA6])
             (refine wpOrd_solo (o := ?_) ?_ ?_; rotate_left 1; (simp only [zA1, zA2, zA3]; with_reducible rfl))
             intro K hK
             go_simp
             go_at_call 155
             refine (HIN.out _ (PO.out _ HS.out).ints).mono ?_
             rintro e w' ⟨rfl, rfl⟩
             refine hK.out _ _ HS.out ?_
             clear hK K
             (try simp only [Act.put, zA4, zA5, zA6])
             rw [HMEM.out]
             iterate 2
              (refine wpOrd_step (o := ?_) ?_ ?_; rotate_left 1; (simp only [zA1, zA2, zA3]; with_reducible rfl))
              (first
                   | (refine wpOrd_skip (by rfl) ?_)
                   | (refine wpOrd_take (v := ?_) (by rfl) ?_ ?_; rotate_left 1; (intro wx hSx; go_simp; try with_reducible rfl)))
              (try simp only [Act.put, zA4, zA5, zA6])
             refine wpOrd_done ?_
             have rr3 := p1 _ HS.out
             have HO3 := PO.out _ HS.out
             have HB3 := Lib.hid (PB.out _ HS.out)
             have hown' : w3.ownsRow w.heap.size 3 1 (.slice (some ⟨b, off, none⟩) m c) m (cells (ei o)) := by
              have h4 := HO3
              unfold OwnI at h4
              rw [ei_length, ← HM.out] at h4
              exact h4
             have hbs := HB3.out.size
             have HNB := Lib.hid (own_block hown' rr3 (by decide))
             clear p1 c1 PO PB keepS HS HO3
             go_wp2_with (at_builtin; refine wpList_more _ rfl _ _ 111 rfl 3 (.int .i64 0) 1 8 Tryz.underlying111 infoInt rfl (by decide) (by decide) w.heap.size (some ⟨b, off, none⟩) m c (cells (ei o)) rfl (hown'.alloc _) w3.heap.size 1 1 [.int .i64 (j : Int)] rfl rfl (by decide) (one_new _ _ _) ?c1 ?c2 ?c3 ?_; (case c1 => simp [Value.oneCell']); (case c2 => omega); (case c3 => simp; omega); intro A2 c2 w4 hown2 hb4 hgr; have HGR := Lib.hid hgr; clear hgr)
             have rr4 := RelAt.grown (rr3.alloc (.cells #[.int .i64 (j : Int)] 3)) HGR.out HNB.out
             have HB4 := Lib.hid ((HB3.out.alloc hbs (.cells #[.int .i64 (j : Int)] 3)).trans hb4)
             have HM4 : Hid (m + 1 = (o ++ [j]).length) := by rw [List.length_append, ← HM.out]; exact rfl
             have HO4 : Hid (OwnI w4 w.heap.size A2 c2 (ei (o ++ [j]))) := by
              show OwnI w4 w.heap.size A2 c2 (ei (o ++ [j]))
              unfold OwnI
              rw [ei_snoc, cells_snoc, List.length_append, ei_length, ← HM.out]
              exact hown2
             have hm4 : m + 1 ≤ 64 := by have := HN.out.len; rw [← HM4.out] at this; omega
             clear hown2 hb4 hown' hbs rr3 HB3
             go_wp2_with fail
             go_roundw
             case rel => exact ⟨o ++ [j], j + 1, m + 1, c2, A2, by omega, by omega, hm4, rfl, by go_num, HM4, HN, HO4, rr4, HB4⟩
             case measure => simp [intOf]; omega
        ·have e : j = p := by omega
         subst e
         have HRN := Lib.hid HRC.out.next
         go_wp2_with fail
         go_roundw
         case rel => exact ⟨o, a + 1, m, c, A, by omega, hm, rfl, by go_num, HM, HRN, HO2, rr2, HB2⟩
         case measure => simp [intOf]; omega
  ·have e : a = m := by omega
   subst e
   have hf := HR.out o A c wr (by rw [← HM.out]; exact HRC.out) HO.out HB.out
   rw [← HM.out] at hf
   have HF := Lib.hid hf; clear hf
   go_wp2_with fail
   go_ret
   exact HF.out
theorem qreach_any (n : Int) (l : List Nat) (hl : RW l) (i : Int) (w : World) :
 Calls Tryz.prog 151 #[.agg (rv n l), .int .i64 i] w (Reached n l i w) := by
 cases h : isPt n i with
 | false => exact qreach_no n l hl i h w
 | true =>
   obtain ⟨h0, h1⟩ := isPt_iff.1 h
   obtain ⟨a, rfl⟩ := Int.eq_ofNat_of_zero_le h0
   exact qreach_in n l hl a (by omega) w
end Go.Proofs.YtkgonoejnochjaaGreatDoor
namespace Go.Proofs.YtkgonoejnochjaaGreatDoor
open Go.RowKit RM
section
variable {w w' : World} {g : Nat} {lo hi : Int}
end
end Go.Proofs.YtkgonoejnochjaaGreatDoor
namespace Go.Proofs.YtkgonoejnochjaaGreatDoor
open Go.RowKit RM
end Go.Proofs.YtkgonoejnochjaaGreatDoor

