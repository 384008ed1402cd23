/- Texts that SpellElemCard, SpellNodeCard need. Conditions: those that each states. -/
import Derived.Test.YtkgonoejnochjaaGreatDoorRows
import Derived.Test.YtkgonoejnochjaaGreatDoorY12
import Derived.Test.YtkgonoejnochjaaGreatDoorY35
set_option linter.unusedSimpArgs false
set_option linter.unusedVariables false
set_option maxRecDepth 8000
namespace Go.Proofs.YtkgonoejnochjaaGreatDoor
open Go.RowKit
section
variable {w w' : World} {B B' n size c : Nat} {A : Option Addr} {cs : List Value}
end
section
variable {w w' : World} {g : Nat} {t : TypeId} {v : Value}
end
end Go.Proofs.YtkgonoejnochjaaGreatDoor
namespace Go.Proofs.YtkgonoejnochjaaGreatDoor
namespace MM
theorem half_half (s i : Nat) : s / 2 ^ i / 2 = s / 2 ^ (i + 1) := by rw [Nat.div_div_eq_div_mul, Nat.pow_succ]
theorem hasN_out (s : Nat) (i : Int) (h : i < 0 ∨ 64 ≤ i) : hasN s i = false := by
 unfold hasN
 simp only [Bool.and_eq_false_iff, decide_eq_false_iff_not]
 left; omega
theorem ofN_els {s : Nat} (hs : s < 2 ^ 64) : ofN ((els s).map Int.ofNat) = s := by
 refine ext64 (ofN_lt _) hs fun i hi => ?_
 rw [ofN_bit, Bool.eq_iff_iff]
 simp only [hi, decide_true, Bool.true_and, List.contains_iff_mem, List.mem_map, Int.ofNat_eq_natCast, Int.natCast_inj, exists_eq_right, mem_els, true_and]
end MM
end Go.Proofs.YtkgonoejnochjaaGreatDoor
namespace Go.Proofs.YtkgonoejnochjaaGreatDoor
open Go.RowKit
end Go.Proofs.YtkgonoejnochjaaGreatDoor
namespace Go.Proofs.YtkgonoejnochjaaGreatDoor
open Go.RowKit
theorem halves (s k q : Nat) (h : q = s / 2 ^ k) : q / 2 = s / 2 ^ (k + 1) := by rw [h, MM.half_half]
set_option maxHeartbeats 400000 in
theorem refHas_any (s : Nat) (hs : s < 18446744073709551616) (i : Int) (w : World) :
 Calls Tryz.prog 65 #[.int .u64 s, .int .i64 i] w fun e w' => e = .returned (.bool (MM.hasN s i)) ∧ w = w' := by
 by_cases h0 : i < 0
 ·rw [MM.hasN_out s i (.inl h0)]
  go_enter Tryz.func65, Tryz.ntmps65
  go_wp2
  go_ret
  exact ⟨rfl, rfl⟩
 ·by_cases h1 : 64 ≤ i
  ·rw [MM.hasN_out s i (.inr h1)]
   go_enter Tryz.func65, Tryz.ntmps65
   go_wp2
   go_ret
   exact ⟨rfl, rfl⟩
  ·obtain ⟨n, rfl⟩ := Int.eq_ofNat_of_zero_le (show 0 ≤ i by omega)
   rw [MM.hasN_in s n (by omega)]
   have hn : n ≤ 63 := by omega
   have hn0 : ¬ (63 < (n : Int)) := by omega
   clear h0 h1
   go_enter Tryz.func65, Tryz.ntmps65
   go_wp2
   go_loop [0, 5] (fun sv kv => ∃ k q : Nat, k ≤ n ∧ kv = .int .i64 k ∧ sv = .int .u64 q ∧ q < 18446744073709551616 ∧ Hid (q = s / 2 ^ k)) (fun _ kv => n - (intOf kv).toNat)
   case atStart => exact ⟨0, s, by omega, rfl, rfl, hs, by show s = s / 2 ^ 0; simp⟩
   case round =>
        obtain ⟨k, q, hk, rfl, rfl, hq, HQ⟩ := hrel
        by_cases hlt : k < n
        ·go_wp2
         go_round
         case rel => exact ⟨k + 1, q / 2, by omega, by go_num, by go_num, by omega, halves s k q HQ.out⟩
         case measure => simp [intOf]; omega
        ·have e : k = n := by omega
         have hb : ((q : Int) % 2 == 1) = s.testBit n := by
          have := HQ.out
          rw [e] at this
          have h2 := MM.half_bit s n
          rw [← this] at h2
          cases hbb : s.testBit n with
          | true => rw [hbb] at h2; have := h2.2 rfl; simp; omega
          | false => rw [hbb] at h2; simp at h2; simp; omega
         go_wp2
         go_ret
         exact ⟨rfl, rfl⟩
end Go.Proofs.YtkgonoejnochjaaGreatDoor
namespace Go.Proofs.YtkgonoejnochjaaGreatDoor
open Go.RowKit
end Go.Proofs.YtkgonoejnochjaaGreatDoor
namespace Go.Proofs.YtkgonoejnochjaaGreatDoor
open Go.RowKit
set_option maxHeartbeats 800000 in
theorem refBelow_any (m : Int) (w : World) :
 Calls Tryz.prog 101 #[.int .i64 m] w fun e w' => e = .returned (.int .u64 (MM.belowN m : Int)) ∧ Below w.heap.size w w' := by
 obtain ⟨n, hn64, hnm⟩ : ∃ n : Nat, n ≤ 64 ∧ ∀ i : Nat, i < 64 → (i < n ↔ (i : Int) < m) :=
  ⟨min 64 m.toNat, by omega, fun i hi => by omega⟩
 have hval : MM.ofN (ei (List.range n)) = MM.belowN m := by
  refine MM.ext64 (MM.ofN_lt _) (MM.ofP_lt _ _) fun i hi => ?_
  rw [MM.ofN_bit, MM.belowN, MM.ofP_bit, Bool.eq_iff_iff]
  have h := hnm i hi
  simp only [hi, decide_true, Bool.true_and, List.contains_iff_mem, ei, List.mem_map, List.mem_range, Int.ofNat_eq_natCast, Int.natCast_inj, exists_eq_right, decide_eq_true_eq]
  exact h
 have HV := Lib.hid hval; clear hval
 have HM := Lib.hid hnm; clear hnm
 go_enter Tryz.func101, Tryz.ntmps101
 go_wp2
 go_loopw [3, 4] (fun v iv wr => ∃ (i : Nat) (A : Option Addr) (c : Nat), i ≤ n ∧ iv = .int .i64 i ∧ v = .slice A i c ∧ wr.ownsRow w.heap.size 3 1 (.slice A i c) i (cells (ei (List.range i))) ∧ Below w.heap.size w wr) (fun _ iv _ => n - (intOf iv).toNat)
 case atStart => exact ⟨0, none, 0, by omega, rfl, rfl, World.ownsRow_nil _ _ _ _, Below.refl _ _⟩
 case round =>
  obtain ⟨i, A, c, hi, rfl, rfl, hown, hb⟩ := hrel
  have hbs := hb.size
  by_cases hlt : i < n
  ·have hlm : (i : Int) < m := (HM.out i (by omega)).1 hlt
   have hl64 : (i : Int) < 64 := by omega
   go_wp2_with (at_builtin; refine wpList_more _ rfl _ _ 111 rfl 3 (.int .i64 0) 1 8 Tryz.underlying111 infoInt rfl (by decide) (by decide) w.heap.size A i c (cells (ei (List.range i))) rfl (hown.alloc _) wr.heap.size 1 1 [.int .i64 i] rfl rfl (by decide) (one_new _ _ _) ?c1 ?c2 ?c3 ?_; (case c1 => simp [Value.oneCell']); (case c2 => omega); (case c3 => simp; omega); intro A2 c2 w2 hown2 hb2 _)
   go_roundw
   case rel =>
        refine ⟨i + 1, A2, c2, by omega, by go_num, by rfl, ?_, (hb.alloc hbs _).trans hb2⟩
        rw [List.range_succ, ei_snoc, cells_snoc]
        exact hown2
   case measure => simp [intOf]; omega
  ·have e : i = n := by omega
   subst e
   have hI : Ints wr A (ei (List.range i)) := Sl.of_own hown
   have hlen : (ei (List.range i)).length = i := by simp [ei]
   have hcall := refOf_any A c (ei (List.range i)) wr (by omega) hI
   rw [hlen, HV.out] at hcall
   have HC := Lib.hid hcall; clear hcall hlen hI
   by_cases hlm : (i : Int) < m
   ·have h64 : ¬ ((i : Int) < 64) := fun h => by have := (HM.out i (by omega)).2 hlm; omega
    go_wp2_with (go_at_call 98; refine HC.out.mono ?_; rintro e w' ⟨rfl, rfl⟩)
    go_ret
    exact ⟨rfl, hb⟩
   ·go_wp2_with (go_at_call 98; refine HC.out.mono ?_; rintro e w' ⟨rfl, rfl⟩)
    go_ret
    exact ⟨rfl, hb⟩
end Go.Proofs.YtkgonoejnochjaaGreatDoor
namespace Go.Proofs.YtkgonoejnochjaaGreatDoor
open Go.RowKit
end Go.Proofs.YtkgonoejnochjaaGreatDoor
namespace Go.Proofs.YtkgonoejnochjaaGreatDoor
open Go.RowKit RM
open Go.Sort hiding Below ahead
end Go.Proofs.YtkgonoejnochjaaGreatDoor
namespace Go.Proofs.YtkgonoejnochjaaGreatDoor
open Go.RowKit RM
end Go.Proofs.YtkgonoejnochjaaGreatDoor
namespace Go.Proofs.YtkgonoejnochjaaGreatDoor
open Go.RowKit RM
end Go.Proofs.YtkgonoejnochjaaGreatDoor
namespace Go.Proofs.YtkgonoejnochjaaGreatDoor
open Go.RowKit RM
end Go.Proofs.YtkgonoejnochjaaGreatDoor
namespace Go.Proofs.YtkgonoejnochjaaGreatDoor
open Go.RowKit RM
end Go.Proofs.YtkgonoejnochjaaGreatDoor
namespace Go.Proofs.YtkgonoejnochjaaGreatDoor
open Go.RowKit RM
section
variable {p : Nat} {R : Nat → Nat → Bool} {i a j : Nat} {o : List Nat}
end
end Go.Proofs.YtkgonoejnochjaaGreatDoor
namespace Go.Proofs.YtkgonoejnochjaaGreatDoor
open Go.RowKit RM
section
variable {w w' : World} {g : Nat} {lo hi : Int}
end
end Go.Proofs.YtkgonoejnochjaaGreatDoor
namespace Go.Proofs.YtkgonoejnochjaaGreatDoor
open Go.RowKit RM
theorem elsTo_yes {s k : Nat} (h : s.testBit k = true) : MM.elsTo s (k + 1) = MM.elsTo s k ++ [k] := by rw [MM.elsTo_succ, if_pos h]
theorem elsTo_no {s k : Nat} (h : s.testBit k = false) : MM.elsTo s (k + 1) = MM.elsTo s k := by rw [MM.elsTo_succ, h]; simp
theorem elsTo_skip {s a : Nat} : ∀ (d : Nat), (∀ t, a ≤ t → t < a + d → s.testBit t = false) → MM.elsTo s (a + d) = MM.elsTo s a
 | 0, _ => rfl
 | d + 1, h => by
   rw [← Nat.add_assoc, elsTo_no (h (a + d) (by omega) (by omega))]
   exact elsTo_skip d fun t h1 h2 => h t h1 (by omega)
theorem elsTo_all {s k : Nat} (hk : k ≤ 64) (h : ∀ t, k ≤ t → t < 64 → s.testBit t = false) : MM.elsTo s k = MM.els s := by
 have := elsTo_skip (s := s) (a := k) (64 - k) (fun t h1 h2 => h t h1 (by omega))
 rw [show k + (64 - k) = 64 by omega] at this
 rw [← this]; rfl
theorem elsTo_le64 (s k : Nat) (hk : k ≤ 64) : (MM.elsTo s k).length ≤ 64 := Nat.le_trans (MM.elsTo_length s k) hk
theorem ofN_ei {s : Nat} (hs : s < 18446744073709551616) : MM.ofN (ei (MM.els s)) = s := MM.ofN_els hs
end Go.Proofs.YtkgonoejnochjaaGreatDoor
namespace Go.Proofs.YtkgonoejnochjaaGreatDoor.RG
end Go.Proofs.YtkgonoejnochjaaGreatDoor.RG
namespace Go.Proofs.YtkgonoejnochjaaGreatDoor
open Go.RowKit
theorem refWord_any (n k : Int) (w : World) :
 Calls Tryz.prog 55 #[.int .i64 n, .int .i64 k] w fun e w' => e = .returned (.tuple #[.int .u64 (RG.wR n k : Int), .bool (RG.okR n k)]) ∧ Below w.heap.size w w' := by
 cases hb : RG.okR n k with
 | true =>
   rw [RG.wR_in hb]
   obtain ⟨h1, h2, h3⟩ := RG.ok_iff.1 hb
   have h4 : 1 ≤ n := by omega
   clear hb
   go_enter Tryz.func55, Tryz.ntmps55
   go_wp2_with (go_at_call 101; refine (refBelow_any _ _).mono ?_; rintro e w' ⟨rfl, HB⟩; have HB := Lib.hid HB)
   go_ret2
   exact ⟨rfl, HB.out⟩
 | false =>
   rw [RG.wR_out hb]
   have h := RG.no_iff.1 hb
   clear hb
   by_cases h0 : n < 1
   ·clear h
    go_enter Tryz.func55, Tryz.ntmps55
    go_wp2
    go_ret2
    exact ⟨rfl, Below.refl _ _⟩
   ·by_cases h1 : n > 64
    ·clear h
     go_enter Tryz.func55, Tryz.ntmps55
     go_wp2
     go_ret2
     exact ⟨rfl, Below.refl _ _⟩
    ·by_cases h2 : k < 0
     ·clear h
      go_enter Tryz.func55, Tryz.ntmps55
      go_wp2
      go_ret2
      exact ⟨rfl, Below.refl _ _⟩
     ·have h3 : n ≤ k := by omega
      clear h
      go_enter Tryz.func55, Tryz.ntmps55
      go_wp2
      go_ret2
      exact ⟨rfl, Below.refl _ _⟩
end Go.Proofs.YtkgonoejnochjaaGreatDoor
namespace Go.Proofs.YtkgonoejnochjaaGreatDoor
open Go.RowKit RM
section
variable {a b c : Nat}
end
section
variable {t : Bool} {fs : List Fac} {a b c : List Nat}
end
section
variable {t : Bool} {fs : List Fac} {a b : List Nat}
end
end Go.Proofs.YtkgonoejnochjaaGreatDoor
namespace Go.Proofs.YtkgonoejnochjaaGreatDoor
open Go.RowKit RM
section
variable {w w' : World} {A : Option Addr} {fs : List Fac}
end
section
variable {ops : Array Oper} {rest : List Oper} {o : Oper} {a : Act} {w : World} {Q : Exit → Act → World → Prop}
end
section
variable {o : Oper} {a : Act} {S : World → Prop}
theorem take_loadFacIn (x : Operand) (ho : o.op = .load 51 x) (b k : Nat) (hx : a.eval x = .pointer (some ⟨b, k, none⟩)) (f : Fac) (hl : RW f.l) (hS : ∀ w, S w → w.rangeAt b k (fcells f)) :
 ∀ w, S w → (execOp a.eval o).run Tryz.prog w = .ok (.value (.agg (fv f))) w := by
 intro w h
 unfold execOp
 simp only [ho, hx, Sem.run_bind, Sem.run_pure, Result.andThen_ok, run_loadAt_mid w b k _ _ _ (hS w h) Tryz.underlying51 rfl (by rw [fcells_length f hl]; kernel_rfl)]
 rfl
end
end Go.Proofs.YtkgonoejnochjaaGreatDoor
namespace Go.Proofs.YtkgonoejnochjaaGreatDoor
open Go.RowKit RM
end Go.Proofs.YtkgonoejnochjaaGreatDoor
namespace Go.Proofs.YtkgonoejnochjaaGreatDoor
open Go.RowKit RM
end Go.Proofs.YtkgonoejnochjaaGreatDoor
namespace Go.Proofs.YtkgonoejnochjaaGreatDoor
open Go.RowKit RM
end Go.Proofs.YtkgonoejnochjaaGreatDoor
namespace Go.Proofs.YtkgonoejnochjaaGreatDoor
open Go.RowKit RM
end Go.Proofs.YtkgonoejnochjaaGreatDoor
namespace Go.Proofs.YtkgonoejnochjaaGreatDoor
open Go.RowKit RM
end Go.Proofs.YtkgonoejnochjaaGreatDoor
namespace Go.Proofs.YtkgonoejnochjaaGreatDoor
open Go.RowKit RM
end Go.Proofs.YtkgonoejnochjaaGreatDoor
namespace Go.Proofs.YtkgonoejnochjaaGreatDoor
open Go.RowKit RM
theorem qout_any (p : Nat) (l : List Nat) (hp : p ≤ 8) (v : Nat) (hv : v < 18446744073709551616) (o x : Nat) (ho : o < p) (hx : x < p) (w : World) :
 Calls Tryz.prog 111 #[.agg (rv (p : Int) l), .int .u64 (v : Int), .int .i64 (o : Int), .int .i64 (x : Int)] w fun e w' => e = .returned (.bool (ob v o x)) ∧ Below w.heap.size w w' := by
 have hr1 := RelAt.new w (p : Int) l
 have hc0 := hr1.cell0
 have hb : Below w.heap.size w (w.alloc (.cells (rv (p : Int) l) 49)) := (Below.refl _ _).alloc (Nat.le_refl _) _
 have HB := Lib.hid hb; clear hb
 have h0 : (0 : Int) ≤ (o : Int) := by omega
 have h1 : (0 : Int) ≤ (x : Int) := by omega
 have h2 : (o : Int) < (p : Int) := by omega
 have h3 : (x : Int) < (p : Int) := by omega
 have hh : MM.hasN v (8 * (o : Int) + (x : Int)) = ob v o x := by
  have := MM.hasN_in v (8 * o + x) (by omega)
  rw [show (8 * (o : Int) + (x : Int)) = ((8 * o + x : Nat) : Int) by omega, this]; rfl
 rw [← hh]
 have hw1 : IntKind.i64.wrap (8 * (o : Int)) = 8 * (o : Int) := IntWalk.i64_in _ ⟨by omega, by omega⟩
 have hw2 : IntKind.i64.wrap (8 * (o : Int) + (x : Int)) = 8 * (o : Int) + (x : Int) := IntWalk.i64_in _ ⟨by omega, by omega⟩
 clear hh
 go_enter Tryz.func111, Tryz.ntmps111
 go_wp2_with (go_at_call 65; refine (refHas_any v hv _ _).mono ?_; rintro e w' ⟨rfl, rfl⟩)
 go_ret
 exact ⟨rfl, HB.out⟩
theorem hasR_bt {p : Nat} {l : List Nat} (hpp : pts (p : Int) = p) {a b : Nat} (ha : a < p) (hb : b < p) : hasR (p : Int) l (a : Int) (b : Int) = bt l a b := by
 rw [hasR_in (by rw [hpp]; exact ha) (by rw [hpp]; exact hb)]; rfl
theorem clP_yes {p : Nat} {S W : Nat → Nat → Bool} {o x q y : Nat} (hq : q < p) (hy : y < p) (h1 : W q y = true) (h2 : S o q = true) (h3 : S x y = true) : clP p S W o x = true := clP_iff.2 ⟨q, y, hq, hy, h1, h2, h3⟩
theorem clP_no {p : Nat} {S W : Nat → Nat → Bool} {o x : Nat} (h : ∀ q, q < p → ∀ y, y < p → (W q y && S o q && S x y) = false) : clP p S W o x = false := by
 rw [Bool.eq_false_iff]
 intro h1
 obtain ⟨q, y, hq, hy, h2, h3, h4⟩ := clP_iff.1 h1
 have := h q hq y hy
 rw [h2, h3, h4] at this
 cases this
set_option maxHeartbeats 1000000 in
theorem qfollows_any (p : Nat) (l : List Nat) (hl : RW l) (hp : p ≤ 8) (hpp : pts (p : Int) = p) (v : Nat) (hv : v < 18446744073709551616) (o x : Nat) (ho : o < p) (hx : x < p) (w : World) :
 Calls Tryz.prog 136 #[.agg (rv (p : Int) l), .int .u64 (v : Int), .int .i64 (o : Int), .int .i64 (x : Int)] w fun e w' => e = .returned (.bool (clP p (bt l) (ob v) o x)) ∧ Below w.heap.size w w' := by
 have hr1 := RelAt.new w (p : Int) l
 have hb : Below w.heap.size w (w.alloc (.cells (rv (p : Int) l) 49)) := (Below.refl _ _).alloc (Nat.le_refl _) _
 have HB0 := Lib.hid hb; clear hb
 have HOUT : Hid (∀ q y : Nat, q < p → y < p → ∀ w, Calls Tryz.prog 111 #[.agg (rv (p : Int) l), .int .u64 (v : Int), .int .i64 (q : Int), .int .i64 (y : Int)] w fun e w' => e = .returned (.bool (ob v q y)) ∧ Below w.heap.size w w') := fun q y h1 h2 w => qout_any p l hp v hv q y h1 h2 w
 have HHAS : Hid (∀ a b : Nat, a < p → b < p → ∀ w, Calls Tryz.prog 100 #[.agg (rv (p : Int) l), .int .i64 (a : Int), .int .i64 (b : Int)] w fun e w' => e = .returned (.bool (bt l a b)) ∧ Below w.heap.size w w') := fun a b h1 h2 w => by
  have h := qhas_any (p : Int) l hl (a : Int) (b : Int) w
  rw [hasR_bt hpp h1 h2] at h; exact h
 have HY : Hid (∀ q y : Nat, q < p → y < p → ob v q y = true → bt l o q = true → bt l x y = true → clP p (bt l) (ob v) o x = true) := fun q y h1 h2 h3 h4 h5 => clP_yes h1 h2 h3 h4 h5
 have HN : Hid ((∀ q, q < p → ∀ y, y < p → (ob v q y && bt l o q && bt l x y) = false) → clP p (bt l) (ob v) o x = false) := clP_no
 generalize clP p (bt l) (ob v) o x = res at *
 go_enter Tryz.func136, Tryz.ntmps136
 go_wp2_with fail
 go_loopw [9, 10] (fun kv _ wr => ∃ k : Nat, k ≤ p ∧ kv = .int .i64 k ∧ RelAt wr w.heap.size (p : Int) l ∧ Hid (Below w.heap.size w wr) ∧ Hid (∀ q, q < k → ∀ y, y < p → (ob v q y && bt l o q && bt l x y) = false)) (fun kv _ _ => p - (intOf kv).toNat)
 case atStart => exact ⟨0, by omega, rfl, hr1, HB0, fun q hq => by omega⟩
 case round =>
  clear hr1 HB0
  obtain ⟨k, hk, rfl, rr, HB, HM⟩ := hrel
  have hc0 := rr.cell0
  by_cases hlt : k < p
  ·go_wp2_with fail
   clear hc0
   obtain ⟨wo, rfl⟩ : ∃ wo : World, wo = wr := ⟨_, rfl⟩
   go_loopw [10] (fun jv wr => ∃ j : Nat, j ≤ p ∧ jv = .int .i64 j ∧ RelAt wr w.heap.size (p : Int) l ∧ Hid (Below w.heap.size w wr) ∧ Hid (∀ y, y < j → (ob v k y && bt l o k && bt l x y) = false)) (fun jv _ => p - (intOf jv).toNat)
   case atStart => exact ⟨0, by omega, rfl, rr, HB, fun y hy => by omega⟩
   case round =>
        clear rr HB
        obtain ⟨j, hj, rfl, rr, HB, HJ⟩ := hrel
        have hc0 := rr.cell0
        by_cases hlt2 : j < p
        ·have HYY := Lib.hid (HY.out k j hlt hlt2)
         have HJ2 : Hid ((ob v k j && bt l o k && bt l x j) = false → ∀ y, y < j + 1 → (ob v k y && bt l o k && bt l x y) = false) := fun h y hy => by
          rcases Nat.lt_or_ge y j with h2 | h2
          ·exact HJ.out y h2
          ·have : y = j := by omega
           subst this; exact h
         have HO1 := Lib.hid (HOUT.out k j hlt hlt2)
         have HO2 := Lib.hid (HHAS.out o k ho hlt)
         have HO3 := Lib.hid (HHAS.out x j hx hlt2)
         generalize ob v k j = b1 at *
         generalize bt l o k = b2 at *
         generalize bt l x j = b3 at *
         go_wp2_with (refine wpList_loadRel rfl _ rfl w.heap.size rfl _ l hl rr ?_)
         refine (HO1.out _).mono ?_
         rintro e w2 ⟨rfl, hb2⟩
         have r2 := rr.below hb2 rr.lt
         have HB2 := Lib.hid (HB.out.trans (hb2.mono HB.out.size)); clear hb2 rr HB hc0
         cases b1 with
         | false =>
           have HJ3 := Lib.hid (HJ2.out rfl)
           go_wp2_with fail
           go_roundw
           case rel => exact ⟨j + 1, by omega, by go_num, r2, HB2, HJ3⟩
           case measure => simp [intOf]; omega
         | true =>
           go_wp2_with (refine wpList_loadRel rfl _ rfl w.heap.size rfl _ l hl r2 ?_)
           refine (HO2.out _).mono ?_
           rintro e w3 ⟨rfl, hb3⟩
           have r3 := r2.below hb3 r2.lt
           have HB3 := Lib.hid (HB2.out.trans (hb3.mono HB2.out.size)); clear hb3 r2 HB2
           cases b2 with
           | false =>
             have HJ3 := Lib.hid (HJ2.out rfl)
             go_wp2_with fail
             go_roundw
             case rel => exact ⟨j + 1, by omega, by go_num, r3, HB3, HJ3⟩
             case measure => simp [intOf]; omega
           | true =>
             go_wp2_with (refine wpList_loadRel rfl _ rfl w.heap.size rfl _ l hl r3 ?_)
             refine (HO3.out _).mono ?_
             rintro e w4 ⟨rfl, hb4⟩
             have r4 := r3.below hb4 r3.lt
             have HB4 := Lib.hid (HB3.out.trans (hb4.mono HB3.out.size)); clear hb4 r3 HB3
             cases b3 with
             | false =>
               have HJ3 := Lib.hid (HJ2.out rfl)
               go_wp2_with fail
               go_roundw
               case rel => exact ⟨j + 1, by omega, by go_num, r4, HB4, HJ3⟩
               case measure => simp [intOf]; omega
             | true =>
               have hres := HYY.out (by simp) (by simp) (by simp)
               subst hres
               go_wp2_with fail
               go_ret
               exact ⟨rfl, HB4.out⟩
        ·have e : j = p := by omega
         subst e
         have HM2 : Hid (∀ q, q < k + 1 → ∀ y, y < j → (ob v q y && bt l o q && bt l x y) = false) := fun q hq => by
          rcases Nat.lt_or_ge q k with h2 | h2
          ·exact HM.out q h2
          ·have : q = k := by omega
           subst this; exact HJ.out
         go_wp2_with fail
         go_roundw
         case rel => exact ⟨k + 1, by omega, by go_num, rr, HB, HM2⟩
         case measure => simp [intOf]; omega
  ·have e : k = p := by omega
   subst e
   have hres := HN.out HM.out
   subst hres
   go_wp2_with fail
   go_ret
   exact ⟨rfl, HB.out⟩
end Go.Proofs.YtkgonoejnochjaaGreatDoor
namespace Go.Proofs.YtkgonoejnochjaaGreatDoor
open Go.RowKit RM
theorem mkW_at {p : Nat} {P : Nat → Nat → Bool} (hp : p ≤ 8) {o x : Nat} (ho : o < p) (hx : x < p) : (mkW p P).testBit (8 * o + x) = P o x := ob_in hp ho hx
theorem mkW_off {p : Nat} {P : Nat → Nat → Bool} {t : Nat} (h : p ≤ t / 8 ∨ p ≤ t % 8) : (mkW p P).testBit t = false := by
 unfold mkW
 rw [MM.ofP_bit]
 rcases h with h | h
 ·rw [show decide (t / 8 < p) = false by simp; omega]; simp
 ·rw [show decide (t % 8 < p) = false by simp; omega]; simp
theorem mkW_row {p : Nat} {P : Nat → Nat → Bool} (hp : p ≤ 8) {o : Nat} : MM.elsTo (mkW p P) (8 * o + p) = MM.elsTo (mkW p P) (8 * (o + 1)) := by
 have := elsTo_skip (s := mkW p P) (a := 8 * o + p) (8 - p) (fun t h1 h2 => mkW_off (.inr (by omega)))
 rw [show 8 * o + p + (8 - p) = 8 * (o + 1) by omega] at this
 exact this.symm
theorem mkW_all {p : Nat} {P : Nat → Nat → Bool} (hp : p ≤ 8) : MM.elsTo (mkW p P) (8 * p) = MM.els (mkW p P) := elsTo_all (by omega) fun t h1 _ => mkW_off (.inl (by omega))
set_option maxHeartbeats 2000000 in
theorem qclose_any (n : Int) (l : List Nat) (hl : RW l) (v : Nat) (hv : v < 18446744073709551616) (w : World) :
 Calls Tryz.prog 110 #[.agg (rv n l), .int .u64 (v : Int)] w fun e w' => e = .returned (.int .u64 ((gClose n l v : Nat) : Int)) ∧ Below w.heap.size w w' := by
 have hr1 := RelAt.new w n l
 have hb : Below w.heap.size w (w.alloc (.cells (rv n l) 49)) := (Below.refl _ _).alloc (Nat.le_refl _) _
 have HR : Hid (∀ w, Calls Tryz.prog 85 #[.agg (rv n l)] w fun e w' => e = .returned (.bool (rightB n l)) ∧ Below w.heap.size w w') := qright_any n l hl
 have HB := Lib.hid hb; clear hb
 cases hri : rightB n l with
 | false =>
   have hz : gClose n l v = 0 := by unfold gClose; rw [hri]; rfl
   rw [hz]
   rw [hri] at HR
   clear hri hz
   go_enter Tryz.func110, Tryz.ntmps110
   go_wp2_with (refine wpList_loadRel rfl _ rfl w.heap.size rfl n l hl hr1 ?_)
   refine (HR.out _).mono ?_
   rintro e w1 ⟨rfl, hb1⟩
   have HB1 := Lib.hid (HB.out.trans (hb1.mono HB.out.size)); clear hb1
   go_wp2_with fail
   go_ret
   exact ⟨rfl, HB1.out⟩
 | true =>
   obtain ⟨p, h1, hp, rfl, hpp, _⟩ := right_has hri
   have hz : gClose (p : Int) l v = clW p (bt l) v := by unfold gClose; rw [hri, hpp]; rfl
   rw [hz]
   rw [hri] at HR
   clear hri hz
   have HF : Hid (∀ o x : Nat, o < p → x < p → ∀ w, Calls Tryz.prog 136 #[.agg (rv (p : Int) l), .int .u64 (v : Int), .int .i64 (o : Int), .int .i64 (x : Int)] w fun e w' => e = .returned (.bool (clP p (bt l) (ob v) o x)) ∧ Below w.heap.size w w') := fun o x h1 h2 w => qfollows_any p l hl hp hpp v hv o x h1 h2 w
   have HSY : Hid (∀ o x : Nat, o < p → x < p → clP p (bt l) (ob v) o x = true → MM.elsTo (clW p (bt l) v) (8 * o + (x + 1)) = MM.elsTo (clW p (bt l) v) (8 * o + x) ++ [8 * o + x]) := fun o x h1 h2 h => elsTo_yes ((mkW_at hp h1 h2).trans h)
   have HSN : Hid (∀ o x : Nat, o < p → x < p → clP p (bt l) (ob v) o x = false → MM.elsTo (clW p (bt l) v) (8 * o + (x + 1)) = MM.elsTo (clW p (bt l) v) (8 * o + x)) := fun o x h1 h2 h => elsTo_no ((mkW_at hp h1 h2).trans h)
   have HSR : Hid (∀ o, MM.elsTo (clW p (bt l) v) (8 * o + p) = MM.elsTo (clW p (bt l) v) (8 * (o + 1))) := fun o => mkW_row hp
   have HSE : Hid (MM.elsTo (clW p (bt l) v) (8 * p) = MM.els (clW p (bt l) v)) := mkW_all hp
   have HOE : Hid (MM.ofN (ei (MM.els (clW p (bt l) v))) = clW p (bt l) v) := ofN_ei (clW_lt _ _ _)
   generalize clW p (bt l) v = s at *
   generalize clP p (bt l) (ob v) = P at *
   go_enter Tryz.func110, Tryz.ntmps110
   go_wp2_with (refine wpList_loadRel rfl _ rfl w.heap.size rfl (p : Int) l hl hr1 ?_)
   refine (HR.out _).mono ?_
   rintro e w1 ⟨rfl, hb1⟩
   have r1 := hr1.below hb1 hr1.lt
   have HB1 := Lib.hid (HB.out.trans (hb1.mono HB.out.size)); clear hb1 HB
   go_wp2_with fail
   go_loopw [5, 6, 7] (fun lv iv _ wr => ∃ (i k c : Nat) (A : Option Addr), i ≤ p ∧ iv = .int .i64 i ∧ lv = .slice A k c ∧ Hid (k = (MM.elsTo s (8 * i)).length) ∧ k ≤ 64 ∧ Hid (OwnI wr w.heap.size A c (ei (MM.elsTo s (8 * i)))) ∧ RelAt wr w.heap.size (p : Int) l ∧ Hid (Below w.heap.size w wr)) (fun _ iv _ _ => p - (intOf iv).toNat)
   case atStart => exact ⟨0, 0, 0, none, by omega, rfl, rfl, rfl, by omega, World.ownsRow_nil _ _ _ _, r1, HB1⟩
   case round =>
    clear r1 HB1
    obtain ⟨i, k, c, A, hi, rfl, rfl, HK, hk, HO, rr, HB⟩ := hrel
    have hc0 := rr.cell0
    by_cases hlt : i < p
    ·go_wp2_with fail
     clear hc0
     obtain ⟨wo, rfl⟩ : ∃ wo : World, wo = wr := ⟨_, rfl⟩
     go_loopw [5, 7] (fun lv jv wr => ∃ (j k c : Nat) (A : Option Addr), j ≤ p ∧ jv = .int .i64 j ∧ lv = .slice A k c ∧ Hid (k = (MM.elsTo s (8 * i + j)).length) ∧ k ≤ 64 ∧ Hid (OwnI wr w.heap.size A c (ei (MM.elsTo s (8 * i + j)))) ∧ RelAt wr w.heap.size (p : Int) l ∧ Hid (Below w.heap.size w wr)) (fun _ jv _ => p - (intOf jv).toNat)
     case atStart => exact ⟨0, k, c, A, by omega, rfl, rfl, HK, hk, HO, rr, HB⟩
     case round =>
      clear rr HB HK hk HO
      obtain ⟨j, k, c, A, hj, rfl, rfl, HK, hk, HO, rr, HB⟩ := hrel
      have hc0 := rr.cell0
      by_cases hlt2 : j < p
      ·go_wp2_with (refine wpList_loadRel rfl _ rfl w.heap.size rfl _ l hl rr ?_)
       refine (HF.out i j hlt hlt2 _).mono ?_
       rintro e w4 ⟨rfl, hb4⟩
       have s1 := rr.below hb4 rr.lt
       have HO4 : Hid (OwnI w4 w.heap.size A c (ei (MM.elsTo s (8 * i + j)))) := own_below HO.out hb4 (Nat.le_refl _)
       have HB4 := Lib.hid (HB.out.trans (hb4.mono HB.out.size))
       clear rr HO HB hb4 hc0
       cases hbt : P i j with
       | false =>
         have HP := Lib.hid (HSN.out i j hlt hlt2 hbt)
         clear hbt
         go_wp2_with fail
         go_roundw
         case rel => exact ⟨j + 1, k, c, A, by omega, by go_num, rfl, by rw [HP.out]; exact HK, hk, by rw [HP.out]; exact HO4, s1, HB4⟩
         case measure => simp [intOf]; omega
       | true =>
         have HP := Lib.hid (HSY.out i j hlt hlt2 hbt)
         have hlen := elsTo_le64 s (8 * i + (j + 1)) (by omega)
         have HEV : Hid (8 * (i : Int) + (j : Int) = ((8 * i + j : Nat) : Int)) := by show _ = _; omega
         have hw1 : IntKind.i64.wrap (8 * (i : Int)) = 8 * (i : Int) := IntWalk.i64_in _ ⟨by omega, by omega⟩
         have hw2 : IntKind.i64.wrap (8 * (i : Int) + (j : Int)) = 8 * (i : Int) + (j : Int) := IntWalk.i64_in _ ⟨by omega, by omega⟩
         clear hbt
         have hown' : w4.ownsRow w.heap.size 3 1 (.slice A k c) k (cells (ei (MM.elsTo s (8 * i + j)))) := by
          have h4 := HO4.out
          unfold OwnI at h4
          rw [ei_length, ← HK.out] at h4
          exact h4
         have hbs := HB4.out.size
         have N1 := Lib.hid (own_block hown' s1 (by decide))
         have HLEN := Lib.hid hlen; clear hlen HO4
         go_wp2_with (at_builtin; refine wpList_more _ rfl _ _ 111 rfl 3 (.int .i64 0) 1 8 Tryz.underlying111 infoInt rfl (by decide) (by decide) w.heap.size A k c (cells (ei (MM.elsTo s (8 * i + j)))) rfl (hown'.alloc _) w4.heap.size 1 1 [.int .i64 (8 * (i : Int) + (j : Int))] rfl rfl (by decide) (one_new _ _ _) ?c1 ?c2 ?c3 ?_; (case c1 => simp [Value.oneCell']); (case c2 => omega); (case c3 => simp; omega); intro A2 c2 w5 hown2 hb5 hgr; have HGR := Lib.hid hgr; clear hgr)
         have t1 := RelAt.grown (s1.alloc (.cells #[.int .i64 (8 * (i : Int) + (j : Int))] 3)) HGR.out N1.out
         have HB5 := Lib.hid ((HB4.out.alloc hbs (.cells #[.int .i64 (8 * (i : Int) + (j : Int))] 3)).trans hb5)
         have HK5 : Hid (k + 1 = (MM.elsTo s (8 * i + (j + 1))).length) := by rw [HP.out, List.length_append, ← HK.out]; exact rfl
         have hk5 : k + 1 ≤ 64 := by have := HLEN.out; rw [← HK5.out] at this; omega
         have HO5 : Hid (OwnI w5 w.heap.size A2 c2 (ei (MM.elsTo s (8 * i + (j + 1))))) := by
          show OwnI w5 w.heap.size A2 c2 (ei (MM.elsTo s (8 * i + (j + 1))))
          unfold OwnI
          rw [HP.out, ei_snoc, cells_snoc, List.length_append, ei_length, ← HK.out, ← HEV.out]
          exact hown2
         clear hown2 hb5 hown' hbs s1 HB4 N1 HLEN
         go_wp2_with fail
         go_roundw
         case rel => exact ⟨j + 1, k + 1, c2, A2, by omega, by go_num, rfl, HK5, hk5, HO5, t1, HB5⟩
         case measure => simp [intOf]; omega
      ·have e : j = p := by omega
       subst e
       have HRW := Lib.hid (HSR.out i)
       rw [HRW.out] at HK HO
       go_wp2_with fail
       go_roundw
       case rel => exact ⟨i + 1, k, c, A, by omega, by go_num, rfl, HK, hk, HO, rr, HB⟩
       case measure => simp [intOf]; omega
    ·have e : i = p := by omega
     subst e
     rw [HSE.out] at HK HO
     have hof := fun w h => refOf_any A c (ei (MM.els s)) w (by rw [ei_length, ← HK.out]; omega) h
     rw [ei_length, ← HK.out, HOE.out] at hof
     have HOFF := Lib.hid hof; clear hof
     have HI := Lib.hid HO.out.ints
     go_wp2_with (go_at_call 98; refine (HOFF.out _ HI.out).mono ?_; rintro e w' ⟨rfl, rfl⟩)
     go_ret
     exact ⟨rfl, HB.out⟩
end Go.Proofs.YtkgonoejnochjaaGreatDoor
namespace Go.Proofs.YtkgonoejnochjaaGreatDoor
open Go.RowKit RM
end Go.Proofs.YtkgonoejnochjaaGreatDoor
namespace Go.Proofs.YtkgonoejnochjaaGreatDoor
open Go.RowKit RM
end Go.Proofs.YtkgonoejnochjaaGreatDoor
namespace Go.Proofs.YtkgonoejnochjaaGreatDoor
open Go.RowKit RM
end Go.Proofs.YtkgonoejnochjaaGreatDoor
namespace Go.Proofs.YtkgonoejnochjaaGreatDoor
open Go.RowKit RM
set_option maxHeartbeats 1000000 in
theorem qword_any (n : Int) (l : List Nat) (hl : RW l) (i : Int) (w : World) :
 Calls Tryz.prog 54 #[.agg (rv n l), .int .i64 i] w fun e w' => e = .returned (.int .u64 ((wordN n l i : Nat) : Int)) ∧ Below w.heap.size w w' := by
 have hr1 := RelAt.new w n l
 have hb : Below w.heap.size w (w.alloc (.cells (rv n l) 49)) := (Below.refl _ _).alloc (Nat.le_refl _) _
 have HB := Lib.hid hb; clear hb
 have HPT : Hid (∀ w, Calls Tryz.prog 84 #[.agg (rv n l)] w fun e w' => e = .returned (.int .i64 ((pts n : Nat) : Int)) ∧ Below w.heap.size w w') := fun w => qpoints_any n l w
 have HHAS : Hid (∀ (k : Nat) w, Calls Tryz.prog 100 #[.agg (rv n l), .int .i64 (k : Int), .int .i64 i] w fun e w' => e = .returned (.bool (hasR n l k i)) ∧ Below w.heap.size w w') := fun k w => qhas_any n l hl k i w
 have hp := pts_le n
 have HSY : Hid (∀ k : Nat, k < pts n → hasR n l k i = true → MM.elsTo (wordN n l i) (k + 1) = MM.elsTo (wordN n l i) k ++ [k]) := fun k h1 h => elsTo_yes (by rw [wordN_bit, h]; simp [h1])
 have HSN : Hid (∀ k : Nat, k < pts n → hasR n l k i = false → MM.elsTo (wordN n l i) (k + 1) = MM.elsTo (wordN n l i) k) := fun k h1 h => elsTo_no (by rw [wordN_bit, h]; simp)
 have HSE : Hid (MM.elsTo (wordN n l i) (pts n) = MM.els (wordN n l i)) := elsTo_all hp fun t h1 _ => by rw [wordN_bit, show decide (t < pts n) = false by simp; omega]; rfl
 have HOE : Hid (MM.ofN (ei (MM.els (wordN n l i))) = wordN n l i) := ofN_ei (wordN_lt _ _ _)
 generalize wordN n l i = s at *
 generalize hasR n l = R at *
 generalize pts n = p at *
 go_enter Tryz.func54, Tryz.ntmps54
 go_wp2_with fail
 go_loopw [5, 6] (fun lv iv wr => ∃ (i k c : Nat) (A : Option Addr), i ≤ p ∧ iv = .int .i64 i ∧ lv = .slice A k c ∧ Hid (k = (MM.elsTo s i).length) ∧ k ≤ 64 ∧ Hid (OwnI wr w.heap.size A c (ei (MM.elsTo s i))) ∧ RelAt wr w.heap.size n l ∧ Hid (Below w.heap.size w wr)) (fun _ iv _ => p - (intOf iv).toNat)
 case atStart => exact ⟨0, 0, 0, none, by omega, rfl, rfl, rfl, by omega, World.ownsRow_nil _ _ _ _, hr1, HB⟩
 case round =>
  clear hr1 HB
  obtain ⟨j, k, c, A, hj, rfl, rfl, HK, hk, HO, rr, HB⟩ := hrel
  go_wp2_with (refine wpList_loadRel rfl _ rfl w.heap.size rfl _ l hl rr ?_)
  refine (HPT.out _).mono ?_
  rintro e w3 ⟨rfl, hb3⟩
  have s3 := rr.below hb3 rr.lt
  have HO3 : Hid (OwnI w3 w.heap.size A c (ei (MM.elsTo s j))) := own_below HO.out hb3 (Nat.le_refl _)
  have HB3 := Lib.hid (HB.out.trans (hb3.mono HB.out.size))
  clear rr HO HB hb3
  by_cases hlt : j < p
  ·go_wp2_with (refine wpList_loadRel rfl _ rfl w.heap.size rfl _ l hl s3 ?_)
   refine (HHAS.out j _).mono ?_
   rintro e w4 ⟨rfl, hb4⟩
   have s1 := s3.below hb4 s3.lt
   have HO4 : Hid (OwnI w4 w.heap.size A c (ei (MM.elsTo s j))) := own_below HO3.out hb4 (Nat.le_refl _)
   have HB4 := Lib.hid (HB3.out.trans (hb4.mono HB3.out.size))
   clear s3 HO3 HB3 hb4
   cases hbt : R (j : Int) i with
   | false =>
     have HP := Lib.hid (HSN.out j hlt hbt)
     clear hbt
     go_wp2_with fail
     go_roundw
     case rel => exact ⟨j + 1, k, c, A, by omega, by go_num, rfl, by rw [HP.out]; exact HK, hk, by rw [HP.out]; exact HO4, s1, HB4⟩
     case measure => simp [intOf]; omega
   | true =>
     have HP := Lib.hid (HSY.out j hlt hbt)
     have hlen := elsTo_le64 s (j + 1) (by omega)
     have HEV : Hid ((j : Int) = ((j : Nat) : Int)) := rfl
     clear hbt
     have hown' : w4.ownsRow w.heap.size 3 1 (.slice A k c) k (cells (ei (MM.elsTo s j))) := by
      have h4 := HO4.out
      unfold OwnI at h4
      rw [ei_length, ← HK.out] at h4
      exact h4
     have hbs := HB4.out.size
     have N1 := Lib.hid (own_block hown' s1 (by decide))
     have HLEN := Lib.hid hlen; clear hlen HO4
     go_wp2_with (at_builtin; refine wpList_more _ rfl _ _ 111 rfl 3 (.int .i64 0) 1 8 Tryz.underlying111 infoInt rfl (by decide) (by decide) w.heap.size A k c (cells (ei (MM.elsTo s j))) rfl (hown'.alloc _) w4.heap.size 1 1 [.int .i64 ((j : Int))] rfl rfl (by decide) (one_new _ _ _) ?c1 ?c2 ?c3 ?_; (case c1 => simp [Value.oneCell']); (case c2 => omega); (case c3 => simp; omega); intro A2 c2 w5 hown2 hb5 hgr; have HGR := Lib.hid hgr; clear hgr)
     have t1 := RelAt.grown (s1.alloc (.cells #[.int .i64 ((j : Int))] 3)) HGR.out N1.out
     have HB5 := Lib.hid ((HB4.out.alloc hbs (.cells #[.int .i64 ((j : Int))] 3)).trans hb5)
     have HK5 : Hid (k + 1 = (MM.elsTo s (j + 1)).length) := by rw [HP.out, List.length_append, ← HK.out]; exact rfl
     have hk5 : k + 1 ≤ 64 := by have := HLEN.out; rw [← HK5.out] at this; omega
     have HO5 : Hid (OwnI w5 w.heap.size A2 c2 (ei (MM.elsTo s (j + 1)))) := by
      show OwnI w5 w.heap.size A2 c2 (ei (MM.elsTo s (j + 1)))
      unfold OwnI
      rw [HP.out, ei_snoc, cells_snoc, List.length_append, ei_length, ← HK.out]
      exact hown2
     clear hown2 hb5 hown' hbs s1 HB4 N1 HLEN
     go_wp2_with fail
     go_roundw
     case rel => exact ⟨j + 1, k + 1, c2, A2, by omega, by go_num, rfl, HK5, hk5, HO5, t1, HB5⟩
     case measure => simp [intOf]; omega
  ·have e : j = p := by omega
   subst e
   rw [HSE.out] at HK HO3
   have hof := fun w h => refOf_any A c (ei (MM.els s)) w (by rw [ei_length, ← HK.out]; omega) h
   rw [ei_length, ← HK.out, HOE.out] at hof
   have HOFF := Lib.hid hof; clear hof
   have HI := Lib.hid HO3.out.ints
   go_wp2_with (go_at_call 98; refine (HOFF.out _ HI.out).mono ?_; rintro e w' ⟨rfl, rfl⟩)
   go_ret
   exact ⟨rfl, HB3.out⟩
end Go.Proofs.YtkgonoejnochjaaGreatDoor
namespace Go.Proofs.YtkgonoejnochjaaGreatDoor
open Go.RowKit RM
end Go.Proofs.YtkgonoejnochjaaGreatDoor
namespace Go.Proofs.YtkgonoejnochjaaGreatDoor
open Go.RowKit RM
end Go.Proofs.YtkgonoejnochjaaGreatDoor

