/- Texts that all the claims need. Conditions: those that each states. -/
import Derived.BigRegion
import Derived.Deep.CutRange
import Derived.Laws.AppendOwnNone
import Derived.Test.YtnfndapgcpdcpaaGreatDoorFa6
set_option linter.unusedSimpArgs false
set_option linter.unusedVariables false
set_option maxRecDepth 100000
set_option maxHeartbeats 40000000
namespace Go.Proofs.YtnfndapgcpdcpaaGreatDoor
section
open RM
def rightB (n : Int) (l : List Nat) : Bool := decide (1 ≤ n) && decide (n ≤ 8) && closedB n l
theorem right_no {n : Int} {l : List Nat} (h : n < 1 ∨ 8 < n ∨ closedB n l = false) : rightB n l = false := by
 unfold rightB
 rcases h with h | h | h
 ·rw [show decide (1 ≤ n) = false by simp; omega]; rfl
 ·rw [show decide (n ≤ 8) = false by simp; omega, Bool.and_false]; rfl
 ·rw [h, Bool.and_false]
theorem right_in {n : Int} {l : List Nat} (h1 : 1 ≤ n) (h2 : n ≤ 8) : rightB n l = closedB n l := by
 unfold rightB
 rw [show decide (1 ≤ n) = true by simpa using h1, show decide (n ≤ 8) = true by simpa using h2]; rfl
theorem right_has {n : Int} {l : List Nat} (h : rightB n l = true) : ∃ p : Nat, 1 ≤ p ∧ p ≤ 8 ∧ n = (p : Int) ∧ pts n = p ∧ closedB n l = true := by
 unfold rightB at h
 simp only [Bool.and_eq_true, decide_eq_true_eq] at h
 refine ⟨n.toNat, by omega, by omega, by omega, ?_, h.2⟩
 have := pts_in (n := n) (by omega) (by omega)
 omega
def mkW (p : Nat) (P : Nat → Nat → Bool) : Nat := MM.ofP (fun i => decide (i / 8 < p) && decide (i % 8 < p) && P (i / 8) (i % 8)) 64
def ob (w o x : Nat) : Bool := w.testBit (8 * o + x)
theorem mkW_lt (p : Nat) (P : Nat → Nat → Bool) : mkW p P < 18446744073709551616 := MM.ofP_lt _ _
theorem ob_mkW (p : Nat) (P : Nat → Nat → Bool) (o x : Nat) (ho : o < 8) (hx : x < 8) : ob (mkW p P) o x = (decide (o < p) && decide (x < p) && P o x) := by
 unfold ob mkW
 rw [MM.ofP_bit, show (8 * o + x) / 8 = o by omega, show (8 * o + x) % 8 = x by omega, show decide (8 * o + x < 64) = true by simp; omega, Bool.true_and]
theorem ob_ext {a b : Nat} (ha : a < 18446744073709551616) (hb : b < 18446744073709551616) (h : ∀ o x, o < 8 → x < 8 → ob a o x = ob b o x) : a = b :=
 MM.ext64 ha hb fun i hi => by
  have := h (i / 8) (i % 8) (by omega) (by omega)
  unfold ob at this
  rw [show 8 * (i / 8) + i % 8 = i by omega] at this
  exact this
theorem mkW_ext {p : Nat} {P Q : Nat → Nat → Bool} (h : ∀ o x, o < p → x < p → P o x = Q o x) : mkW p P = mkW p Q :=
 ob_ext (mkW_lt _ _) (mkW_lt _ _) fun o x ho hx => by
  rw [ob_mkW _ _ _ _ ho hx, ob_mkW _ _ _ _ ho hx]
  by_cases h1 : o < p
  ·by_cases h2 : x < p
   ·rw [h o x h1 h2]
   ·simp [h2]
  ·simp [h1]
def Tight (p a : Nat) : Prop := ∀ o x, o < 8 → x < 8 → ob a o x = true → o < p ∧ x < p
theorem Tight.mk (p : Nat) (P : Nat → Nat → Bool) : Tight p (mkW p P) := fun o x ho hx h => by
 rw [ob_mkW _ _ _ _ ho hx] at h
 simp only [Bool.and_eq_true, decide_eq_true_eq] at h
 exact h.1
def clP (p : Nat) (S W : Nat → Nat → Bool) (o x : Nat) : Bool := (List.range p).any fun q => (List.range p).any fun y => W q y && S o q && S x y
theorem clP_iff {p : Nat} {S W : Nat → Nat → Bool} {o x : Nat} : clP p S W o x = true ↔ ∃ q y, q < p ∧ y < p ∧ W q y = true ∧ S o q = true ∧ S x y = true := by
 unfold clP
 simp only [List.any_eq_true, List.mem_range, Bool.and_eq_true]
 exact ⟨fun ⟨q, h1, y, h2, ⟨h3, h4⟩, h5⟩ => ⟨q, y, h1, h2, h3, h4, h5⟩, fun ⟨q, y, h1, h2, h3, h4, h5⟩ => ⟨q, h1, y, h2, ⟨h3, h4⟩, h5⟩⟩
def clW (p : Nat) (S : Nat → Nat → Bool) (w : Nat) : Nat := mkW p (clP p S (ob w))
theorem ob_or (a b o x : Nat) : ob (a ||| b) o x = (ob a o x || ob b o x) := Nat.testBit_or _ _ _
def rowN (w p o : Nat) : Nat := MM.ofP (fun x => decide (x < p) && ob w o x) 64
theorem rowN_lt (w p o : Nat) : rowN w p o < 18446744073709551616 := MM.ofP_lt _ _
theorem rowN_bit (w p o x : Nat) (hp : p ≤ 8) : (rowN w p o).testBit x = (decide (x < p) && ob w o x) := by
 unfold rowN
 rw [MM.ofP_bit]
 by_cases h : x < p
 ·rw [show decide (x < 64) = true by simp; omega, Bool.true_and]
 ·simp [h]
theorem row_eq2 (w p o : Nat) (hp : p ≤ 8) : w / 2 ^ (8 * o) &&& MM.belowN (p : Int) = rowN w p o := by
 apply Nat.eq_of_testBit_eq
 intro x
 rw [Nat.testBit_and, Nat.testBit_div_two_pow, rowN_bit w p o x hp]
 unfold MM.belowN
 rw [MM.ofP_bit]
 unfold ob
 rw [Nat.add_comm x (8 * o), Bool.and_comm]
 by_cases h : x < p
 ·rw [show decide (x < 64) = true by simp; omega, show decide ((x : Int) < (p : Int)) = true by simp; omega]; simp [h]
 ·rw [show decide ((x : Int) < (p : Int)) = false by simp; omega]; simp [h]
def wTo (p : Nat) (F : Nat → Nat) (k : Nat) : Nat := mkW p fun o x => decide (o < k) && (F o).testBit x
theorem wTo_lt (p : Nat) (F : Nat → Nat) (k : Nat) : wTo p F k < 18446744073709551616 := mkW_lt _ _
theorem wTo_zero (p : Nat) (F : Nat → Nat) : wTo p F 0 = 0 := ob_ext (wTo_lt _ _ _) (by omega) fun o x ho hx => by
 unfold wTo
 rw [ob_mkW _ _ _ _ ho hx]
 simp [ob]
theorem wTo_end (p : Nat) (F : Nat → Nat) : wTo p F p = mkW p fun o x => (F o).testBit x := mkW_ext fun o x ho _ => by simp [ho]
theorem small_of {p f : Nat} (hf : ∀ x, p ≤ x → f.testBit x = false) : f < 2 ^ p := Nat.lt_pow_two_of_testBit f hf
theorem place_lt {p k f : Nat} (hp : p ≤ 8) (hk : k < p) (hf : ∀ x, p ≤ x → f.testBit x = false) : f * 2 ^ (8 * k) < 18446744073709551616 := by
 have h1 : f < 2 ^ 8 := zT (small_of hf) (Nat.pow_le_pow_right (by omega) hp)
 have h2 : f * 2 ^ (8 * k) < 2 ^ 8 * 2 ^ (8 * k) := Nat.mul_lt_mul_of_pos_right h1 (Nat.two_pow_pos _)
 have h3 : (2 : Nat) ^ 8 * 2 ^ (8 * k) = 2 ^ (8 + 8 * k) := (Nat.pow_add 2 8 (8 * k)).symm
 have h4 : (2 : Nat) ^ (8 + 8 * k) ≤ 2 ^ 64 := Nat.pow_le_pow_right (by omega) (by omega)
 omega
theorem wTo_next {p k : Nat} {F : Nat → Nat} (hp : p ≤ 8) (hk : k < p) (hf : ∀ x, p ≤ x → (F k).testBit x = false) : wTo p F k ||| F k * 2 ^ (8 * k) = wTo p F (k + 1) :=
 ob_ext (Nat.or_lt_two_pow (n := 64) (wTo_lt _ _ _) (place_lt hp hk hf)) (wTo_lt _ _ _) fun o x ho hx => by
  have e : ob (F k * 2 ^ (8 * k)) o x = (decide (o = k) && (F k).testBit x) := by
   unfold ob
   rw [Nat.mul_comm, Nat.testBit_two_pow_mul]
   by_cases h : o = k
   ·subst h
    rw [show 8 * o + x - 8 * o = x by omega]
    simp
   ·by_cases h2 : o < k
    ·rw [show decide (8 * k ≤ 8 * o + x) = false by simp; omega]
     simp [h]
    ·rw [hf (8 * o + x - 8 * k) (by omega)]
     simp [h]
  rw [ob_or, e]
  unfold wTo
  rw [ob_mkW _ _ _ _ ho hx, ob_mkW _ _ _ _ ho hx]
  by_cases h : o = k
  ·subst h
   by_cases h2 : x < p
   ·simp [hk, h2]
   ·rw [hf x (by omega)]; simp [h2]
  ·have h2 : decide (o < k + 1) = decide (o < k) := by rw [Bool.eq_iff_iff]; simp; omega
   rw [h2]
   simp [h]
def gClose (n : Int) (l : List Nat) (w : Nat) : Nat := if rightB n l then clW (pts n) (bt l) w else 0
def gReaders (n : Int) (l : List Nat) (w : Nat) (o : Int) : Nat := if rightB n l && isPt n o then MM.ofP (fun x => decide (x < pts n) && !ob w o.toNat x) 64 else 0
def gOwners (n : Int) (l : List Nat) (w : Nat) : Nat := if rightB n l then MM.ofP (fun o => decide (o < pts n) && (List.range (pts n)).any fun x => ob w o x) 64 else 0
theorem gReaders_lt (n : Int) (l : List Nat) (w : Nat) (o : Int) : gReaders n l w o < 18446744073709551616 := by unfold gReaders; split; exact MM.ofP_lt _ _; omega
theorem gOwners_lt (n : Int) (l : List Nat) (w : Nat) : gOwners n l w < 18446744073709551616 := by unfold gOwners; split; exact MM.ofP_lt _ _; omega
end
section
open Go.RowKit RM
theorem gright_any (n : Int) (l : List Nat) (hl : RW l) (w : World) :
 Calls Tryz.prog 125 #[.agg (rv n l)] w fun e w' => e = .returned (.bool (rightB n l)) ∧ Below w.heap.size w w' := by
 have hr1 := RelAt.new w n l
 have hc0 := hr1.cell0
 have hb : Below w.heap.size w (w.alloc (.cells (rv n l) 62)) := (zB _ _).alloc (zL _) _
 have HB := zh hb; clear hb
 by_cases h1 : n < 1
 ·rw [right_no (.inl h1)]
  go_enter Tryz.func125, Tryz.ntmps125
  go_wp2_with fail
  go_ret
  exact ⟨rfl, HB.out⟩
 ·by_cases h2 : 8 < n
  ·rw [right_no (.inr (.inl h2))]
   have h3 : 1 ≤ n := by omega
   have h4 : decide (n ≤ 8) = false := by simp; omega
   go_enter Tryz.func125, Tryz.ntmps125
   go_wp2_with fail
   go_ret
   exact ⟨rfl, HB.out⟩
  ·rw [right_in (by omega) (by omega)]
   have HC : Hid (∀ w, Calls Tryz.prog 163 #[.agg (rv n l)] w fun e w' => e = .returned (.bool (closedB n l)) ∧ Below w.heap.size w w') := rclosed_any n l hl
   generalize closedB n l = b at *
   have h3 : 1 ≤ n := by omega
   have h4 : n ≤ 8 := by omega
   go_enter Tryz.func125, Tryz.ntmps125
   go_wp2_with (refine wpList_loadRel rfl _ rfl w.heap.size rfl n l hl hr1 ?_)
   refine (HC.out _).mono ?_
   rintro e w1 ⟨rfl, hb1⟩
   have HB1 := zh (HB.out.trans (hb1.mono (by simp))); clear hb1
   go_wp2_with fail
   go_ret
   exact ⟨by cases b <;> rfl, HB1.out⟩
theorem shr8 (w o : Nat) : ((w : Int) / 2 ^ (8 * o)) = ((w / 2 ^ (8 * o) : Nat) : Int) := by simp
theorem grow_any (p : Nat) (l : List Nat) (hp : p ≤ 8) (w : Nat) (hw : w < 18446744073709551616) (o : Nat) (ho : o < p) (W : World) :
 Calls Tryz.prog 171 #[.agg (rv (p : Int) l), .int .u64 (w : Int), .int .i64 (o : Int)] W fun e W' => e = .returned (.int .u64 ((rowN w p o : Nat) : Int)) ∧ Below W.heap.size W W' := by
 have hr1 := RelAt.new W (p : Int) l
 have hc0 := hr1.cell0
 have hb : Below W.heap.size W (W.alloc (.cells (rv (p : Int) l) 62)) := (zB _ _).alloc (zL _) _
 have HB := zh hb; clear hb
 have e1 : bits BinOp.and IntKind.u64 ((w : Int) / 2 ^ (8 * o)) ((MM.belowN (p : Int) : Nat) : Int) = ((rowN w p o : Nat) : Int) := by
  rw [shr8, u64_and_nat _ _ (half_lt w _ hw) (belowN_lt _), row_eq2 w p o hp]
 go_enter Tryz.func171, Tryz.ntmps171
 go_wp2_with fail
 go_quiet ((go_at_call 98; exact Calls.quiet_of_same (still_of (below_any _ _))))
 go_wp2_with fail
 go_ret
 exact ⟨rfl, bdrewN HB.out _⟩
theorem gplace_any (g : Nat) (q f k : Nat) (hq : q < 18446744073709551616) (hk : k < 8) (hf : f * 2 ^ (8 * k) < 18446744073709551616) (w : World) (hg : Box w g 39 (.int .u64 (q : Int))) :
 Calls Tryz.prog 186 #[.int .i64 (k : Int), .int .u64 (f : Int), .pointer (some ⟨g, 0, none⟩)] w fun e w' => e = .returned (.tuple #[]) ∧ Box w' g 39 (.int .u64 ((q ||| f * 2 ^ (8 * k) : Nat) : Int)) ∧ Else g w w' := by
 have hc := hg.cell
 have hfr := hg.free
 have e1 : bits BinOp.or IntKind.u64 (q : Int) ((f * 2 ^ (8 * k) : Nat) : Int) = ((q ||| f * 2 ^ (8 * k) : Nat) : Int) := u64_or_nat q _ hq hf
 have e2 : IntKind.u64.wrap ((f : Int) * 2 ^ (8 * k)) = ((f * 2 ^ (8 * k) : Nat) : Int) := by
  rw [show (f : Int) * 2 ^ (8 * k) = ((f * 2 ^ (8 * k) : Nat) : Int) by simp]
  exact wrap_n _ hf
 have ev : bits BinOp.or IntKind.u64 (q : Int) (IntKind.u64.wrap ((f : Int) * 2 ^ (8 * k))) = ((q ||| f * 2 ^ (8 * k) : Nat) : Int) := by rw [e2, e1]
 clear e1 e2
 have HV := zh ev; clear ev
 have hm : IntKind.i64.wrap (8 * (k : Int)) = 8 * (k : Int) := IntWalk.i64_in _ ⟨by omega, by omega⟩
 go_enter Tryz.func186, Tryz.ntmps186
 go_wp2_with fail
 refine wp_region_still_tail 6 (by kernel_rfl) (by kernel_rfl) ?_
 simp only [List.take_succ_cons, List.take_zero, List.drop_succ_cons, List.drop_zero]
 repeat still_step
 refine wpStill_nil ?_
 go_wp2_with fail
 go_end0
 rw [HV.out]
 have he := Else.setCell w ⟨g, 0, none⟩ (.int .u64 ((q ||| f * 2 ^ (8 * k) : Nat) : Int))
 exact ⟨rfl, (hg.drewN 1).put _, ⟨he.os, he.tape, he.output, he.size, he.block⟩⟩
end
section
open Go.RowKit RM
theorem gword_any (n : Int) (l : List Nat) (hl : RW l) (f : FuncId) (cap : Array Value) (hf : ∀ args w, (callFunc f args).run Tryz.prog w = .ok (.enter f args) w) (F : Nat → Nat)
 (hF : ∀ o x, pts n ≤ x → (F o).testBit x = false) (w : World)
 (H : ∀ o W, rightB n l = true → o < pts n → Below w.heap.size w W → Calls Tryz.prog f (#[.int .i64 (o : Int)] ++ cap) W fun e W' => e = .returned (.int .u64 ((F o : Nat) : Int)) ∧ Below W.heap.size W W') :
 Calls Tryz.prog 168 #[.agg (rv n l), .func (.func f) #[] cap] w fun e w' => e = .returned (.int .u64 ((if rightB n l then mkW (pts n) (fun o x => (F o).testBit x) else 0 : Nat) : Int)) ∧ Below w.heap.size w w' := by
 have hmf : ∀ (fn : Fn) (first cap : Array Value) (w : World), (Instr.makeFunc fn first cap).run Tryz.prog w = .ok (.func fn first cap) w := fun _ _ _ _ => rfl
 have hr1 := RelAt.new w n l
 have hb : Below w.heap.size w (w.alloc (.cells (rv n l) 62)) := (zB _ _).alloc (zL _) _
 have HB := zh hb; clear hb
 have HR : Hid (∀ w, Calls Tryz.prog 125 #[.agg (rv n l)] w fun e w' => e = .returned (.bool (rightB n l)) ∧ Below w.heap.size w w') := gright_any n l hl
 have HH := zh H; clear H
 have HF := zh hF; clear hF
 cases hri : rightB n l with
 | false =>
   rw [hri] at HR
   clear HH HF hmf hf hri
   go_enter Tryz.func168, Tryz.ntmps168
   go_wp2_with (refine wpList_loadRel rfl _ rfl w.heap.size rfl n l hl hr1 ?_)
   refine (HR.out _).mono ?_
   rintro e w1 ⟨rfl, hb1⟩
   have HB1 := zh (HB.out.trans (hb1.mono (by simp))); clear hb1
   go_wp2_with fail
   go_ret
   exact ⟨rfl, HB1.out⟩
 | true =>
   obtain ⟨p, h1, hp, rfl, hpp, _⟩ := right_has hri
   rw [hri] at HR
   have HH2 : Hid (∀ o W, o < p → Below w.heap.size w W → Calls Tryz.prog f (#[.int .i64 (o : Int)] ++ cap) W fun e W' => e = .returned (.int .u64 ((F o : Nat) : Int)) ∧ Below W.heap.size W W') := fun o W ho hb => HH.out o W hri (by rw [hpp]; exact ho) hb
   have HF2 : Hid (∀ o x, p ≤ x → (F o).testBit x = false) := fun o x hx => HF.out o x (by rw [hpp]; exact hx)
   rw [hpp, if_pos rfl, ← wTo_end]
   clear HH HF hri hpp
   have HZ : Hid (wTo p F 0 = 0) := wTo_zero p F
   go_enter Tryz.func168, Tryz.ntmps168
   go_wp2_with (refine wpList_loadRel rfl _ rfl w.heap.size rfl (p : Int) l hl hr1 ?_)
   refine (HR.out _).mono ?_
   rintro e w1 ⟨rfl, hb1⟩
   have r1 := hr1.below hb1 hr1.lt
   have hs1 : w.heap.size < w1.heap.size := zT hr1.lt hb1.size
   have HB1 := zh (HB.out.trans (hb1.mono (by simp))); clear hb1 HB hr1
   have bx := Box.new w1 39 (.int .u64 0)
   have r2 := r1.alloc (.cells #[.int .u64 0] 39)
   have HB2 := zh (HB1.out.alloc (Nat.le_of_lt hs1) (.cells #[.int .u64 0] 39))
   clear r1 HB1
   have hc0 := r2.cell0
   go_wp2_with fail
   clear hc0
   have hg0 : w.heap.size ≠ w1.heap.size := by omega
   have hg1 : w.heap.size ≤ w1.heap.size := by omega
   generalize w1.heap.size = g at *
   clear hs1
   go_loopw [7, 14] (fun _ kv wr => ∃ k : Nat, k ≤ p ∧ kv = .int .i64 k ∧ RelAt wr w.heap.size (p : Int) l ∧ Box wr g 39 (.int .u64 ((wTo p F k : Nat) : Int)) ∧ Hid (Below w.heap.size w wr)) (fun _ kv _ => p - (intOf kv).toNat)
   case atStart => exact ⟨0, by omega, rfl, r2, by rw [HZ.out]; exact bx, HB2⟩
   case round =>
    clear bx r2 HB2 HZ
    obtain ⟨k, hk, rfl, rr, bx, HB⟩ := hrel
    by_cases hlt : k < p
    ·have HW : Hid (wTo p F k ||| F k * 2 ^ (8 * k) = wTo p F (k + 1)) := wTo_next hp hlt (HF2.out k)
     have hq := wTo_lt p F k
     have hpl := place_lt hp hlt (HF2.out k)
     have HC := zh (HH2.out k wr hlt HB.out)
     generalize wTo p F k = q at *
     generalize F k = fk at *
     go_wp2_with fail
     refine HC.out.mono ?_
     rintro e w2 ⟨rfl, hb2⟩
     have r2 := rr.below hb2 rr.lt
     have b2 := bx.below hb2 bx.lt
     have HB2 := zh (HB.out.trans (hb2.mono HB.out.size))
     clear rr bx HB hb2 HC
     go_wp2_with fail
     refine (gplace_any g q fk k hq (by omega) hpl w2 b2).mono ?_
     rintro e w3 ⟨rfl, b3, he⟩
     rw [HW.out] at b3
     have r3 := r2.other he hg0
     have HB3 := zh (HB2.out.trans (he.below hg1))
     clear r2 b2 HB2 he
     go_wp2_with fail
     go_roundw
     case rel => exact ⟨k + 1, by omega, by go_num, r3, b3, HB3⟩
     case measure => simp [intOf]; omega
    ·have e : k = p := by omega
     subst e
     have hc := bx.cell
     go_wp2_with fail
     go_ret
     exact ⟨rfl, HB.out⟩
end
section
open Go.RowKit RM
theorem gclose2_any (ga gr gw : Nat) (q p v i : Nat) (l : List Nat) (hl : RW l) (hp : p ≤ 8) (hi : i < p) (hq : q < 18446744073709551616) (hv : v < 18446744073709551616) (w : World)
 (ha : Box w ga 39 (.int .u64 (q : Int))) (hr : RelAt w gr (p : Int) l) (hw : Box w gw 39 (.int .u64 (v : Int))) (h1 : gr ≠ ga) (h2 : gw ≠ ga) :
 Calls Tryz.prog 170 #[.int .i64 (i : Int), .pointer (some ⟨ga, 0, none⟩), .pointer (some ⟨gr, 0, none⟩), .pointer (some ⟨gw, 0, none⟩)] w fun e w' =>
  e = .returned (.bool true) ∧ Box w' ga 39 (.int .u64 ((q ||| rowN v p i : Nat) : Int)) ∧ Mut ga w w' := by
 have e1 : bits BinOp.or IntKind.u64 (q : Int) (rowN v p i : Int) = ((q ||| rowN v p i : Nat) : Int) := u64_or_nat q _ hq (rowN_lt _ _ _)
 obtain ⟨S, HS, pM, keepS, SI⟩ := ex_mut ga w
 have pR := fun w' h => hr.mut (pM w' h) h1
 have pW := fun w' h => hw.mut (pM w' h) h2
 have cW := fun w' h => (pW w' h).cell
 have b1 : Box w.drew ga 39 (.int .u64 (q : Int)) := ha.drewN 1
 have HM := zh ((Mut.refl ga w).drew)
 clear pM hr hw
 go_enter Tryz.func170, Tryz.ntmps170
 go_wp2_with fail
 refine wp_region_ot S (.take 1 (.take 2 (.take 3 (.two 0 (.solo 4 (.take 5 (.solo 6 .nil))) 4 (.solo 0 (.take 5 (.solo 6 .nil))))))) (by kernel_rfl) (by kernel_rfl) rfl (by kernel_rfl) HS.out ?_
 generalize w.drew = V at HS b1 HM ⊢
 have hc := b1.cell
 iterate 3
  (refine wpOT_step (zO rfl) ?_)
  (first
        | (refine wpOT_skip (by rfl) ?_)
        | (refine wpOT_take (by rfl) (take_loadRel _ rfl _ rfl _ _ hl pR) ?_)
        | (refine wpOT_take (v := ?_) (by rfl) ?_ ?_; rotate_left 1; (intro wx hSx; have hc_0 := cW wx hSx; go_simp; try with_reducible rfl)))
  (try simp only [Act.put, zA4, zA5, zA6])
 refine wpOT_two ?_ ?_
 ·(refine wpOT_solo (o := ?_) ?_ ?_; rotate_left 1; (simp only [zA1, zA3]; with_reducible rfl))
  intro K hK
  go_simp
  refine hK.out _ _ HS.out ?_
  clear hK K
  (try simp only [Act.put, zA4, zA5, zA6])
  (refine wpOT_solo (zO rfl) ?_)
  intro K hK
  go_simp
  go_at_call 171
  refine (grow_any p l hp v hv i hi _).mono ?_
  rintro e w3 ⟨rfl, hb⟩
  have hS := keepS _ _ HS.out hb
  clear HS
  have HS := zh hS; clear hS
  have b3 := b1.below hb b1.lt
  have HM3 := zh (HM.out.trans (Mut.of_below hb ga))
  clear hb
  refine hK.out _ _ HS.out ?_
  clear hK K
  (try simp only [Act.put, zA4, zA5, zA6])
  have hc3 := b3.cell
  have hf3 := b3.free
  iterate 1
   (refine wpOT_step (zO rfl) ?_)
   (first
    | (refine wpOT_skip (by rfl) ?_)
    | (refine wpOT_take (v := ?_) (by rfl) ?_ ?_; rotate_left 1; (intro wx hSx; go_simp; try with_reducible rfl)))
   (try simp only [Act.put, zA4, zA5, zA6])
  (refine wpOT_solo (zO rfl) ?_)
  intro K hK
  go_simp
  have HM4 := zh (HM3.out.trans (Mut.of_set w3 ga 0 (.int .u64 ((q ||| rowN v p i : Nat) : Int))))
  have b4 := b3.put (.int .u64 ((q ||| rowN v p i : Nat) : Int))
  refine hK.out _ _ (SI.out _ HM4.out) ?_
  clear hK K
  (try simp only [Act.put, zA4, zA5, zA6])
  refine wpOT_done ?_
  go_wp2_with fail
  go_ret
  exact ⟨rfl, b4, HM4.out⟩
 ·(refine wpOT_solo (zO rfl) ?_)
  intro K hK
  go_simp
  go_at_call 171
  refine (grow_any p l hp v hv i hi _).mono ?_
  rintro e w3 ⟨rfl, hb⟩
  have hS := keepS _ _ HS.out hb
  clear HS
  have HS := zh hS; clear hS
  have b3 := b1.below hb b1.lt
  have HM3 := zh (HM.out.trans (Mut.of_below hb ga))
  clear hb
  refine hK.out _ _ HS.out ?_
  clear hK K
  (try simp only [Act.put, zA4, zA5, zA6])
  have hc3 := b3.cell
  have hf3 := b3.free
  (refine wpOT_solo (o := ?_) ?_ ?_; rotate_left 1; (simp only [zA1, zA3]; with_reducible rfl))
  intro K hK
  go_simp
  refine hK.out _ _ HS.out ?_
  clear hK K
  (try simp only [Act.put, zA4, zA5, zA6])
  iterate 1
   (refine wpOT_step (zO rfl) ?_)
   (first
    | (refine wpOT_skip (by rfl) ?_)
    | (refine wpOT_take (v := ?_) (by rfl) ?_ ?_; rotate_left 1; (intro wx hSx; go_simp; try with_reducible rfl)))
   (try simp only [Act.put, zA4, zA5, zA6])
  (refine wpOT_solo (zO rfl) ?_)
  intro K hK
  go_simp
  have HM4 := zh (HM3.out.trans (Mut.of_set w3 ga 0 (.int .u64 ((q ||| rowN v p i : Nat) : Int))))
  have b4 := b3.put (.int .u64 ((q ||| rowN v p i : Nat) : Int))
  refine hK.out _ _ (SI.out _ HM4.out) ?_
  clear hK K
  (try simp only [Act.put, zA4, zA5, zA6])
  refine wpOT_done ?_
  go_wp2_with fail
  go_ret
  exact ⟨rfl, b4, HM4.out⟩
def orR (v p : Nat) (xs : List Nat) : Nat := xs.foldl (fun a q => a ||| rowN v p q) 0
theorem orR_snoc (v p : Nat) (xs : List Nat) (q : Nat) : orR v p (xs ++ [q]) = orR v p xs ||| rowN v p q := by simp [orR]
theorem orR_take (v p : Nat) (xs : List Nat) (j : Nat) (h : j < xs.length) : orR v p (xs.take (j + 1)) = orR v p (xs.take j) ||| rowN v p (xs.getD j 0) := by
 rw [List.take_succ_eq_append_getElem h, orR_snoc, List.getD_eq_getElem?_getD, List.getElem?_eq_getElem h]; rfl
theorem orR_lt (v p : Nat) (xs : List Nat) : orR v p xs < 18446744073709551616 := by
 suffices ∀ (xs : List Nat) (a : Nat), a < 2 ^ 64 → xs.foldl (fun a q => a ||| rowN v p q) a < 2 ^ 64 from this xs 0 (by omega)
 intro xs
 induction xs with
 | nil => intro a ha; exact ha
 | cons i xs ih => intro a ha; exact ih _ (Nat.or_lt_two_pow ha (rowN_lt v p i))
theorem orR_bit (v p : Nat) (xs : List Nat) (j : Nat) : (orR v p xs).testBit j = xs.any fun q => (rowN v p q).testBit j := by
 suffices ∀ (xs : List Nat) (a : Nat), (xs.foldl (fun a q => a ||| rowN v p q) a).testBit j = (a.testBit j || xs.any fun q => (rowN v p q).testBit j) by
  have := this xs 0
  simpa [orR] using this
 intro xs
 induction xs with
 | nil => intro a; simp
 | cons i xs ih => intro a; rw [List.foldl_cons, ih, Nat.testBit_or, List.any_cons, Bool.or_assoc]
def ups (n : Int) (l : List Nat) (o : Nat) : Nat := abv (cl n l) (MM.ofN [(o : Int)])
def closeF (n : Int) (l : List Nat) (p v o : Nat) : Nat := blw (cl n l) (orR v p (MM.els (ups n l o))) p
theorem ups_mem {n : Int} {l : List Nat} {o q : Nat} : q ∈ MM.els (ups n l o) ↔ o < pts n ∧ q < pts n ∧ bt l o q = true := by
 have hp := pts_le n
 rw [MM.mem_els]
 unfold ups
 rw [abv_bit]
 constructor
 ·rintro ⟨h1, i, h2, h3, h4⟩
  rw [MM.ofN_bit] at h3
  simp at h3
  obtain ⟨h3, h5⟩ := h3
  have e : i = o := by omega
  subst e
  rw [bt_cl] at h4
  simp at h4
  exact ⟨h4.1.1, h4.1.2, h4.2⟩
 ·rintro ⟨h1, h2, h3⟩
  refine ⟨by omega, o, by omega, ?_, ?_⟩
  ·rw [MM.ofN_bit]; simp; omega
  ·rw [bt_cl]; simp [h1, h2, h3]
theorem closeF_high {n : Int} {l : List Nat} {p v o x : Nat} (h : p ≤ x) : (closeF n l p v o).testBit x = false := by
 unfold closeF
 rw [blw_bit, show decide (x < p) = false by simp; omega]; simp
theorem closeF_word (n : Int) (l : List Nat) (v : Nat) (hp : pts n ≤ 8) : mkW (pts n) (fun o x => (closeF n l (pts n) v o).testBit x) = clW (pts n) (bt l) v :=
 mkW_ext fun o x ho hx => by
  have hrl : (cl n l).getD x 0 < 2 ^ 64 := (RW.mk (pts n) (bt l)).lt x
  rw [Bool.eq_iff_iff, clP_iff]
  unfold closeF
  rw [blw_bit, Bool.and_eq_true, Bool.and_eq_true, decide_eq_true_eq, decide_eq_true_eq, and_ne hrl]
  constructor
  ·rintro ⟨_, _, y, _, h1, h2⟩
   have h1' : bt (cl n l) x y = true := h1
   rw [bt_cl] at h1'
   rw [orR_bit, List.any_eq_true] at h2
   obtain ⟨q, hq, h3⟩ := h2
   obtain ⟨_, h5, h6⟩ := ups_mem.1 hq
   rw [rowN_bit _ _ _ _ hp] at h3
   simp at h1' h3
   exact ⟨q, y, h5, h3.1, h3.2, h6, h1'.2⟩
  ·rintro ⟨q, y, hq, hy, h1, h2, h3⟩
   refine ⟨by omega, hx, y, by omega, ?_, ?_⟩
   ·show bt (cl n l) x y = true
    rw [bt_cl]; simp [hx, hy, h3]
   ·rw [orR_bit, List.any_eq_true]
    exact ⟨q, ups_mem.2 ⟨ho, hq, h2⟩, by rw [rowN_bit _ _ _ _ hp]; simp [hy, h1]⟩
def ClInv (W : World) (ga gr gw p v : Nat) (l xs : List Nat) (j : Nat) (W' : World) : Prop :=
 Box W' ga 39 (.int .u64 ((orR v p (xs.take j) : Nat) : Int)) ∧ RelAt W' gr (p : Int) l ∧ Box W' gw 39 (.int .u64 (v : Int)) ∧ Mut ga W W'
theorem gclose1_any (gr gw : Nat) (p v o : Nat) (l : List Nat) (hl : RW l) (hp : p ≤ 8) (hpp : pts (p : Int) = p) (hv : v < 18446744073709551616) (w : World) (hT : Tab w)
 (hr : RelAt w gr (p : Int) l) (hw : Box w gw 39 (.int .u64 (v : Int))) :
 Calls Tryz.prog 169 #[.int .i64 (o : Int), .pointer (some ⟨gr, 0, none⟩), .pointer (some ⟨gw, 0, none⟩)] w fun e w' =>
  e = .returned (.int .u64 ((closeF (p : Int) l p v o : Nat) : Int)) ∧ Below w.heap.size w w' := by
 have hmf : ∀ (fn : Fn) (first cap : Array Value) (w : World), (Instr.makeFunc fn first cap).run Tryz.prog w = .ok (.func fn first cap) w := fun _ _ _ _ => rfl
 have hup := fun (w : World) (h : Tab w) => rup_any (p : Int) l hl (MM.ofN [(o : Int)]) (MM.ofN_lt _) w h
 change ∀ w, Tab w → Calls Tryz.prog 138 #[.agg (rv (p : Int) l), .int .u64 ((MM.ofN [(o : Int)] : Nat) : Int)] w fun e w' => e = .returned (.int .u64 ((ups (p : Int) l o : Nat) : Int)) ∧ Below w.heap.size w w' at hup
 have HUP := zh hup; clear hup
 have hus : ups (p : Int) l o < 18446744073709551616 := abv_lt (RW.mk _ _) _
 have HEL : Hid (∀ j, j < (MM.els (ups (p : Int) l o)).length → (MM.els (ups (p : Int) l o)).getD j 0 < p) := fun j hj => by
  have h : (MM.els (ups (p : Int) l o)).getD j 0 ∈ MM.els (ups (p : Int) l o) := by
   rw [List.getD_eq_getElem?_getD, List.getElem?_eq_getElem hj]; exact List.getElem_mem hj
  have h2 := (ups_mem.1 h).2.1
  rw [hpp] at h2; exact h2
 have HDN : Hid (∀ w, Calls Tryz.prog 139 #[.agg (rv (p : Int) l), .int .u64 ((orR v p (MM.els (ups (p : Int) l o)) : Nat) : Int)] w fun e w' => e = .returned (.int .u64 ((closeF (p : Int) l p v o : Nat) : Int)) ∧ Below w.heap.size w w') := fun w => by
  have h := rdown_any (p : Int) l hl (orR v p (MM.els (ups (p : Int) l o))) (orR_lt _ _ _) w
  rw [hpp] at h; exact h
 generalize closeF (p : Int) l p v o = res at *
 generalize ups (p : Int) l o = u at *
 have bx := Box.new w 39 (.int .u64 0)
 have hr1 := hr.alloc (.cells #[.int .u64 0] 39)
 have hw1 := hw.alloc (.cells #[.int .u64 0] 39)
 have h1 : gr ≠ w.heap.size := Nat.ne_of_lt hr.lt
 have h2 : gw ≠ w.heap.size := Nat.ne_of_lt hw.lt
 have hb : Below w.heap.size w (w.alloc (.cells #[.int .u64 0] 39)) := (zB _ _).alloc (zL _) _
 have HB := zh hb; clear hb
 have hsW : w.heap.size < (w.alloc (.cells #[.int .u64 0] 39)).heap.size := bx.lt
 have HBB : Hid (∀ w', Mut w.heap.size (w.alloc (.cells #[.int .u64 0] 39)) w' → Below w.heap.size w w') := fun w' h => HB.out.trans (h.below (zL _) (Nat.le_of_lt hsW))
 have HTT : Hid (∀ w', Below w.heap.size w w' → Tab w') := fun w' h => hT.below h
 have HEA : Hid (∀ W4, ClInv (w.alloc (.cells #[.int .u64 0] 39)) w.heap.size gr gw p v l (MM.els u) 0 W4 → Calls Tryz.prog 149 #[.int .u64 (u : Int), .func (.func 170) #[] #[.pointer (some ⟨w.heap.size, 0, none⟩), .pointer (some ⟨gr, 0, none⟩), .pointer (some ⟨gw, 0, none⟩)]] W4
  fun e w' => e = .returned (.tuple #[]) ∧ ClInv (w.alloc (.cells #[.int .u64 0] 39)) w.heap.size gr gw p v l (MM.els u) (MM.els u).length w') := fun W4 h0 =>
  each_any u hus 170 #[.pointer (some ⟨w.heap.size, 0, none⟩), .pointer (some ⟨gr, 0, none⟩), .pointer (some ⟨gw, 0, none⟩)] W4 (fun _ _ => by kernel_rfl) (ClInv (w.alloc (.cells #[.int .u64 0] 39)) w.heap.size gr gw p v l (MM.els u)) _
   (fun j W' h => HTT.out _ (HBB.out _ h.2.2.2)) h0 (fun W' h => h) (fun j W' hj ⟨i1, i2, i3, i4⟩ => by
        refine (gclose2_any w.heap.size gr gw _ p v ((MM.els u).getD j 0) l hl hp (HEL.out j hj) (orR_lt _ _ _) hv W' i1 i2 i3 h1 h2).mono ?_
        rintro e W'' ⟨rfl, k1, k2⟩
        exact .inl ⟨rfl, by rw [orR_take _ _ _ _ hj]; exact k1, i2.mut k2 h1, i3.mut k2 h2, i4.trans k2⟩)
 have HOZ : Hid (orR v p ((MM.els u).take 0) = 0) := by rw [List.take_zero]; exact rfl
 have HOE : Hid ((MM.els u).take (MM.els u).length = MM.els u) := List.take_length
 clear HB hT hr hw HEL
 go_enter Tryz.func169, Tryz.ntmps169
 go_wp2_with fail
 generalize w.alloc (.cells #[.int .u64 0] 39) = W at *
 obtain ⟨S, HS, pM, keepS, SI⟩ := ex_mut w.heap.size W
 have pR := fun w' h => hr1.mut (pM w' h) h1
 have pW := fun w' h => hw1.mut (pM w' h) h2
 have PM : Hid (∀ w', S w' → Mut w.heap.size W w') := pM
 have b1 : Box W.drew w.heap.size 39 (.int .u64 0) := bx.drewN 1
 clear pM
 refine wp_region_ord S [(0, true), (1, true), (5, true), (2, false), (3, false), (4, false), (6, false)] (by kernel_rfl) (by kernel_rfl) rfl (by kernel_rfl) HS.out ?_
 generalize W.drew = V at HS b1 ⊢
 iterate 3
  (refine wpOrd_step (zO rfl) ?_)
  (first
        | (refine wpOrd_skip (by rfl) ?_)
        | (refine wpOrd_take (by rfl) (take_loadRel _ rfl _ rfl _ _ hl pR) ?_)
        | (refine wpOrd_take (v := ?_) (by rfl) ?_ ?_; rotate_left 1; (intro wx hSx; go_simp; try with_reducible rfl)))
  (try simp only [Act.put, zA4, zA5, zA6])
 (refine wpOrd_solo (zO rfl) ?_)
 intro K hK
 go_simp
 have hI : Ints (V.alloc (.cells #[.int .i64 (o : Int)] 3)) (some ⟨V.heap.size, 0, none⟩) [(o : Int)] := new_ints V [(o : Int)] 3
 have b2 := b1.alloc (.cells #[.int .i64 (o : Int)] 3)
 have hS := keepS _ _ HS.out ((zB V.heap.size V).alloc (zL _) (.cells #[.int .i64 (o : Int)] 3))
 clear HS b1
 have HS := zh hS; clear hS
 refine hK.out _ _ HS.out ?_
 clear hK K
 (try simp only [Act.put, zA4, zA5, zA6])
 have HI := zh hI; clear hI
 generalize V.alloc (.cells #[.int .i64 (o : Int)] 3) = V2 at HI HS b2 ⊢
 (refine wpOrd_solo (zO rfl) ?_)
 intro K hK
 go_simp
 go_at_call 140
 refine (of_any _ 1 [(o : Int)] _ (by simp) HI.out).mono ?_
 rintro e w' ⟨rfl, rfl⟩
 refine hK.out _ _ HS.out ?_
 clear hK K
 (try simp only [Act.put, zA4, zA5, zA6])
 (refine wpOrd_solo (zO rfl) ?_)
 intro K hK
 go_simp
 go_at_call 138
 refine (HUP.out _ (HTT.out _ (HBB.out _ (PM.out _ HS.out)))).mono ?_
 rintro e w4 ⟨rfl, hb⟩; have b4 := b2.below hb b2.lt
 have hS := keepS _ _ HS.out hb
 clear HS
 have HS := zh hS; clear hS hb
 refine hK.out _ _ HS.out ?_
 clear hK K
 (try simp only [Act.put, zA4, zA5, zA6])
 (refine wpOrd_solo (zO rfl) ?_)
 intro K hK
 go_simp
 go_at_call 149
 refine (HEA.out _ ⟨by rw [HOZ.out]; exact b4, pR _ HS.out, pW _ HS.out, PM.out _ HS.out⟩).mono ?_
 rintro e w5 ⟨rfl, i1, i2, i3, i4⟩
 rw [HOE.out] at i1
 refine hK.out _ _ (SI.out _ i4) ?_
 clear hK K
 (try simp only [Act.put, zA4, zA5, zA6])
 refine wpOrd_done ?_
 have HB5 := zh (HBB.out _ i4)
 have hc5 := i1.cell
 clear i4 i3 pR pW PM SI keepS HS HI b2 b4 HEA HBB HTT
 go_wp2_with (refine wpList_loadRel rfl _ rfl gr rfl _ _ hl i2 ?_)
 refine (HDN.out _).mono ?_
 rintro e w6 ⟨rfl, hb6⟩
 have HB6 := zh (HB5.out.trans (hb6.mono HB5.out.size)); clear hb6
 go_wp2_with fail
 go_ret
 exact ⟨rfl, HB6.out⟩
end
section
open Go.RowKit RM
theorem gclose_any (n : Int) (l : List Nat) (hl : RW l) (v : Nat) (hv : v < 18446744073709551616) (w : World) (hT : Tab w) :
 Calls Tryz.prog 129 #[.agg (rv n l), .int .u64 (v : Int)] w fun e w' => e = .returned (.int .u64 ((gClose n l v : Nat) : Int)) ∧ Below w.heap.size w w' := by
 have hmf : ∀ (fn : Fn) (first cap : Array Value) (w : World), (Instr.makeFunc fn first cap).run Tryz.prog w = .ok (.func fn first cap) w := fun _ _ _ _ => rfl
 have hr1 : RelAt ((w.alloc (.cells (rv n l) 62)).alloc (.cells #[.int .u64 (v : Int)] 39)) w.heap.size n l := (RelAt.new w n l).alloc _
 have bx : Box ((w.alloc (.cells (rv n l) 62)).alloc (.cells #[.int .u64 (v : Int)] 39)) (w.heap.size + 1) 39 (.int .u64 (v : Int)) := by
  have := Box.new (w.alloc (.cells (rv n l) 62)) 39 (.int .u64 (v : Int))
  simpa using this
 have hb : Below w.heap.size w ((w.alloc (.cells (rv n l) 62)).alloc (.cells #[.int .u64 (v : Int)] 39)) := ((zB _ _).alloc (zL _) _).alloc (by simp) _
 have hval : (if rightB n l then mkW (pts n) (fun o x => (closeF n l (pts n) v o).testBit x) else 0) = gClose n l v := by
  unfold gClose
  cases h : rightB n l with
  | false => rfl
  | true =>
    obtain ⟨p, _, h8, rfl, hp, _⟩ := right_has h
    simp only [if_true]
    exact closeF_word _ _ _ (by omega)
 have HW := gword_any n l hl 169 #[.pointer (some ⟨w.heap.size, 0, none⟩), .pointer (some ⟨w.heap.size + 1, 0, none⟩)] (fun _ _ => by kernel_rfl) (fun o => closeF n l (pts n) v o) (fun o x hx => closeF_high hx) ((w.alloc (.cells (rv n l) 62)).alloc (.cells #[.int .u64 (v : Int)] 39))
  (fun o W h _ hbw => by
   obtain ⟨p, _, h8, rfl, hp, _⟩ := right_has h
   rw [hp]
   exact gclose1_any w.heap.size (w.heap.size + 1) p v o l hl h8 hp hv W (hT.below (hb.trans (hbw.mono hb.size))) (hr1.below hbw hr1.lt) (bx.below hbw bx.lt))
 rw [hval] at HW
 have HWW := zh HW; clear HW hval hT bx
 have HB := zh hb; clear hb
 generalize gClose n l v = res at *
 go_enter Tryz.func129, Tryz.ntmps129
 go_wp2_with (refine wpList_loadRel rfl _ rfl w.heap.size rfl n l hl hr1 ?_)
 refine HWW.out.mono ?_
 rintro e w1 ⟨rfl, hb1⟩
 have HB1 := zh (HB.out.trans (hb1.mono HB.out.size)); clear hb1
 go_wp2_with fail
 go_ret
 exact ⟨rfl, HB1.out⟩
def gClosed (n : Int) (l : List Nat) (v : Nat) : Bool := rightB n l && (gClose n l v == v)
theorem gclosed_any (n : Int) (l : List Nat) (hl : RW l) (v : Nat) (hv : v < 18446744073709551616) (w : World) (hT : Tab w) :
 Calls Tryz.prog 99 #[.agg (rv n l), .int .u64 (v : Int)] w fun e w' => e = .returned (.bool (gClosed n l v)) ∧ Below w.heap.size w w' := by
 have hr1 := RelAt.new w n l
 have hb : Below w.heap.size w (w.alloc (.cells (rv n l) 62)) := (zB _ _).alloc (zL _) _
 have HR : Hid (∀ w, Calls Tryz.prog 125 #[.agg (rv n l)] w fun e w' => e = .returned (.bool (rightB n l)) ∧ Below w.heap.size w w') := gright_any n l hl
 have HC : Hid (∀ w, Tab w → Calls Tryz.prog 129 #[.agg (rv n l), .int .u64 (v : Int)] w fun e w' => e = .returned (.int .u64 ((gClose n l v : Nat) : Int)) ∧ Below w.heap.size w w') := fun w h => gclose_any n l hl v hv w h
 have HV : Hid (gClosed n l v = (rightB n l && (gClose n l v == v))) := rfl
 have HB := zh hb; clear hb
 have HT := zh hT; clear hT
 generalize gClose n l v = c at *
 generalize rightB n l = b at *
 generalize gClosed n l v = res at *
 go_enter Tryz.func99, Tryz.ntmps99
 go_wp2_with (refine wpList_loadRel rfl _ rfl w.heap.size rfl n l hl hr1 ?_)
 refine (HR.out _).mono ?_
 rintro e w1 ⟨rfl, hb1⟩
 have r1 := hr1.below hb1 hr1.lt
 have HB1 := zh (HB.out.trans (hb1.mono HB.out.size)); clear hb1
 cases b with
 | false =>
   go_wp2_with fail
   go_ret
   exact ⟨by rw [HV.out]; rfl, HB1.out⟩
 | true =>
   go_wp2_with (refine wpList_loadRel rfl _ rfl w.heap.size rfl n l hl r1 ?_)
   refine (HC.out _ (HT.out.below HB1.out)).mono ?_
   rintro e w2 ⟨rfl, hb2⟩
   have HB2 := zh (HB1.out.trans (hb2.mono HB1.out.size)); clear hb2
   go_wp2_with fail
   go_ret
   exact ⟨ret_eq (bool_eq (by rw [HV.out, Bool.eq_iff_iff]; simp; omega)), HB2.out⟩
theorem greaders_any (n : Int) (l : List Nat) (hl : RW l) (v : Nat) (hv : v < 18446744073709551616) (o : Int) (w : World) :
 Calls Tryz.prog 152 #[.agg (rv n l), .int .u64 (v : Int), .int .i64 o] w fun e w' => e = .returned (.int .u64 ((gReaders n l v o : Nat) : Int)) ∧ Below w.heap.size w w' := by
 have hr1 := RelAt.new w n l
 have hb : Below w.heap.size w (w.alloc (.cells (rv n l) 62)) := (zB _ _).alloc (zL _) _
 have HR : Hid (∀ w, Calls Tryz.prog 125 #[.agg (rv n l)] w fun e w' => e = .returned (.bool (rightB n l)) ∧ Below w.heap.size w w') := gright_any n l hl
 have HB := zh hb; clear hb
 cases hri : rightB n l with
 | false =>
   have hz : gReaders n l v o = 0 := by unfold gReaders; rw [hri]; rfl
   rw [hz]
   rw [hri] at HR
   clear hri hz
   go_enter Tryz.func152, Tryz.ntmps152
   go_wp2_with (refine wpList_loadRel rfl _ rfl w.heap.size rfl n l hl hr1 ?_)
   refine (HR.out _).mono ?_
   rintro e w1 ⟨rfl, hb1⟩
   have HB1 := zh (HB.out.trans (hb1.mono HB.out.size)); clear hb1
   go_wp2_with fail
   go_ret
   exact ⟨rfl, HB1.out⟩
 | true =>
   obtain ⟨p, h1, hp, rfl, hpp, _⟩ := right_has hri
   rw [hri] at HR
   by_cases h0 : o < 0
   ·have hz : gReaders (p : Int) l v o = 0 := by unfold gReaders isPt; rw [show decide (0 ≤ o) = false by simp; omega]; simp
    rw [hz]
    clear hri hz
    go_enter Tryz.func152, Tryz.ntmps152
    go_wp2_with (refine wpList_loadRel rfl _ rfl w.heap.size rfl (p : Int) l hl hr1 ?_)
    refine (HR.out _).mono ?_
    rintro e w1 ⟨rfl, hb1⟩
    have HB1 := zh (HB.out.trans (hb1.mono HB.out.size)); clear hb1
    go_wp2_with fail
    go_ret
    exact ⟨rfl, HB1.out⟩
   ·by_cases h2 : (p : Int) ≤ o
    ·have hz : gReaders (p : Int) l v o = 0 := by unfold gReaders isPt; rw [hpp, show decide (o < (p : Int)) = false by simp; omega]; simp
     rw [hz]
     clear hri hz
     go_enter Tryz.func152, Tryz.ntmps152
     go_wp2_with (refine wpList_loadRel rfl _ rfl w.heap.size rfl (p : Int) l hl hr1 ?_)
     refine (HR.out _).mono ?_
     rintro e w1 ⟨rfl, hb1⟩
     have hc1 := (hr1.below hb1 hr1.lt).cell0
     have HB1 := zh (HB.out.trans (hb1.mono HB.out.size)); clear hb1
     go_wp2_with fail
     go_ret
     exact ⟨rfl, HB1.out⟩
    ·obtain ⟨k, hk⟩ : ∃ k : Nat, o = (k : Int) := ⟨o.toNat, by omega⟩
     subst hk
     have hk : k < p := by omega
     have hz : MM.belowN (p : Int) &&& (18446744073709551615 - rowN v p k) = gReaders (p : Int) l v (k : Int) := by
      unfold gReaders
      rw [hri, isPt_nat, hpp, show decide (k < p) = true by simpa using hk]
      simp only [Bool.and_self, if_true, Int.toNat_natCast]
      refine MM.ext64 (Nat.lt_of_le_of_lt Nat.and_le_left (belowN_lt _)) (MM.ofP_lt _ _) fun x hx => ?_
      rw [Nat.testBit_and, MM.not_bit _ _ (rowN_lt v p k), rowN_bit _ _ _ _ hp, MM.ofP_bit, belowN_bit]
      by_cases hxp : x < p
      ·simp [hx, hxp]
      ·simp [hxp]
     have e1 : bits BinOp.andNot IntKind.u64 ((MM.belowN (p : Int) : Nat) : Int) ((rowN v p k : Nat) : Int) = ((gReaders (p : Int) l v (k : Int) : Nat) : Int) := by
      rw [← hz]; exact u64_andNot_nat _ _ (belowN_lt _) (rowN_lt _ _ _)
     have HE := zh e1
     clear hz hri e1
     go_enter Tryz.func152, Tryz.ntmps152
     go_wp2_with (refine wpList_loadRel rfl _ rfl w.heap.size rfl (p : Int) l hl hr1 ?_)
     refine (HR.out _).mono ?_
     rintro e w1 ⟨rfl, hb1⟩
     have r1 := hr1.below hb1 hr1.lt
     have hc1 := r1.cell0
     have HB1 := zh (HB.out.trans (hb1.mono HB.out.size)); clear hb1
     have hm0 : (0 : Int) ≤ (k : Int) := by omega
     have hkm : (k : Int) < (p : Int) := by omega
     have hro := fun w => grow_any p l hp v hv k hk w
     have HRO := zh hro; clear hro h0 h2
     obtain ⟨S, HS, pb, keepS⟩ := ex_gen w1
     have pR := fun w' h => r1.below (pb w' h) r1.lt
     have cR := fun w' h => (pR w' h).cell0
     have PB : Hid (∀ w', S w' → Below w.heap.size w w') := fun w' h => HB1.out.trans ((pb w' h).mono HB1.out.size)
     clear pb
     go_wp2_with fail
     refine wp_region_ord S [(0, true), (1, true), (3, true), (4, true), (5, true), (2, false), (6, false), (7, true), (8, true)] (by kernel_rfl) (by kernel_rfl) rfl (by kernel_rfl) HS.out ?_
     iterate 5
      (refine wpOrd_step (zO rfl) ?_)
      (first
       | (refine wpOrd_skip (by rfl) ?_)
       | (refine wpOrd_take (by rfl) (take_loadRel _ rfl _ rfl _ _ hl pR) ?_)
       | (refine wpOrd_take (v := ?_) (by rfl) ?_ ?_; rotate_left 1; (intro wx hSx; have hc_0 := cR wx hSx; go_simp; try with_reducible rfl)))
      (try simp only [Act.put, zA4, zA5, zA6])
     (refine wpOrd_solo (zO rfl) ?_)
     intro K hK
     go_simp
     go_at_call 98
     refine (below_any _ _).mono ?_
     rintro e w' ⟨rfl, rfl⟩
     refine hK.out _ _ HS.out ?_
     clear hK K
     (try simp only [Act.put, zA4, zA5, zA6])
     (refine wpOrd_solo (zO rfl) ?_)
     intro K hK
     go_simp
     go_at_call 171
     refine (HRO.out _).mono ?_
     rintro e w3 ⟨rfl, hb⟩
     have hS := keepS _ _ HS.out hb
     clear HS
     have HS := zh hS; clear hS hb
     refine hK.out _ _ HS.out ?_
     clear hK K
     (try simp only [Act.put, zA4, zA5, zA6])
     iterate 2
      (refine wpOrd_step (zO rfl) ?_)
      (first
       | (refine wpOrd_skip (by rfl) ?_)
       | (refine wpOrd_take (v := ?_) (by rfl) ?_ ?_; rotate_left 1; (intro wx hSx; go_simp; try with_reducible rfl)))
      (try simp only [Act.put, zA4, zA5, zA6])
     refine wpOrd_done ?_
     have HB3 := zh (PB.out _ HS.out)
     clear pR cR PB HS keepS
     go_wp2_with fail
     go_ret
     exact ⟨ret_eq (int_eq HE.out), HB3.out⟩
end
section
open Go.RowKit RM
def ownW (v p k : Nat) : Nat := MM.ofP (fun o => decide (o < k) && (rowN v p o != 0)) 64
theorem ownW_lt (v p k : Nat) : ownW v p k < 18446744073709551616 := MM.ofP_lt _ _
theorem ownW_bit (v p k i : Nat) : (ownW v p k).testBit i = (decide (i < 64) && (decide (i < k) && (rowN v p i != 0))) := MM.ofP_bit _ _ _
theorem ownW_zero (v p : Nat) : ownW v p 0 = 0 := MM.ext64 (ownW_lt _ _ _) (by omega) fun i _ => by rw [ownW_bit]; simp
theorem ownW_yes {v p k : Nat} (hk : k < 64) (h : (rowN v p k != 0) = true) : MM.withN (ownW v p k) k = ownW v p (k + 1) :=
 MM.ext64 (MM.withN_lt (ownW_lt _ _ _) _) (ownW_lt _ _ _) fun i hi => by
  rw [MM.withN_bit, ownW_bit, ownW_bit]
  by_cases e : i = k
  ·subst e
   rw [h]
   simp [hi]
  ·have h1 : decide ((k : Int) = (i : Int) ∧ i < 64) = false := by simp; omega
   have h2 : decide (i < k + 1) = decide (i < k) := by rw [Bool.eq_iff_iff]; simp; omega
   rw [h1, h2]; simp
theorem ownW_no {v p k : Nat} (h : (rowN v p k != 0) = false) : ownW v p k = ownW v p (k + 1) :=
 MM.ext64 (ownW_lt _ _ _) (ownW_lt _ _ _) fun i hi => by
  rw [ownW_bit, ownW_bit]
  by_cases e : i = k
  ·subst e
   rw [h]; simp
  ·have h2 : decide (i < k + 1) = decide (i < k) := by rw [Bool.eq_iff_iff]; simp; omega
   rw [h2]
theorem row_ne {v p o : Nat} (hp : p ≤ 8) : (rowN v p o != 0) = (List.range p).any fun x => ob v o x := by
 rw [Bool.eq_iff_iff, List.any_eq_true, bne_iff_ne]
 constructor
 ·intro h
  apply Decidable.byContradiction
  intro hn
  apply h
  refine MM.ext64 (rowN_lt _ _ _) (by omega) fun x hx => ?_
  rw [rowN_bit _ _ _ _ hp, Nat.zero_testBit]
  cases h1 : ob v o x with
  | false => simp
  | true =>
    have : ¬ x < p := fun h2 => hn ⟨x, List.mem_range.2 h2, h1⟩
    simp [this]
 ·rintro ⟨x, h1, h2⟩ h0
  have := congrArg (·.testBit x) h0
  simp only [rowN_bit _ _ _ _ hp, h2, List.mem_range.1 h1, decide_true, Bool.and_self, Nat.zero_testBit] at this
  cases this
theorem ownW_end (v p : Nat) (hp : p ≤ 8) : ownW v p p = MM.ofP (fun o => decide (o < p) && (List.range p).any fun x => ob v o x) 64 :=
 MM.ext64 (ownW_lt _ _ _) (MM.ofP_lt _ _) fun i hi => by
  rw [ownW_bit, MM.ofP_bit, row_ne hp]
theorem gowners_any (n : Int) (l : List Nat) (hl : RW l) (v : Nat) (hv : v < 18446744073709551616) (w : World) :
 Calls Tryz.prog 150 #[.agg (rv n l), .int .u64 (v : Int)] w fun e w' => e = .returned (.int .u64 ((gOwners n l v : Nat) : Int)) ∧ Below w.heap.size w w' := by
 have hr1 := RelAt.new w n l
 have hb : Below w.heap.size w (w.alloc (.cells (rv n l) 62)) := (zB _ _).alloc (zL _) _
 have HR : Hid (∀ w, Calls Tryz.prog 125 #[.agg (rv n l)] w fun e w' => e = .returned (.bool (rightB n l)) ∧ Below w.heap.size w w') := gright_any n l hl
 have HB := zh hb; clear hb
 cases hri : rightB n l with
 | false =>
   have hz : gOwners n l v = 0 := by unfold gOwners; rw [hri]; rfl
   rw [hz]
   rw [hri] at HR
   clear hri hz
   go_enter Tryz.func150, Tryz.ntmps150
   go_wp2_with (refine wpList_loadRel rfl _ rfl w.heap.size rfl n l hl hr1 ?_)
   refine (HR.out _).mono ?_
   rintro e w1 ⟨rfl, hb1⟩
   have HB1 := zh (HB.out.trans (hb1.mono HB.out.size)); clear hb1
   go_wp2_with fail
   go_ret
   exact ⟨rfl, HB1.out⟩
 | true =>
   obtain ⟨p, h1, hp, rfl, hpp, _⟩ := right_has hri
   have hz : gOwners (p : Int) l v = ownW v p p := by unfold gOwners; rw [hri, hpp, if_pos rfl, ownW_end _ _ hp]
   rw [hz]
   rw [hri] at HR
   clear hri hz hpp
   have HZ : Hid (ownW v p 0 = 0) := ownW_zero v p
   go_enter Tryz.func150, Tryz.ntmps150
   go_wp2_with (refine wpList_loadRel rfl _ rfl w.heap.size rfl (p : Int) l hl hr1 ?_)
   refine (HR.out _).mono ?_
   rintro e w1 ⟨rfl, hb1⟩
   have r1 := hr1.below hb1 hr1.lt
   have hc1 := r1.cell0
   have HB1 := zh (HB.out.trans (hb1.mono HB.out.size)); clear hb1 HB
   go_wp2_with fail
   clear hc1
   go_loopw [5, 6, 12] (fun qv _ kv wr => ∃ k : Nat, k ≤ p ∧ kv = .int .i64 k ∧ qv = .int .u64 ((ownW v p k : Nat) : Int) ∧ RelAt wr w.heap.size (p : Int) l ∧ Hid (Below w.heap.size w wr)) (fun _ _ kv _ => p - (intOf kv).toNat)
   case atStart => exact ⟨0, by omega, rfl, by rw [HZ.out]; rfl, r1, HB1⟩
   case round =>
    clear r1 HB1 HZ
    obtain ⟨k, hk, rfl, rfl, rr, HB⟩ := hrel
    by_cases hlt : k < p
    ·have hq := ownW_lt v p k
     have HY : Hid ((rowN v p k != 0) = true → MM.withN (ownW v p k) k = ownW v p (k + 1)) := fun h => ownW_yes (by omega) h
     have HN : Hid ((rowN v p k != 0) = false → ownW v p k = ownW v p (k + 1)) := fun h => ownW_no h
     have hro := grow_any p l hp v hv k hlt wr
     have HRO := zh hro; clear hro
     generalize ownW v p k = q at *
     generalize rowN v p k = x at *
     go_wp2_with (refine wpList_loadRel rfl _ rfl w.heap.size rfl (p : Int) l hl rr ?_)
     refine HRO.out.mono ?_
     rintro e w2 ⟨rfl, hb2⟩
     have r2 := rr.below hb2 rr.lt
     have HB2 := zh (HB.out.trans (hb2.mono HB.out.size)); clear hb2 rr HB
     cases hx : (x != 0) with
     | true =>
       have hx2 : ((x : Int) != 0) = true := by rw [bne_iff_ne] at hx ⊢; omega
       have HW := zh (HY.out hx); clear hx HY HN
       go_wp2_with (go_at_call 175; refine (with_any q hq _ _).mono ?_; rintro e w' ⟨rfl, rfl⟩)
       go_roundw
       case rel => exact ⟨k + 1, by omega, by go_num, by rw [HW.out], r2, HB2⟩
       case measure => simp [intOf]; omega
     | false =>
       have hx2 : ((x : Int) != 0) = false := by
        have : x = 0 := by simpa using hx
        rw [this]; rfl
       have HW := zh (HN.out hx); clear hx HY HN
       go_wp2_with fail
       go_roundw
       case rel => exact ⟨k + 1, by omega, by go_num, by rw [HW.out], r2, HB2⟩
       case measure => simp [intOf]; omega
    ·have e : k = p := by omega
     subst e
     go_wp2_with fail
     go_ret
     exact ⟨rfl, HB.out⟩
end
namespace RG
def okR (n k : Int) : Bool := decide (0 ≤ k ∧ k < n ∧ n ≤ 64)
def wR (n k : Int) : Nat := if okR n k = true then MM.belowN k else 0
theorem rbelowN_lt (k : Int) : MM.belowN k < 18446744073709551616 := MM.ofP_lt _ _
theorem wR_lt (n k : Int) : wR n k < 18446744073709551616 := by
 unfold wR; split
 ·exact rbelowN_lt k
 ·omega
theorem wR_in {n k : Int} (h : okR n k = true) : wR n k = MM.belowN k := if_pos h
theorem wR_out {n k : Int} (h : okR n k = false) : wR n k = 0 := if_neg (by simp [h])
theorem ok_iff {n k : Int} : okR n k = true ↔ 0 ≤ k ∧ k < n ∧ n ≤ 64 := by simp [okR]
theorem no_iff {n k : Int} : okR n k = false ↔ ¬ (0 ≤ k ∧ k < n ∧ n ≤ 64) := by simp [okR]
theorem filter_len (k : Nat) : ∀ m, ((List.range m).filter fun i => decide (i < k)).length = min m k
 | 0 => by simp
 | m + 1 => by
   rw [List.range_succ, List.filter_append, zA7, filter_len k m]
   by_cases h : m < k
   ·simp [h]; omega
   ·simp [h]; omega
def rcnt (w : Nat) : Nat := (MM.els w).length
theorem cnt_below (k : Nat) (hk : k ≤ 64) : rcnt (MM.belowN k) = k := by
 have h : MM.els (MM.belowN k) = (List.range 64).filter fun i => decide (i < k) := by
  unfold MM.belowN
  rw [MM.els_ofP]
  refine List.filter_congr fun i _ => ?_
  rw [decide_eq_decide]
  omega
 unfold rcnt
 rw [h, filter_len]
 omega
def lvB (n : Int) (w : Nat) : Bool := okR n (rcnt w) && decide (MM.belowN (rcnt w) = w)
def lv (n : Int) (w : Nat) : Int := if lvB n w = true then (rcnt w : Int) else 0
theorem lv_in {n : Int} {w : Nat} (h : lvB n w = true) : lv n w = rcnt w := if_pos h
theorem lv_out {n : Int} {w : Nat} (h : lvB n w = false) : lv n w = 0 := if_neg (by simp [h])
theorem lv_of {n : Int} {w k : Nat} (h : okR n k = true) (hw : MM.belowN k = w) : lvB n w = true ∧ rcnt w = k := by
 have hk := ok_iff.1 h
 have hc : rcnt w = k := by rw [← hw]; exact cnt_below k (by omega)
 refine ⟨?_, hc⟩
 unfold lvB
 rw [hc, h, hw]; simp
end RG
section
open Go.RowKit
theorem rungWord_any (n k : Int) (w : World) :
 Calls Tryz.prog 167 #[.int .i64 n, .int .i64 k] w fun e w' => e = .returned (.tuple #[.int .u64 (RG.wR n k : Int), .bool (RG.okR n k)]) ∧ w = w' := by
 cases hb : RG.okR n k with
 | true =>
   rw [RG.wR_in hb]
   obtain ⟨h1, h2, h3⟩ := RG.ok_iff.1 hb
   clear hb
   go_enter Tryz.func167, Tryz.ntmps167
   go_wp2_with (go_at_call 98; refine (below_any _ _).mono ?_; rintro e w' ⟨rfl, rfl⟩)
   go_ret2
   exact ⟨rfl, rfl⟩
 | false =>
   rw [RG.wR_out hb]
   have h := RG.no_iff.1 hb
   clear hb
   by_cases h1 : n > 64
   ·clear h
    go_enter Tryz.func167, Tryz.ntmps167
    go_wp2
    go_ret2
    exact ⟨rfl, rfl⟩
   ·by_cases h2 : k < 0
    ·clear h
     go_enter Tryz.func167, Tryz.ntmps167
     go_wp2
     go_ret2
     exact ⟨rfl, rfl⟩
    ·have h3 : n ≤ k := by omega
     clear h
     go_enter Tryz.func167, Tryz.ntmps167
     go_wp2
     go_ret2
     exact ⟨rfl, rfl⟩
theorem rungLevel_any (n : Int) (s : Nat) (hs : s < 18446744073709551616) (w : World) :
 Calls Tryz.prog 127 #[.int .i64 n, .int .u64 s] w fun e w' => e = .returned (.tuple #[.int .i64 (RG.lv n s), .bool (RG.lvB n s)]) ∧ w = w' := by
 go_enter Tryz.func127, Tryz.ntmps127
 go_wp2
 go_loop [6, 7, 10] (fun cv xv kv => ∃ k c : Nat, k ≤ 64 ∧ c ≤ 64 ∧ kv = .int .i64 k ∧ cv = .int .i64 c ∧ Hid (c = (MM.elsTo s k).length)) (fun _ _ kv => 64 - (intOf kv).toNat)
 case atStart => exact ⟨0, 0, by omega, by omega, rfl, rfl, by show 0 = (MM.elsTo s 0).length; rfl⟩
 case round =>
  obtain ⟨k, c, hk, hc, rfl, rfl, HC⟩ := hrel
  by_cases hlt : k < 64
  ·have hh := MM.hasN_in s k hlt
   have hs1 := MM.elsTo_succ s k
   have hle := MM.elsTo_length s (k + 1)
   have hcv := HC.out
   cases ht : s.testBit k with
   | true =>
     have hh2 : MM.hasN s k = true := hh.trans ht
     rw [ht] at hs1
     have hc1 : c + 1 = (MM.elsTo s (k + 1)).length := by rw [hs1, hcv]; simp
     have hc2 : c + 1 ≤ 64 := by omega
     have H1 := zh hc1
     clear hs1 hle hcv hh ht hc1
     go_wp2_with (go_at_call 166; refine (has_any s hs _ _).mono ?_; rintro e w' ⟨rfl, rfl⟩)
     go_round
     case rel => exact ⟨k + 1, c + 1, by omega, by omega, by go_num, by go_num, H1⟩
     case measure => simp [intOf]; omega
   | false =>
     have hh2 : MM.hasN s k = false := hh.trans ht
     rw [ht] at hs1
     have hc1 : c = (MM.elsTo s (k + 1)).length := by rw [hs1, hcv]; simp
     have H1 := zh hc1
     clear hs1 hle hcv hh ht hc1
     go_wp2_with (go_at_call 166; refine (has_any s hs _ _).mono ?_; rintro e w' ⟨rfl, rfl⟩)
     go_round
     case rel => exact ⟨k + 1, c, by omega, by omega, by go_num, by go_num, H1⟩
     case measure => simp [intOf]; omega
  ·have e : k = 64 := by omega
   subst e
   have hcv : c = RG.rcnt s := by rw [HC.out, MM.elsTo_64]; rfl
   have hwl := RG.wR_lt n c
   cases hok : RG.okR n c with
   | false =>
     have hl : RG.lvB n s = false := by unfold RG.lvB; rw [← hcv, hok]; rfl
     have HL := zh hl
     clear hl hcv HC
     go_wp2_with (go_at_call 167; refine (rungWord_any _ _ _).mono ?_; rintro e w' ⟨rfl, rfl⟩)
     go_ret2
     exact ⟨by rw [RG.lv_out HL.out, HL.out]; rfl, rfl⟩
   | true =>
     by_cases hw : MM.belowN c = s
     ·have hl := (RG.lv_of hok hw).1
      have hw2 : RG.wR n c = s := (RG.wR_in hok).trans hw
      have HL := zh hl
      have HV := zh hcv
      clear hl hcv HC hw
      go_wp2_with (go_at_call 167; refine (rungWord_any _ _ _).mono ?_; rintro e w' ⟨rfl, rfl⟩)
      go_ret2
      exact ⟨by rw [RG.lv_in HL.out, HL.out, ← HV.out]; rfl, rfl⟩
     ·have hl : RG.lvB n s = false := by unfold RG.lvB; rw [← hcv, hok]; simp [hw]
      have hw2 : ¬ RG.wR n c = s := by rw [RG.wR_in hok]; exact hw
      have hw3 : ¬ ((RG.wR n c : Nat) : Int) = ((s : Nat) : Int) := by omega
      have HL := zh hl
      clear hl hcv HC hw
      go_wp2_with (go_at_call 167; refine (rungWord_any _ _ _).mono ?_; rintro e w' ⟨rfl, rfl⟩)
      go_ret2
      exact ⟨by rw [RG.lv_out HL.out, HL.out]; rfl, rfl⟩
theorem rungRight_any (n : Int) (s : Nat) (hs : s < 18446744073709551616) (w : World) :
 Calls Tryz.prog 97 #[.int .i64 n, .int .u64 s] w fun e w' => e = .returned (.bool (RG.lvB n s)) ∧ w = w' := by
 go_enter Tryz.func97, Tryz.ntmps97
 go_wp2_with (go_at_call 127; refine (rungLevel_any n s hs _).mono ?_; rintro e w' ⟨rfl, rfl⟩)
 go_ret
 exact ⟨rfl, rfl⟩
end
end Go.Proofs.YtnfndapgcpdcpaaGreatDoor
