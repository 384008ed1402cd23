/-
  What Right, Out and follows of layer 5's reference return. Conditions: 64 words below 2^64; for Out and follows at most 8 principals, and theirs.
-/
import Derived.Test.YtpgkcddhpeoiiaaGreatDoorGridP
import Derived.Test.YtpgkcddhpeoiiaaGreatDoorBaseT
namespace Go.Proofs.YtpgkcddhpeoiiaaGreatDoor
open Go.RowKit RM

set_option maxRecDepth 8000 in
theorem qright_any (n : Int) (l : List Nat) (hl : RW l) (w : World) :
    Calls Tryz.prog 57 #[.agg (rv n l)] w fun e w' => e = .returned (.bool (rightB n l)) ∧ Below w.heap.size w w' := by
  have hr1 := RelAt.new w n l
  have hc0 := hr1.cell0
  have hb : Below w.heap.size w (w.alloc (.cells (rv n l) 44)) := (Below.refl _ _).alloc (Nat.le_refl _) _
  have HB := Lib.hid hb; clear hb
  by_cases h1 : n < 1
  · rw [right_no (.inl h1)]
    go_enter Tryz.func57, Tryz.ntmps57
    go_wp2_with fail
    go_ret
    exact ⟨rfl, HB.out⟩
  · by_cases h2 : 8 < n
    · rw [right_no (.inr (.inl h2))]
      have h3 : 1 ≤ n := by omega
      have h4 : decide (n ≤ 8) = false := by simp; omega
      go_enter Tryz.func57, Tryz.ntmps57
      go_wp2_with fail
      go_ret
      exact ⟨rfl, HB.out⟩
    · rw [right_in (by omega) (by omega)]
      have HC : Hid (∀ w, Calls Tryz.prog 96 #[.agg (rv n l)] w fun e w' => e = .returned (.bool (closedB n l)) ∧ Below w.heap.size w w') := qclosed_any n l hl
      generalize closedB n l = b at *
      have h3 : 1 ≤ n := by omega
      have h4 : n ≤ 8 := by omega
      go_enter Tryz.func57, Tryz.ntmps57
      go_wp2_with (refine wpList_loadRel rfl _ rfl w.heap.size rfl n l hl hr1 ?_)
      refine (HC.out _).mono ?_
      rintro e w1 ⟨rfl, hb1⟩
      have HB1 := Lib.hid (HB.out.trans (hb1.mono (by simp))); clear hb1
      go_wp2_with fail
      go_ret
      exact ⟨by cases b <;> rfl, HB1.out⟩

set_option maxRecDepth 8000 in
theorem qout_any (p : Nat) (l : List Nat) (hp : p ≤ 8) (v : Nat) (hv : v < 18446744073709551616) (o x : Nat) (ho : o < p) (hx : x < p) (w : World) :
    Calls Tryz.prog 132 #[.agg (rv (p : Int) l), .int .u64 (v : Int), .int .i64 (o : Int), .int .i64 (x : Int)] w fun e w' => e = .returned (.bool (ob v o x)) ∧ Below w.heap.size w w' := by
  have hr1 := RelAt.new w (p : Int) l
  have hc0 := hr1.cell0
  have hb : Below w.heap.size w (w.alloc (.cells (rv (p : Int) l) 44)) := (Below.refl _ _).alloc (Nat.le_refl _) _
  have HB := Lib.hid hb; clear hb
  have h0 : (0 : Int) ≤ (o : Int) := by omega
  have h1 : (0 : Int) ≤ (x : Int) := by omega
  have h2 : (o : Int) < (p : Int) := by omega
  have h3 : (x : Int) < (p : Int) := by omega
  have hh : MM.hasN v (8 * (o : Int) + (x : Int)) = ob v o x := by
    have := MM.hasN_in v (8 * o + x) (by omega)
    rw [show (8 * (o : Int) + (x : Int)) = ((8 * o + x : Nat) : Int) by omega, this]; rfl
  rw [← hh]
  have hw1 : IntKind.i64.wrap (8 * (o : Int)) = 8 * (o : Int) := IntWalk.i64_in _ ⟨by omega, by omega⟩
  have hw2 : IntKind.i64.wrap (8 * (o : Int) + (x : Int)) = 8 * (o : Int) + (x : Int) := IntWalk.i64_in _ ⟨by omega, by omega⟩
  clear hh
  go_enter Tryz.func132, Tryz.ntmps132
  go_wp2_with (go_at_call 81; refine (refHas_any v hv _ _).mono ?_; rintro e w' ⟨rfl, rfl⟩)
  go_ret
  exact ⟨rfl, HB.out⟩

set_option maxRecDepth 8000 in
theorem hasR_bt {p : Nat} {l : List Nat} (hpp : pts (p : Int) = p) {a b : Nat} (ha : a < p) (hb : b < p) : hasR (p : Int) l (a : Int) (b : Int) = bt l a b := by
  rw [hasR_in (by rw [hpp]; exact ha) (by rw [hpp]; exact hb)]; rfl
set_option maxRecDepth 8000 in
theorem clP_yes {p : Nat} {S W : Nat → Nat → Bool} {o x q y : Nat} (hq : q < p) (hy : y < p) (h1 : W q y = true) (h2 : S o q = true) (h3 : S x y = true) : clP p S W o x = true := clP_iff.2 ⟨q, y, hq, hy, h1, h2, h3⟩
set_option maxRecDepth 8000 in
theorem clP_no {p : Nat} {S W : Nat → Nat → Bool} {o x : Nat} (h : ∀ q, q < p → ∀ y, y < p → (W q y && S o q && S x y) = false) : clP p S W o x = false := by
  rw [Bool.eq_false_iff]
  intro h1
  obtain ⟨q, y, hq, hy, h2, h3, h4⟩ := clP_iff.1 h1
  have := h q hq y hy
  rw [h2, h3, h4] at this
  cases this
set_option maxRecDepth 8000 in
set_option maxHeartbeats 1000000 in
theorem qfollows_any (p : Nat) (l : List Nat) (hl : RW l) (hp : p ≤ 8) (hpp : pts (p : Int) = p) (v : Nat) (hv : v < 18446744073709551616) (o x : Nat) (ho : o < p) (hx : x < p) (w : World) :
    Calls Tryz.prog 114 #[.agg (rv (p : Int) l), .int .u64 (v : Int), .int .i64 (o : Int), .int .i64 (x : Int)] w fun e w' => e = .returned (.bool (clP p (bt l) (ob v) o x)) ∧ Below w.heap.size w w' := by
  have hr1 := RelAt.new w (p : Int) l
  have hb : Below w.heap.size w (w.alloc (.cells (rv (p : Int) l) 44)) := (Below.refl _ _).alloc (Nat.le_refl _) _
  have HB0 := Lib.hid hb; clear hb
  have HOUT : Hid (∀ q y : Nat, q < p → y < p → ∀ w, Calls Tryz.prog 132 #[.agg (rv (p : Int) l), .int .u64 (v : Int), .int .i64 (q : Int), .int .i64 (y : Int)] w fun e w' => e = .returned (.bool (ob v q y)) ∧ Below w.heap.size w w') := fun q y h1 h2 w => qout_any p l hp v hv q y h1 h2 w
  have HHAS : Hid (∀ a b : Nat, a < p → b < p → ∀ w, Calls Tryz.prog 64 #[.agg (rv (p : Int) l), .int .i64 (a : Int), .int .i64 (b : Int)] w fun e w' => e = .returned (.bool (bt l a b)) ∧ Below w.heap.size w w') := fun a b h1 h2 w => by
    have h := qhas_any (p : Int) l hl (a : Int) (b : Int) w
    rw [hasR_bt hpp h1 h2] at h; exact h
  have HY : Hid (∀ q y : Nat, q < p → y < p → ob v q y = true → bt l o q = true → bt l x y = true → clP p (bt l) (ob v) o x = true) := fun q y h1 h2 h3 h4 h5 => clP_yes h1 h2 h3 h4 h5
  have HN : Hid ((∀ q, q < p → ∀ y, y < p → (ob v q y && bt l o q && bt l x y) = false) → clP p (bt l) (ob v) o x = false) := clP_no
  generalize clP p (bt l) (ob v) o x = res at *
  go_enter Tryz.func114, Tryz.ntmps114
  go_wp2_with fail
  go_loopw [9, 10] (fun kv _ wr => ∃ k : Nat, k ≤ p ∧ kv = .int .i64 k ∧ RelAt wr w.heap.size (p : Int) l ∧ Hid (Below w.heap.size w wr) ∧ Hid (∀ q, q < k → ∀ y, y < p → (ob v q y && bt l o q && bt l x y) = false)) (fun kv _ _ => p - (intOf kv).toNat)
  case atStart => exact ⟨0, by omega, rfl, hr1, HB0, fun q hq => by omega⟩
  case round =>
    clear hr1 HB0
    obtain ⟨k, hk, rfl, rr, HB, HM⟩ := hrel
    have hc0 := rr.cell0
    by_cases hlt : k < p
    · go_wp2_with fail
      clear hc0
      obtain ⟨wo, rfl⟩ : ∃ wo : World, wo = wr := ⟨_, rfl⟩
      go_loopw [10] (fun jv wr => ∃ j : Nat, j ≤ p ∧ jv = .int .i64 j ∧ RelAt wr w.heap.size (p : Int) l ∧ Hid (Below w.heap.size w wr) ∧ Hid (∀ y, y < j → (ob v k y && bt l o k && bt l x y) = false)) (fun jv _ => p - (intOf jv).toNat)
      case atStart => exact ⟨0, by omega, rfl, rr, HB, fun y hy => by omega⟩
      case round =>
        clear rr HB
        obtain ⟨j, hj, rfl, rr, HB, HJ⟩ := hrel
        have hc0 := rr.cell0
        by_cases hlt2 : j < p
        · have HYY := Lib.hid (HY.out k j hlt hlt2)
          have HJ2 : Hid ((ob v k j && bt l o k && bt l x j) = false → ∀ y, y < j + 1 → (ob v k y && bt l o k && bt l x y) = false) := fun h y hy => by
            rcases Nat.lt_or_ge y j with h2 | h2
            · exact HJ.out y h2
            · have : y = j := by omega
              subst this; exact h
          have HO1 := Lib.hid (HOUT.out k j hlt hlt2)
          have HO2 := Lib.hid (HHAS.out o k ho hlt)
          have HO3 := Lib.hid (HHAS.out x j hx hlt2)
          generalize ob v k j = b1 at *
          generalize bt l o k = b2 at *
          generalize bt l x j = b3 at *
          go_wp2_with (refine wpList_loadRel rfl _ rfl w.heap.size rfl _ l hl rr ?_)
          refine (HO1.out _).mono ?_
          rintro e w2 ⟨rfl, hb2⟩
          have r2 := rr.below hb2 rr.lt
          have HB2 := Lib.hid (HB.out.trans (hb2.mono HB.out.size)); clear hb2 rr HB hc0
          cases b1 with
          | false =>
            have HJ3 := Lib.hid (HJ2.out rfl)
            go_wp2_with fail
            go_roundw
            case rel => exact ⟨j + 1, by omega, by go_num, r2, HB2, HJ3⟩
            case measure => simp [intOf]; omega
          | true =>
            go_wp2_with (refine wpList_loadRel rfl _ rfl w.heap.size rfl _ l hl r2 ?_)
            refine (HO2.out _).mono ?_
            rintro e w3 ⟨rfl, hb3⟩
            have r3 := r2.below hb3 r2.lt
            have HB3 := Lib.hid (HB2.out.trans (hb3.mono HB2.out.size)); clear hb3 r2 HB2
            cases b2 with
            | false =>
              have HJ3 := Lib.hid (HJ2.out rfl)
              go_wp2_with fail
              go_roundw
              case rel => exact ⟨j + 1, by omega, by go_num, r3, HB3, HJ3⟩
              case measure => simp [intOf]; omega
            | true =>
              go_wp2_with (refine wpList_loadRel rfl _ rfl w.heap.size rfl _ l hl r3 ?_)
              refine (HO3.out _).mono ?_
              rintro e w4 ⟨rfl, hb4⟩
              have r4 := r3.below hb4 r3.lt
              have HB4 := Lib.hid (HB3.out.trans (hb4.mono HB3.out.size)); clear hb4 r3 HB3
              cases b3 with
              | false =>
                have HJ3 := Lib.hid (HJ2.out rfl)
                go_wp2_with fail
                go_roundw
                case rel => exact ⟨j + 1, by omega, by go_num, r4, HB4, HJ3⟩
                case measure => simp [intOf]; omega
              | true =>
                have hres := HYY.out (by simp) (by simp) (by simp)
                subst hres
                go_wp2_with fail
                go_ret
                exact ⟨rfl, HB4.out⟩
        · have e : j = p := by omega
          subst e
          have HM2 : Hid (∀ q, q < k + 1 → ∀ y, y < j → (ob v q y && bt l o q && bt l x y) = false) := fun q hq => by
            rcases Nat.lt_or_ge q k with h2 | h2
            · exact HM.out q h2
            · have : q = k := by omega
              subst this; exact HJ.out
          go_wp2_with fail
          go_roundw
          case rel => exact ⟨k + 1, by omega, by go_num, rr, HB, HM2⟩
          case measure => simp [intOf]; omega
    · have e : k = p := by omega
      subst e
      have hres := HN.out HM.out
      subst hres
      go_wp2_with fail
      go_ret
      exact ⟨rfl, HB.out⟩
end Go.Proofs.YtpgkcddhpeoiiaaGreatDoor

/-
  What Close and Top of layer 5's reference return. Conditions: 64 words below 2^64.
-/
namespace Go.Proofs.YtpgkcddhpeoiiaaGreatDoor
open Go.RowKit RM

set_option maxRecDepth 8000 in
theorem mkW_at {p : Nat} {P : Nat → Nat → Bool} (hp : p ≤ 8) {o x : Nat} (ho : o < p) (hx : x < p) : (mkW p P).testBit (8 * o + x) = P o x := ob_in hp ho hx
set_option maxRecDepth 8000 in
theorem mkW_off {p : Nat} {P : Nat → Nat → Bool} {t : Nat} (h : p ≤ t / 8 ∨ p ≤ t % 8) : (mkW p P).testBit t = false := by
  unfold mkW
  rw [MM.ofP_bit]
  rcases h with h | h
  · rw [show decide (t / 8 < p) = false by simp; omega]; simp
  · rw [show decide (t % 8 < p) = false by simp; omega]; simp
set_option maxRecDepth 8000 in
theorem mkW_row {p : Nat} {P : Nat → Nat → Bool} (hp : p ≤ 8) {o : Nat} : MM.elsTo (mkW p P) (8 * o + p) = MM.elsTo (mkW p P) (8 * (o + 1)) := by
  have := elsTo_skip (s := mkW p P) (a := 8 * o + p) (8 - p) (fun t h1 h2 => mkW_off (.inr (by omega)))
  rw [show 8 * o + p + (8 - p) = 8 * (o + 1) by omega] at this
  exact this.symm
set_option maxRecDepth 8000 in
theorem mkW_all {p : Nat} {P : Nat → Nat → Bool} (hp : p ≤ 8) : MM.elsTo (mkW p P) (8 * p) = MM.els (mkW p P) := elsTo_all (by omega) fun t h1 _ => mkW_off (.inl (by omega))

set_option maxRecDepth 8000 in
set_option maxHeartbeats 2000000 in
theorem qclose_any (n : Int) (l : List Nat) (hl : RW l) (v : Nat) (hv : v < 18446744073709551616) (w : World) :
    Calls Tryz.prog 78 #[.agg (rv n l), .int .u64 (v : Int)] w fun e w' => e = .returned (.int .u64 ((gClose n l v : Nat) : Int)) ∧ Below w.heap.size w w' := by
  have hr1 := RelAt.new w n l
  have hb : Below w.heap.size w (w.alloc (.cells (rv n l) 44)) := (Below.refl _ _).alloc (Nat.le_refl _) _
  have HR : Hid (∀ w, Calls Tryz.prog 57 #[.agg (rv n l)] w fun e w' => e = .returned (.bool (rightB n l)) ∧ Below w.heap.size w w') := qright_any n l hl
  have HB := Lib.hid hb; clear hb
  cases hri : rightB n l with
  | false =>
    have hz : gClose n l v = 0 := by unfold gClose; rw [hri]; rfl
    rw [hz]
    rw [hri] at HR
    clear hri hz
    go_enter Tryz.func78, Tryz.ntmps78
    go_wp2_with (refine wpList_loadRel rfl _ rfl w.heap.size rfl n l hl hr1 ?_)
    refine (HR.out _).mono ?_
    rintro e w1 ⟨rfl, hb1⟩
    have HB1 := Lib.hid (HB.out.trans (hb1.mono HB.out.size)); clear hb1
    go_wp2_with fail
    go_ret
    exact ⟨rfl, HB1.out⟩
  | true =>
    obtain ⟨p, h1, hp, rfl, hpp, _⟩ := right_has hri
    have hz : gClose (p : Int) l v = clW p (bt l) v := by unfold gClose; rw [hri, hpp]; rfl
    rw [hz]
    rw [hri] at HR
    clear hri hz
    have HF : Hid (∀ o x : Nat, o < p → x < p → ∀ w, Calls Tryz.prog 114 #[.agg (rv (p : Int) l), .int .u64 (v : Int), .int .i64 (o : Int), .int .i64 (x : Int)] w fun e w' => e = .returned (.bool (clP p (bt l) (ob v) o x)) ∧ Below w.heap.size w w') := fun o x h1 h2 w => qfollows_any p l hl hp hpp v hv o x h1 h2 w
    have HSY : Hid (∀ o x : Nat, o < p → x < p → clP p (bt l) (ob v) o x = true → MM.elsTo (clW p (bt l) v) (8 * o + (x + 1)) = MM.elsTo (clW p (bt l) v) (8 * o + x) ++ [8 * o + x]) := fun o x h1 h2 h => elsTo_yes ((mkW_at hp h1 h2).trans h)
    have HSN : Hid (∀ o x : Nat, o < p → x < p → clP p (bt l) (ob v) o x = false → MM.elsTo (clW p (bt l) v) (8 * o + (x + 1)) = MM.elsTo (clW p (bt l) v) (8 * o + x)) := fun o x h1 h2 h => elsTo_no ((mkW_at hp h1 h2).trans h)
    have HSR : Hid (∀ o, MM.elsTo (clW p (bt l) v) (8 * o + p) = MM.elsTo (clW p (bt l) v) (8 * (o + 1))) := fun o => mkW_row hp
    have HSE : Hid (MM.elsTo (clW p (bt l) v) (8 * p) = MM.els (clW p (bt l) v)) := mkW_all hp
    have HOE : Hid (MM.ofN (ei (MM.els (clW p (bt l) v))) = clW p (bt l) v) := ofN_ei (clW_lt _ _ _)
    generalize clW p (bt l) v = s at *
    generalize clP p (bt l) (ob v) = P at *
    go_enter Tryz.func78, Tryz.ntmps78
    go_wp2_with (refine wpList_loadRel rfl _ rfl w.heap.size rfl (p : Int) l hl hr1 ?_)
    refine (HR.out _).mono ?_
    rintro e w1 ⟨rfl, hb1⟩
    have r1 := hr1.below hb1 hr1.lt
    have HB1 := Lib.hid (HB.out.trans (hb1.mono HB.out.size)); clear hb1 HB
    go_wp2_with fail
    go_loopw [5, 6, 7] (fun lv iv _ wr => ∃ (i k c : Nat) (A : Option Addr), i ≤ p ∧ iv = .int .i64 i ∧ lv = .slice A k c ∧ Hid (k = (MM.elsTo s (8 * i)).length) ∧ k ≤ 64 ∧ Hid (OwnI wr w.heap.size A c (ei (MM.elsTo s (8 * i)))) ∧ RelAt wr w.heap.size (p : Int) l ∧ Hid (Below w.heap.size w wr)) (fun _ iv _ _ => p - (intOf iv).toNat)
    case atStart => exact ⟨0, 0, 0, none, by omega, rfl, rfl, rfl, by omega, World.ownsRow_nil _ _ _ _, r1, HB1⟩
    case round =>
      clear r1 HB1
      obtain ⟨i, k, c, A, hi, rfl, rfl, HK, hk, HO, rr, HB⟩ := hrel
      have hc0 := rr.cell0
      by_cases hlt : i < p
      · go_wp2_with fail
        clear hc0
        obtain ⟨wo, rfl⟩ : ∃ wo : World, wo = wr := ⟨_, rfl⟩
        go_loopw [5, 7] (fun lv jv wr => ∃ (j k c : Nat) (A : Option Addr), j ≤ p ∧ jv = .int .i64 j ∧ lv = .slice A k c ∧ Hid (k = (MM.elsTo s (8 * i + j)).length) ∧ k ≤ 64 ∧ Hid (OwnI wr w.heap.size A c (ei (MM.elsTo s (8 * i + j)))) ∧ RelAt wr w.heap.size (p : Int) l ∧ Hid (Below w.heap.size w wr)) (fun _ jv _ => p - (intOf jv).toNat)
        case atStart => exact ⟨0, k, c, A, by omega, rfl, rfl, HK, hk, HO, rr, HB⟩
        case round =>
          clear rr HB HK hk HO
          obtain ⟨j, k, c, A, hj, rfl, rfl, HK, hk, HO, rr, HB⟩ := hrel
          have hc0 := rr.cell0
          by_cases hlt2 : j < p
          · go_wp2_with (refine wpList_loadRel rfl _ rfl w.heap.size rfl _ l hl rr ?_)
            refine (HF.out i j hlt hlt2 _).mono ?_
            rintro e w4 ⟨rfl, hb4⟩
            have s1 := rr.below hb4 rr.lt
            have HO4 : Hid (OwnI w4 w.heap.size A c (ei (MM.elsTo s (8 * i + j)))) := own_below HO.out hb4 (Nat.le_refl _)
            have HB4 := Lib.hid (HB.out.trans (hb4.mono HB.out.size))
            clear rr HO HB hb4 hc0
            cases hbt : P i j with
            | false =>
              have HP := Lib.hid (HSN.out i j hlt hlt2 hbt)
              clear hbt
              go_wp2_with fail
              go_roundw
              case rel => exact ⟨j + 1, k, c, A, by omega, by go_num, rfl, by rw [HP.out]; exact HK, hk, by rw [HP.out]; exact HO4, s1, HB4⟩
              case measure => simp [intOf]; omega
            | true =>
              have HP := Lib.hid (HSY.out i j hlt hlt2 hbt)
              have hlen := elsTo_le64 s (8 * i + (j + 1)) (by omega)
              have HEV : Hid (8 * (i : Int) + (j : Int) = ((8 * i + j : Nat) : Int)) := by show _ = _; omega
              have hw1 : IntKind.i64.wrap (8 * (i : Int)) = 8 * (i : Int) := IntWalk.i64_in _ ⟨by omega, by omega⟩
              have hw2 : IntKind.i64.wrap (8 * (i : Int) + (j : Int)) = 8 * (i : Int) + (j : Int) := IntWalk.i64_in _ ⟨by omega, by omega⟩
              clear hbt
              have hown' : w4.ownsRow w.heap.size 3 1 (.slice A k c) k (cells (ei (MM.elsTo s (8 * i + j)))) := by
                have h4 := HO4.out
                unfold OwnI at h4
                rw [ei_length, ← HK.out] at h4
                exact h4
              have hbs := HB4.out.size
              have N1 := Lib.hid (own_block hown' s1 (by decide))
              have HLEN := Lib.hid hlen; clear hlen HO4
              go_wp2_with (at_builtin; refine wpList_more _ rfl _ _ 76 rfl 3 (.int .i64 0) 1 8 Tryz.underlying76 infoInt rfl (by decide) (by decide) w.heap.size A k c (cells (ei (MM.elsTo s (8 * i + j)))) rfl (hown'.alloc _) w4.heap.size 1 1 [.int .i64 (8 * (i : Int) + (j : Int))] rfl rfl (by decide) (one_new _ _ _) ?c1 ?c2 ?c3 ?_; (case c1 => simp [Value.oneCell']); (case c2 => omega); (case c3 => simp; omega); intro A2 c2 w5 hown2 hb5 hgr; have HGR := Lib.hid hgr; clear hgr)
              have t1 := RelAt.grown (s1.alloc (.cells #[.int .i64 (8 * (i : Int) + (j : Int))] 3)) HGR.out N1.out
              have HB5 := Lib.hid ((HB4.out.alloc hbs (.cells #[.int .i64 (8 * (i : Int) + (j : Int))] 3)).trans hb5)
              have HK5 : Hid (k + 1 = (MM.elsTo s (8 * i + (j + 1))).length) := by rw [HP.out, List.length_append, ← HK.out]; exact rfl
              have hk5 : k + 1 ≤ 64 := by have := HLEN.out; rw [← HK5.out] at this; omega
              have HO5 : Hid (OwnI w5 w.heap.size A2 c2 (ei (MM.elsTo s (8 * i + (j + 1))))) := by
                show OwnI w5 w.heap.size A2 c2 (ei (MM.elsTo s (8 * i + (j + 1))))
                unfold OwnI
                rw [HP.out, ei_snoc, cells_snoc, List.length_append, ei_length, ← HK.out, ← HEV.out]
                exact hown2
              clear hown2 hb5 hown' hbs s1 HB4 N1 HLEN
              go_wp2_with fail
              go_roundw
              case rel => exact ⟨j + 1, k + 1, c2, A2, by omega, by go_num, rfl, HK5, hk5, HO5, t1, HB5⟩
              case measure => simp [intOf]; omega
          · have e : j = p := by omega
            subst e
            have HRW := Lib.hid (HSR.out i)
            rw [HRW.out] at HK HO
            go_wp2_with fail
            go_roundw
            case rel => exact ⟨i + 1, k, c, A, by omega, by go_num, rfl, HK, hk, HO, rr, HB⟩
            case measure => simp [intOf]; omega
      · have e : i = p := by omega
        subst e
        rw [HSE.out] at HK HO
        have hof := fun w h => refOf_any A c (ei (MM.els s)) w (by rw [ei_length, ← HK.out]; omega) h
        rw [ei_length, ← HK.out, HOE.out] at hof
        have HOFF := Lib.hid hof; clear hof
        have HI := Lib.hid HO.out.ints
        go_wp2_with (go_at_call 65; refine (HOFF.out _ HI.out).mono ?_; rintro e w' ⟨rfl, rfl⟩)
        go_ret
        exact ⟨rfl, HB.out⟩
end Go.Proofs.YtpgkcddhpeoiiaaGreatDoor

/-
  What Top, Readers, Owners, Rule and Height of layer 5's reference return. Conditions: 64 words below 2^64.
-/
namespace Go.Proofs.YtpgkcddhpeoiiaaGreatDoor
open Go.RowKit RM

set_option maxRecDepth 8000 in
set_option maxHeartbeats 2000000 in
theorem qtop_any (n : Int) (l : List Nat) (hl : RW l) (w : World) :
    Calls Tryz.prog 37 #[.agg (rv n l)] w fun e w' => e = .returned (.int .u64 ((gTop n l : Nat) : Int)) ∧ Below w.heap.size w w' := by
  have hr1 := RelAt.new w n l
  have hb : Below w.heap.size w (w.alloc (.cells (rv n l) 44)) := (Below.refl _ _).alloc (Nat.le_refl _) _
  have HR : Hid (∀ w, Calls Tryz.prog 57 #[.agg (rv n l)] w fun e w' => e = .returned (.bool (rightB n l)) ∧ Below w.heap.size w w') := qright_any n l hl
  have HB := Lib.hid hb; clear hb
  cases hri : rightB n l with
  | false =>
    have hz : gTop n l = 0 := by unfold gTop; rw [hri]; rfl
    rw [hz]
    rw [hri] at HR
    clear hri hz
    have h0 : ((MM.ofN [] : Nat) : Int) = ((0 : Nat) : Int) := by rw [MM.ofN_nil]
    have H0 := Lib.hid h0; clear h0
    go_enter Tryz.func37, Tryz.ntmps37
    go_wp2_with fail
    go_loopw [3, 4, 5] (fun lv iv _ wr => lv = .slice none 0 0 ∧ iv = .int .i64 0 ∧ RelAt wr w.heap.size n l ∧ Hid (Below w.heap.size w wr)) (fun _ _ _ _ => 0)
    case atStart => exact ⟨rfl, rfl, hr1, HB⟩
    case round =>
      clear hr1 HB
      obtain ⟨rfl, rfl, rr, HB⟩ := hrel
      go_wp2_with (refine wpList_loadRel rfl _ rfl w.heap.size rfl n l hl rr ?_)
      refine (HR.out _).mono ?_
      rintro e w1 ⟨rfl, hb1⟩
      have HB1 := Lib.hid (HB.out.trans (hb1.mono HB.out.size)); clear hb1
      go_wp2_with fail
      refine (refOf_any none 0 [] _ (by simp) (Sl.nil _ _ _)).mono ?_
      rintro e w' ⟨rfl, rfl⟩
      rw [H0.out]
      go_wp2_with fail
      go_ret
      exact ⟨rfl, HB1.out⟩
  | true =>
    obtain ⟨p, h1, hp, rfl, hpp, _⟩ := right_has hri
    have hz : gTop (p : Int) l = mkW p (fun _ _ => true) := by unfold gTop; rw [hri, hpp]; rfl
    rw [hz]
    rw [hri] at HR
    clear hri hz
    have HSY : Hid (∀ o x : Nat, o < p → x < p → MM.elsTo (mkW p fun _ _ => true) (8 * o + (x + 1)) = MM.elsTo (mkW p fun _ _ => true) (8 * o + x) ++ [8 * o + x]) := fun o x h1 h2 => elsTo_yes (mkW_at hp h1 h2)
    have HSR : Hid (∀ o, MM.elsTo (mkW p fun _ _ => true) (8 * o + p) = MM.elsTo (mkW p fun _ _ => true) (8 * (o + 1))) := fun o => mkW_row hp
    have HSE : Hid (MM.elsTo (mkW p fun _ _ => true) (8 * p) = MM.els (mkW p fun _ _ => true)) := mkW_all hp
    have HOE : Hid (MM.ofN (ei (MM.els (mkW p fun _ _ => true))) = mkW p fun _ _ => true) := ofN_ei (mkW_lt _ _)
    generalize mkW p (fun _ _ => true) = s at *
    go_enter Tryz.func37, Tryz.ntmps37
    go_wp2_with fail
    go_loopw [3, 4, 5] (fun lv iv _ wr => ∃ (i k c : Nat) (A : Option Addr), i ≤ p ∧ iv = .int .i64 i ∧ lv = .slice A k c ∧ Hid (k = (MM.elsTo s (8 * i)).length) ∧ k ≤ 64 ∧ Hid (OwnI wr w.heap.size A c (ei (MM.elsTo s (8 * i)))) ∧ RelAt wr w.heap.size (p : Int) l ∧ Hid (Below w.heap.size w wr)) (fun _ iv _ _ => p - (intOf iv).toNat)
    case atStart => exact ⟨0, 0, 0, none, by omega, rfl, rfl, rfl, by omega, World.ownsRow_nil _ _ _ _, hr1, HB⟩
    case round =>
      clear hr1 HB
      obtain ⟨i, k, c, A, hi, rfl, rfl, HK, hk, HO, rr, HB⟩ := hrel
      go_wp2_with (refine wpList_loadRel rfl _ rfl w.heap.size rfl _ l hl rr ?_)
      refine (HR.out _).mono ?_
      rintro e w1 ⟨rfl, hb1⟩
      have r1 := rr.below hb1 rr.lt
      have hc0 := r1.cell0
      have HO1 : Hid (OwnI w1 w.heap.size A c (ei (MM.elsTo s (8 * i)))) := own_below HO.out hb1 (Nat.le_refl _)
      have HB1 := Lib.hid (HB.out.trans (hb1.mono HB.out.size))
      clear rr HO HB hb1
      by_cases hlt : i < p
      · go_wp2_with fail
        clear hc0
        obtain ⟨wo, rfl⟩ : ∃ wo : World, wo = w1 := ⟨_, rfl⟩
        go_loopw [3, 5] (fun lv jv wr => ∃ (j k c : Nat) (A : Option Addr), j ≤ p ∧ jv = .int .i64 j ∧ lv = .slice A k c ∧ Hid (k = (MM.elsTo s (8 * i + j)).length) ∧ k ≤ 64 ∧ Hid (OwnI wr w.heap.size A c (ei (MM.elsTo s (8 * i + j)))) ∧ RelAt wr w.heap.size (p : Int) l ∧ Hid (Below w.heap.size w wr)) (fun _ jv _ => p - (intOf jv).toNat)
        case atStart => exact ⟨0, k, c, A, by omega, rfl, rfl, HK, hk, HO1, r1, HB1⟩
        case round =>
          clear r1 HB1 HK hk HO1
          obtain ⟨j, k, c, A, hj, rfl, rfl, HK, hk, HO4, s1, HB4⟩ := hrel
          have hc0 := s1.cell0
          by_cases hlt2 : j < p
          · have HP := Lib.hid (HSY.out i j hlt hlt2)
            have hlen := elsTo_le64 s (8 * i + (j + 1)) (by omega)
            have HEV : Hid (8 * (i : Int) + (j : Int) = ((8 * i + j : Nat) : Int)) := by show _ = _; omega
            have hw1 : IntKind.i64.wrap (8 * (i : Int)) = 8 * (i : Int) := IntWalk.i64_in _ ⟨by omega, by omega⟩
            have hw2 : IntKind.i64.wrap (8 * (i : Int) + (j : Int)) = 8 * (i : Int) + (j : Int) := IntWalk.i64_in _ ⟨by omega, by omega⟩
            have hown' : wr.ownsRow w.heap.size 3 1 (.slice A k c) k (cells (ei (MM.elsTo s (8 * i + j)))) := by
              have h4 := HO4.out
              unfold OwnI at h4
              rw [ei_length, ← HK.out] at h4
              exact h4
            have hbs := HB4.out.size
            have N1 := Lib.hid (own_block hown' s1 (by decide))
            have HLEN := Lib.hid hlen; clear hlen HO4
            go_wp2_with (at_builtin; refine wpList_more _ rfl _ _ 76 rfl 3 (.int .i64 0) 1 8 Tryz.underlying76 infoInt rfl (by decide) (by decide) w.heap.size A k c (cells (ei (MM.elsTo s (8 * i + j)))) rfl (hown'.alloc _) wr.heap.size 1 1 [.int .i64 (8 * (i : Int) + (j : Int))] rfl rfl (by decide) (one_new _ _ _) ?c1 ?c2 ?c3 ?_; (case c1 => simp [Value.oneCell']); (case c2 => omega); (case c3 => simp; omega); intro A2 c2 w5 hown2 hb5 hgr; have HGR := Lib.hid hgr; clear hgr)
            have t1 := RelAt.grown (s1.alloc (.cells #[.int .i64 (8 * (i : Int) + (j : Int))] 3)) HGR.out N1.out
            have HB5 := Lib.hid ((HB4.out.alloc hbs (.cells #[.int .i64 (8 * (i : Int) + (j : Int))] 3)).trans hb5)
            have HK5 : Hid (k + 1 = (MM.elsTo s (8 * i + (j + 1))).length) := by rw [HP.out, List.length_append, ← HK.out]; exact rfl
            have hk5 : k + 1 ≤ 64 := by have := HLEN.out; rw [← HK5.out] at this; omega
            have HO5 : Hid (OwnI w5 w.heap.size A2 c2 (ei (MM.elsTo s (8 * i + (j + 1))))) := by
              show OwnI w5 w.heap.size A2 c2 (ei (MM.elsTo s (8 * i + (j + 1))))
              unfold OwnI
              rw [HP.out, ei_snoc, cells_snoc, List.length_append, ei_length, ← HK.out, ← HEV.out]
              exact hown2
            clear hown2 hb5 hown' hbs s1 HB4 N1 HLEN
            go_wp2_with fail
            go_roundw
            case rel => exact ⟨j + 1, k + 1, c2, A2, by omega, by go_num, rfl, HK5, hk5, HO5, t1, HB5⟩
            case measure => simp [intOf]; omega
          · have e : j = p := by omega
            subst e
            have HRW := Lib.hid (HSR.out i)
            rw [HRW.out] at HK HO4
            go_wp2_with fail
            go_roundw
            case rel => exact ⟨i + 1, k, c, A, by omega, by go_num, rfl, HK, hk, HO4, s1, HB4⟩
            case measure => simp [intOf]; omega
      · have e : i = p := by omega
        subst e
        rw [HSE.out] at HK HO1
        have hof := fun w h => refOf_any A c (ei (MM.els s)) w (by rw [ei_length, ← HK.out]; omega) h
        rw [ei_length, ← HK.out, HOE.out] at hof
        have HOFF := Lib.hid hof; clear hof
        have HI := Lib.hid HO1.out.ints
        go_wp2_with (go_at_call 65; refine (HOFF.out _ HI.out).mono ?_; rintro e w' ⟨rfl, rfl⟩)
        go_ret
        exact ⟨rfl, HB1.out⟩

set_option maxRecDepth 8000 in
theorem ofP_all {P : Nat → Bool} {p : Nat} (hp : p ≤ 64) : MM.elsTo (MM.ofP (fun x => decide (x < p) && P x) 64) p = MM.els (MM.ofP (fun x => decide (x < p) && P x) 64) :=
  elsTo_all hp fun t h1 _ => by rw [MM.ofP_bit, show decide (t < p) = false by simp; omega]; simp
set_option maxRecDepth 8000 in
theorem ofP_at {P : Nat → Bool} {p x : Nat} (hp : p ≤ 64) (hx : x < p) : (MM.ofP (fun x => decide (x < p) && P x) 64).testBit x = P x := by
  rw [MM.ofP_bit, show decide (x < 64) = true by simp; omega, show decide (x < p) = true by simp; omega]; rfl
end Go.Proofs.YtpgkcddhpeoiiaaGreatDoor

/-
  What Owners, Rule and Height of layer 5's reference return. Conditions: 64 words below 2^64.
-/
namespace Go.Proofs.YtpgkcddhpeoiiaaGreatDoor
open Go.RowKit RM

set_option maxRecDepth 8000 in
theorem readers_all {p : Nat} {v a : Nat} (hp : p ≤ 8) : ((MM.ofP (fun x => decide (x < p) && !ob v a x) 64 : Nat) == MM.belowN (p : Int)) = !((List.range p).any fun x => ob v a x) := by
  rw [Bool.eq_iff_iff, beq_iff_eq, Bool.not_eq_true', List.any_eq_false]
  constructor
  · intro h x hx
    have hx := List.mem_range.1 hx
    have := congrArg (·.testBit x) h
    simp only [ofP_at (show p ≤ 64 by omega) hx, belowN_bit] at this
    rw [show decide (x < 64) = true by simp; omega, show decide ((x : Int) < (p : Int)) = true by simp; omega] at this
    simpa using this
  · intro h
    refine MM.ext64 (MM.ofP_lt _ _) (belowN_lt _) fun x hx => ?_
    rw [MM.ofP_bit, belowN_bit]
    by_cases hxp : x < p
    · have := h x (List.mem_range.2 hxp)
      simp [hxp, hx]
      simpa using this
    · simp [hxp]
set_option maxRecDepth 8000 in
theorem qheight_any (n : Int) (l : List Nat) (hl : RW l) (w : World) :
    Calls Tryz.prog 41 #[.agg (rv n l)] w fun e w' => e = .returned (.int .i64 ((gHeight n l : Nat) : Int)) ∧ Below w.heap.size w w' := by
  have hr1 := RelAt.new w n l
  have hb : Below w.heap.size w (w.alloc (.cells (rv n l) 44)) := (Below.refl _ _).alloc (Nat.le_refl _) _
  have HR : Hid (∀ w, Calls Tryz.prog 57 #[.agg (rv n l)] w fun e w' => e = .returned (.bool (rightB n l)) ∧ Below w.heap.size w w') := qright_any n l hl
  have HK : Hid (∀ w, Calls Tryz.prog 72 #[.agg (rv n l)] w fun e w' => e = .returned (.int .i64 ((nCls (pts n) (clo (pts n) (bt l)) : Nat) : Int)) ∧ Below w.heap.size w w') := qclasses_any n l hl
  have hk := Nat.le_trans (nCls_le (pts n) (clo (pts n) (bt l))) (pts_le n)
  have HV : Hid (gHeight n l = if rightB n l then nCls (pts n) (clo (pts n) (bt l)) * nCls (pts n) (clo (pts n) (bt l)) else 0) := rfl
  have HB := Lib.hid hb; clear hb
  generalize nCls (pts n) (clo (pts n) (bt l)) = c at *
  generalize rightB n l = b at *
  generalize gHeight n l = res at *
  go_enter Tryz.func41, Tryz.ntmps41
  go_wp2_with (refine wpList_loadRel rfl _ rfl w.heap.size rfl n l hl hr1 ?_)
  refine (HR.out _).mono ?_
  rintro e w1 ⟨rfl, hb1⟩
  have r1 := hr1.below hb1 hr1.lt
  have HB1 := Lib.hid (HB.out.trans (hb1.mono HB.out.size)); clear hb1
  cases b with
  | false =>
    go_wp2_with fail
    go_ret
    exact ⟨by rw [HV.out]; rfl, HB1.out⟩
  | true =>
    have hcc : c * c ≤ 4096 := Nat.mul_le_mul hk hk
    have hw : IntKind.i64.wrap ((c : Int) * (c : Int)) = ((c * c : Nat) : Int) := by
      rw [show (c : Int) * (c : Int) = ((c * c : Nat) : Int) by simp]
      exact IntWalk.i64_in _ ⟨by omega, by omega⟩
    have HVC : Hid (((res : Nat) : Int) = ((c * c : Nat) : Int)) := by show _ = _; rw [HV.out]; rfl
    obtain ⟨S, HS, pb, keepS⟩ := ex_gen w1
    have pR := fun w' h => r1.below (pb w' h) r1.lt
    have PB : Hid (∀ w', S w' → Below w.heap.size w w') := fun w' h => HB1.out.trans ((pb w' h).mono HB1.out.size)
    clear pb
    go_wp2_with fail
    refine wp_region_ord S [(0, true), (2, true), (1, false), (3, false), (4, true), (5, true)] (by kernel_rfl) (by kernel_rfl) rfl (by kernel_rfl) HS.out ?_
    iterate 2
      (refine wpOrd_step (o := ?_) ?_ ?_; rotate_left 1; (simp only [List.getElem?_toArray, List.getElem?_cons_succ, List.getElem?_cons_zero]; with_reducible rfl))
      (first
          | (refine wpOrd_skip (by rfl) ?_)
          | (refine wpOrd_take (by rfl) (take_loadRel _ rfl _ rfl _ _ hl pR) ?_)
          | (refine wpOrd_take (v := ?_) (by rfl) ?_ ?_; rotate_left 1; (intro wx hSx; go_simp; try with_reducible rfl)))
      (try simp only [Act.put, List.setIfInBounds_toArray, List.set_cons_zero, List.set_cons_succ])
    (refine wpOrd_solo (o := ?_) ?_ ?_; rotate_left 1; (simp only [List.getElem?_toArray, List.getElem?_cons_succ, List.getElem?_cons_zero]; with_reducible rfl))
    intro K hK
    go_simp
    go_at_call 72
    refine (HK.out _).mono ?_
    rintro e w3 ⟨rfl, hb⟩
    have hS := keepS _ _ HS.out hb
    clear HS
    have HS := Lib.hid hS; clear hS hb
    refine hK.out _ _ HS.out ?_
    clear hK K
    (try simp only [Act.put, List.setIfInBounds_toArray, List.set_cons_zero, List.set_cons_succ])
    (refine wpOrd_solo (o := ?_) ?_ ?_; rotate_left 1; (simp only [List.getElem?_toArray, List.getElem?_cons_succ, List.getElem?_cons_zero]; with_reducible rfl))
    intro K hK
    go_simp
    go_at_call 72
    refine (HK.out _).mono ?_
    rintro e w4 ⟨rfl, hb⟩
    have hS := keepS _ _ HS.out hb
    clear HS
    have HS := Lib.hid hS; clear hS hb
    refine hK.out _ _ HS.out ?_
    clear hK K
    (try simp only [Act.put, List.setIfInBounds_toArray, List.set_cons_zero, List.set_cons_succ])
    iterate 2
      (refine wpOrd_step (o := ?_) ?_ ?_; rotate_left 1; (simp only [List.getElem?_toArray, List.getElem?_cons_succ, List.getElem?_cons_zero]; with_reducible rfl))
      (first
          | (refine wpOrd_skip (by rfl) ?_)
          | (refine wpOrd_take (v := ?_) (by rfl) ?_ ?_; rotate_left 1; (intro wx hSx; go_simp; try with_reducible rfl)))
      (try simp only [Act.put, List.setIfInBounds_toArray, List.set_cons_zero, List.set_cons_succ])
    refine wpOrd_done ?_
    have HB4 := Lib.hid (PB.out _ HS.out)
    clear pR PB HS keepS
    go_wp2_with fail
    go_ret
    exact ⟨ret_eq (int_eq (by rw [HVC.out]; simp)), HB4.out⟩
end Go.Proofs.YtpgkcddhpeoiiaaGreatDoor

/-
  What Rule of layer 5's reference returns. Conditions: 64 words below 2^64.
-/
namespace Go.Proofs.YtpgkcddhpeoiiaaGreatDoor
open Go.RowKit RM

set_option maxRecDepth 8000 in
theorem rdP_next (S : Nat → Nat → Bool) (t x j : Nat) : rdP (j + 1) S t x = (rdP j S t x || (t.testBit j && S j x)) := by
  unfold rdP
  rw [List.range_succ, List.any_append]
  simp
end Go.Proofs.YtpgkcddhpeoiiaaGreatDoor
