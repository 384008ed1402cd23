/- Texts that SpellNodeCard need. Conditions: those that each states. -/
import Derived.Test.YtkgonoejnochjaaGreatDoorRows
import Derived.Test.YtkgonoejnochjaaGreatDoorY17
import Derived.Test.YtkgonoejnochjaaGreatDoorY39
import Derived.Test.YtkgonoejnochjaaGreatDoorY42
set_option linter.unusedSimpArgs false
set_option linter.unusedVariables false
set_option maxRecDepth 8000
namespace Go.Proofs.YtkgonoejnochjaaGreatDoor
open Go.RowKit
section
variable {w w' : World} {B B' n size c : Nat} {A : Option Addr} {cs : List Value}
end
section
variable {w w' : World} {g : Nat} {t : TypeId} {v : Value}
end
end Go.Proofs.YtkgonoejnochjaaGreatDoor
namespace Go.Proofs.YtkgonoejnochjaaGreatDoor
namespace MM
end MM
end Go.Proofs.YtkgonoejnochjaaGreatDoor
namespace Go.Proofs.YtkgonoejnochjaaGreatDoor
open Go.RowKit
end Go.Proofs.YtkgonoejnochjaaGreatDoor
namespace Go.Proofs.YtkgonoejnochjaaGreatDoor
open Go.RowKit
end Go.Proofs.YtkgonoejnochjaaGreatDoor
namespace Go.Proofs.YtkgonoejnochjaaGreatDoor
open Go.RowKit
end Go.Proofs.YtkgonoejnochjaaGreatDoor
namespace Go.Proofs.YtkgonoejnochjaaGreatDoor
open Go.RowKit
set_option maxHeartbeats 800000 in
theorem refList_any (s : Nat) (hs : s < 18446744073709551616) (w : World) :
 Calls Tryz.prog 135 #[.int .u64 s] w fun e w' => ∃ A c, e = .returned (.slice A (MM.els s).length c) ∧ OwnI w' w.heap.size A c (ei (MM.els s)) ∧ Below w.heap.size w w' := by
 go_enter Tryz.func135, Tryz.ntmps135
 go_wp2
 go_loopw [0, 3, 4] (fun sv v iv wr => ∃ (i q : Nat) (A : Option Addr) (n c : Nat), i ≤ 64 ∧ iv = .int .i64 i ∧ sv = .int .u64 q ∧ q < 18446744073709551616 ∧ Hid (q = s / 2 ^ i) ∧ v = .slice A n c ∧ Hid (n = (MM.elsTo s i).length) ∧ n ≤ i ∧ OwnI wr w.heap.size A c (ei (MM.elsTo s i)) ∧ Below w.heap.size w wr) (fun _ _ iv _ => 64 - (intOf iv).toNat)
 case atStart => exact ⟨0, s, none, 0, 0, by omega, rfl, rfl, hs, by show s = s / 2 ^ 0; simp, rfl, rfl, by omega, World.ownsRow_nil _ _ _ _, Below.refl _ _⟩
 case round =>
  obtain ⟨i, q, A, n, c, hi, rfl, rfl, hq, HQ, rfl, HN, hni, hown, hb⟩ := hrel
  have hbs := hb.size
  by_cases hlt : i < 64
  ·cases ht : s.testBit i with
   | true =>
     have h2 : ((q : Int) % 2 == 1) = true := by
      have := (MM.half_bit s i).2 ht
      rw [← HQ.out] at this
      simp; omega
     have h3 : MM.elsTo s (i + 1) = MM.elsTo s i ++ [i] := by rw [MM.elsTo_succ, ht]; simp
     have H3 := Lib.hid h3; clear h3 ht
     have hown' : wr.ownsRow w.heap.size 3 1 (.slice A n c) n (cells (ei (MM.elsTo s i))) := by
      have h4 := hown
      unfold OwnI at h4
      rw [ei_length, ← HN.out] at h4
      exact h4
     clear hown
     go_wp2_with (at_builtin; refine wpList_more _ rfl _ _ 111 rfl 3 (.int .i64 0) 1 8 Tryz.underlying111 infoInt rfl (by decide) (by decide) w.heap.size A n c (cells (ei (MM.elsTo s i))) rfl (hown'.alloc _) wr.heap.size 1 1 [.int .i64 i] rfl rfl (by decide) (one_new _ _ _) ?c1 ?c2 ?c3 ?_; (case c1 => simp [Value.oneCell']); (case c2 => omega); (case c3 => simp; omega); intro A2 c2 w2 hown2 hb2 _)
     go_roundw
     case rel =>
      refine ⟨i + 1, q / 2, A2, n + 1, c2, by omega, by go_num, by go_num, by omega, halves s i q HQ.out, rfl, ?_, by omega, ?_, (hb.alloc hbs _).trans hb2⟩
      ·show n + 1 = _
       rw [H3.out, HN.out]; simp
      ·unfold OwnI
       rw [H3.out, ei_snoc, cells_snoc, List.length_append, ei_length, ← HN.out]
       exact hown2
     case measure => simp [intOf]; omega
   | false =>
     have h2 : ((q : Int) % 2 == 1) = false := by
      have := (MM.half_bit s i)
      rw [← HQ.out, ht] at this
      simp at this
      simp; omega
     have h3 : MM.elsTo s (i + 1) = MM.elsTo s i := by rw [MM.elsTo_succ, ht]; simp
     have H3 := Lib.hid h3; clear h3 ht
     go_wp2
     go_roundw
     case rel => exact ⟨i + 1, q / 2, A, n, c, by omega, by go_num, by go_num, by omega, halves s i q HQ.out, rfl, by show n = _; rw [H3.out, HN.out], by omega, by rw [H3.out]; exact hown, hb⟩
     case measure => simp [intOf]; omega
  ·have e : i = 64 := by omega
   subst e
   go_wp2
   go_ret
   exact ⟨A, c, ret_eq (by rw [HN.out]; rfl), hown, hb⟩
set_option maxHeartbeats 800000 in
theorem refSub_any (a b : Nat) (ha : a < 18446744073709551616) (hb : b < 18446744073709551616) (w : World) :
 Calls Tryz.prog 109 #[.int .u64 a, .int .u64 b] w fun e w' => e = .returned (.bool (MM.subN a b)) ∧ Below w.heap.size w w' := by
 have h64 := MM.els_length a
 go_enter Tryz.func109, Tryz.ntmps109
 go_wp2_with fail
 refine (refList_any a ha _).mono ?_
 rintro e w1 ⟨A, c, rfl, hown, hbw⟩
 have hi := hown.ints
 clear hown
 generalize hn : (MM.els a).length = n at *
 have HN := Lib.hid hn; clear hn
 have HI := Lib.hid hi; clear hi
 go_wp2_with fail
 go_loopw [6] (fun kv wr => ∃ k : Nat, k ≤ n ∧ kv = .int .i64 k ∧ wr = w1 ∧ Hid (∀ j, j < k → b.testBit ((MM.els a).getD j 0) = true)) (fun kv _ => n - (intOf kv).toNat)
 case atStart => exact ⟨0, by omega, rfl, rfl, fun j hj => by omega⟩
 case round =>
  obtain ⟨k, hk, rfl, rfl, HK⟩ := hrel
  by_cases hlt : k < n
  ·have hne : ei (MM.els a) ≠ [] := by intro h; have := congrArg List.length h; rw [ei_length, HN.out] at this; simp at this; omega
   obtain ⟨bk, off, rfl, hc⟩ := HI.out.cell hne
   have hck := hc k (by rw [ei_length, HN.out]; exact hlt)
   have hx : (ei (MM.els a)).getD k 0 = (((MM.els a).getD k 0 : Nat) : Int) := by
        have : k < (MM.els a).length := by rw [HN.out]; exact hlt
        simp [ei, List.getD_eq_getElem?_getD, List.getElem?_eq_getElem this]
   have h6 := MM.els_getD_lt a k
   rw [hx] at hck
   clear hc hx hne
   generalize hy : (MM.els a).getD k 0 = y at *
   have HY := Lib.hid hy; clear hy
   have hh := MM.hasN_in b y h6
   cases ht : b.testBit y with
   | true =>
     have hh2 : MM.hasN b y = true := hh.trans ht
     have HT := Lib.hid ht; clear ht hh
     go_wp2_with (go_at_call 65; refine (refHas_any b hb _ _).mono ?_; rintro e w' ⟨rfl, rfl⟩)
     go_roundw
     case rel =>
      refine ⟨k + 1, by omega, by go_num, trivial, ?_⟩
      show ∀ j, j < k + 1 → b.testBit ((MM.els a).getD j 0) = true
      intro j hj
      by_cases hjk : j = k
      ·subst hjk; rw [HY.out]; exact HT.out
      ·exact HK.out j (by omega)
     case measure => simp [intOf]; omega
   | false =>
     have hh2 : MM.hasN b y = false := hh.trans ht
     have hs : MM.subN a b = false := by
      unfold MM.subN
      rw [List.all_eq_false]
      have hl : k < (MM.els a).length := by rw [HN.out]; exact hlt
      refine ⟨y, ?_, by simp [ht]⟩
      rw [← HY.out, List.getD_eq_getElem?_getD, List.getElem?_eq_getElem hl]
      exact List.getElem_mem hl
     have HS := Lib.hid hs; clear hs
     have HT := Lib.hid ht; clear ht hh
     go_wp2_with (go_at_call 65; refine (refHas_any b hb _ _).mono ?_; rintro e w' ⟨rfl, rfl⟩)
     go_ret
     rw [HS.out]
     exact ⟨rfl, hbw⟩
  ·have e : k = n := by omega
   have hs : MM.subN a b = true := by
        unfold MM.subN
        rw [List.all_eq_true]
        intro x hx
        obtain ⟨j, hj, he⟩ := List.mem_iff_getElem.1 hx
        have := HK.out j (by rw [e, ← HN.out]; exact hj)
        rw [List.getD_eq_getElem?_getD, List.getElem?_eq_getElem hj] at this
        rw [← he]; exact this
   have HS := Lib.hid hs; clear hs
   go_wp2
   go_ret
   rw [HS.out]
   exact ⟨rfl, hbw⟩
end Go.Proofs.YtkgonoejnochjaaGreatDoor
namespace Go.Proofs.YtkgonoejnochjaaGreatDoor
open Go.RowKit
end Go.Proofs.YtkgonoejnochjaaGreatDoor
namespace Go.Proofs.YtkgonoejnochjaaGreatDoor.RG
theorem lv_none {n : Int} {w m : Nat} (hm : n ≤ m ∨ 64 ≤ m) (h : ∀ j, j < m → ¬ (okR n j = true ∧ MM.belowN j = w)) : lvB n w = false := by
 cases hb : lvB n w with
 | false => rfl
 | true =>
   unfold lvB at hb
   rw [Bool.and_eq_true, decide_eq_true_eq] at hb
   have h1 := ok_iff.1 hb.1
   exact absurd hb (h (rcnt w) (by omega))
end Go.Proofs.YtkgonoejnochjaaGreatDoor.RG
namespace Go.Proofs.YtkgonoejnochjaaGreatDoor
open Go.RowKit
set_option maxHeartbeats 800000 in
theorem refLevel_any (n : Int) (s : Nat) (w : World) :
 Calls Tryz.prog 68 #[.int .i64 n, .int .u64 s] w fun e w' => e = .returned (.tuple #[.int .i64 (RG.lv n s), .bool (RG.lvB n s)]) ∧ Below w.heap.size w w' := by
 go_enter Tryz.func68, Tryz.ntmps68
 go_wp2
 go_loopw [6] (fun kv wr => ∃ k : Nat, k ≤ 64 ∧ kv = .int .i64 k ∧ Hid (∀ j, j < k → ¬ (RG.okR n j = true ∧ MM.belowN j = s)) ∧ Hid (Below w.heap.size w wr)) (fun kv _ => 64 - (intOf kv).toNat)
 case atStart => exact ⟨0, by omega, rfl, (fun j hj => by omega), Below.refl _ _⟩
 case round =>
  obtain ⟨k, hk, rfl, HN, HB⟩ := hrel
  by_cases h1 : (k : Int) < n
  ·by_cases h2 : k < 64
   ·have hwl := RG.wR_lt n k
    cases hok : RG.okR n k with
    | false =>
      have HN2 : Hid (∀ j, j < k + 1 → ¬ (RG.okR n j = true ∧ MM.belowN j = s)) := by
       show ∀ j, j < k + 1 → ¬ (RG.okR n j = true ∧ MM.belowN j = s)
       intro j hj
       by_cases hjk : j = k
       ·subst hjk; rw [hok]; simp
       ·exact HN.out j (by omega)
      clear HN
      go_wp2_with fail
      refine (refWord_any n k _).mono ?_
      rintro e w2 ⟨rfl, hb2⟩
      rw [hok]
      have HB2 := Lib.hid (HB.out.trans (hb2.mono HB.out.size)); clear hb2 hok
      go_wp2
      go_roundw
      case rel => exact ⟨k + 1, by omega, by go_num, HN2, HB2⟩
      case measure => simp [intOf]; omega
    | true =>
      by_cases hw : MM.belowN k = s
      ·have hl := (RG.lv_of hok hw).1
       have hc := (RG.lv_of hok hw).2
       have hw2 : RG.wR n k = s := (RG.wR_in hok).trans hw
       have hlv : RG.lv n s = k := by rw [RG.lv_in hl, hc]
       have HL := Lib.hid hl
       have HV := Lib.hid hlv
       clear hl hlv hc hw HN
       go_wp2_with fail
       refine (refWord_any n k _).mono ?_
       rintro e w2 ⟨rfl, hb2⟩
       rw [hok, hw2]
       have HB2 := Lib.hid (HB.out.trans (hb2.mono HB.out.size)); clear hb2 hok
       go_wp2
       go_ret2
       exact ⟨by rw [HV.out, HL.out]; rfl, HB2.out⟩
      ·have hw2 : ¬ RG.wR n k = s := by rw [RG.wR_in hok]; exact hw
       have hw3 : ¬ ((RG.wR n k : Nat) : Int) = ((s : Nat) : Int) := by omega
       have HN2 : Hid (∀ j, j < k + 1 → ¬ (RG.okR n j = true ∧ MM.belowN j = s)) := by
        show ∀ j, j < k + 1 → ¬ (RG.okR n j = true ∧ MM.belowN j = s)
        intro j hj
        by_cases hjk : j = k
        ·subst hjk; exact fun h => hw h.2
        ·exact HN.out j (by omega)
       clear HN hw
       go_wp2_with fail
       refine (refWord_any n k _).mono ?_
       rintro e w2 ⟨rfl, hb2⟩
       rw [hok]
       have HB2 := Lib.hid (HB.out.trans (hb2.mono HB.out.size)); clear hb2 hok
       go_wp2
       go_roundw
       case rel => exact ⟨k + 1, by omega, by go_num, HN2, HB2⟩
       case measure => simp [intOf]; omega
   ·have hl := RG.lv_none (n := n) (w := s) (m := k) (.inr (by omega)) HN.out
    have HL := Lib.hid hl
    clear hl HN
    go_wp2
    go_ret2
    exact ⟨by rw [RG.lv_out HL.out, HL.out]; rfl, HB.out⟩
  ·have hl := RG.lv_none (n := n) (w := s) (m := k) (.inl (by omega)) HN.out
   have HL := Lib.hid hl
   clear hl HN
   go_wp2
   go_ret2
   exact ⟨by rw [RG.lv_out HL.out, HL.out]; rfl, HB.out⟩
end Go.Proofs.YtkgonoejnochjaaGreatDoor
namespace Go.Proofs.YtkgonoejnochjaaGreatDoor
namespace NM
end NM
end Go.Proofs.YtkgonoejnochjaaGreatDoor
namespace Go.Proofs.YtkgonoejnochjaaGreatDoor
open Go.RowKit
theorem quiet_same {P : Program} {f : FuncId} {args : Array Value} {w : World} {n : Nat} {v : Value}
 (h : Calls P f args (w.drewN n) fun e w' => e = .returned v ∧ w.drewN n = w') : Calls P f args (w.drewN n) fun e w'' => e = .returned v ∧ ∃ m, w'' = w.drewN m :=
 Calls.quiet_of_same (h.mono fun _ _ ⟨he, hw⟩ => ⟨he, hw.symm⟩)
end Go.Proofs.YtkgonoejnochjaaGreatDoor
namespace Go.Proofs.YtkgonoejnochjaaGreatDoor
open Go.RowKit
end Go.Proofs.YtkgonoejnochjaaGreatDoor
namespace Go.Proofs.YtkgonoejnochjaaGreatDoor
open Go.RowKit
end Go.Proofs.YtkgonoejnochjaaGreatDoor
namespace Go.Proofs.YtkgonoejnochjaaGreatDoor
open Go.RowKit Go.Maps
section
variable {W W' : World} {B n : Nat} {f : ByteArray → Nat}
end
end Go.Proofs.YtkgonoejnochjaaGreatDoor
namespace Go.Proofs.YtkgonoejnochjaaGreatDoor
namespace NM
end NM
end Go.Proofs.YtkgonoejnochjaaGreatDoor
namespace Go.Proofs.YtkgonoejnochjaaGreatDoor
namespace TM
open LX TR
def fc (f : Option Int) : Int := if f.isSome then 2 else 0
section
variable {α β γ : Type} {rd : Rdr α} {l : List Tr} {i e : Int} {f : Option Int} {x : α} {i2 : Int} {f2 : Option Int}
end
section
variable {α : Type} {rd : Rdr α} {l : List Tr} {i e : Int} {f : Option Int} {x : α} {xs : List α} {i2 i3 i4 : Int} {f2 f3 f4 : Option Int} {t : Tk}
end
end TM
end Go.Proofs.YtkgonoejnochjaaGreatDoor
namespace Go.Proofs.YtkgonoejnochjaaGreatDoor
open Go.RowKit LX TR TM
section
variable {b B : Nat} {w w' w2 : World}
end
section
variable {w : World} {b : Nat} {A : Option Addr} {n c : Nat} {i e x y : Int}
end
end Go.Proofs.YtkgonoejnochjaaGreatDoor
namespace Go.Proofs.YtkgonoejnochjaaGreatDoor
open Go.RowKit LX TR TM
end Go.Proofs.YtkgonoejnochjaaGreatDoor
namespace Go.Proofs.YtkgonoejnochjaaGreatDoor
open Go.RowKit LX TR TM
end Go.Proofs.YtkgonoejnochjaaGreatDoor
namespace Go.Proofs.YtkgonoejnochjaaGreatDoor
open Go.RowKit LX TR TM
section
variable {w w' : World} {ok ok' : Nat → Prop} {l m : List Nd} {x : Nd}
end
end Go.Proofs.YtkgonoejnochjaaGreatDoor
namespace Go.Proofs.YtkgonoejnochjaaGreatDoor
open Go.RowKit LX TR TM
end Go.Proofs.YtkgonoejnochjaaGreatDoor
namespace Go.Proofs.YtkgonoejnochjaaGreatDoor
open Go.RowKit LX TR TM
end Go.Proofs.YtkgonoejnochjaaGreatDoor
namespace Go.Proofs.YtkgonoejnochjaaGreatDoor
open Go.RowKit LX TR TM
end Go.Proofs.YtkgonoejnochjaaGreatDoor
namespace Go.Proofs.YtkgonoejnochjaaGreatDoor
open Go.RowKit LX TR TM
section
variable {w w0' : World} {b g : Nat} {a0 b0 c0 d0 e0 u0 u1 u2 u3 u4 : Value} {t : TypeId}
end
theorem setRow_deep {w : World} {g : Nat} {ok ok' : Nat → Prop} {zs : List Nd} (h : DeepN w ok zs) (ds : Array Value) (hk : ∀ k, k < w.heap.size → ok k → k ≠ g ∧ ok' k) : DeepN (w.setRow g ds) ok' zs :=
 h.keep (below_setRow (B := 0) (Nat.zero_le _) ds).size (fun k hlt ho => setRow_other w g k ds (hk k hlt ho).1) fun k hlt ho => (hk k hlt ho).2
end Go.Proofs.YtkgonoejnochjaaGreatDoor
namespace Go.Proofs.YtkgonoejnochjaaGreatDoor
open Go.RowKit LX TR TM
end Go.Proofs.YtkgonoejnochjaaGreatDoor
namespace Go.Proofs.YtkgonoejnochjaaGreatDoor
open Go.RowKit LX TR TM
section
variable {d : Nat} {l : List Tr} {i e : Int} {f : Option Int} {i2 : Int} {f2 : Option Int}
end
end Go.Proofs.YtkgonoejnochjaaGreatDoor
namespace Go.Proofs.YtkgonoejnochjaaGreatDoor
open Go.RowKit LX TR TM
section
variable {d : Nat} {l : List Tr} {i e : Int} {f : Option Int} {i2 : Int} {f2 : Option Int}
end
end Go.Proofs.YtkgonoejnochjaaGreatDoor
namespace Go.Proofs.YtkgonoejnochjaaGreatDoor
open Go.RowKit LX TR TM
end Go.Proofs.YtkgonoejnochjaaGreatDoor
namespace Go.Proofs.YtkgonoejnochjaaGreatDoor
open Go.RowKit LX TR TM
section
variable {d : Nat} {l : List Tr} {i e : Int} {f : Option Int} {i2 i3 : Int} {f2 f3 : Option Int} {ks : List Nd}
end
end Go.Proofs.YtkgonoejnochjaaGreatDoor
namespace Go.Proofs.YtkgonoejnochjaaGreatDoor
open Go.RowKit LX TR TM
end Go.Proofs.YtkgonoejnochjaaGreatDoor
namespace Go.Proofs.YtkgonoejnochjaaGreatDoor
namespace TM
open LX TR
theorem txs_length (l : List Nd) : (txs l).length = l.length := by rw [txs_map, List.length_map]
end TM
open Go.RowKit LX TR TM
end Go.Proofs.YtkgonoejnochjaaGreatDoor
namespace Go.Proofs.YtkgonoejnochjaaGreatDoor
open Go.RowKit LX TR TM
section
variable {w w' : World} {B B' : Nat} {l : List Nd} {x : Nd}
end
end Go.Proofs.YtkgonoejnochjaaGreatDoor
namespace Go.Proofs.YtkgonoejnochjaaGreatDoor
open Go.RowKit LX TR TM
section
variable (s : List UInt8) (ws ks : List (List UInt8))
end
end Go.Proofs.YtkgonoejnochjaaGreatDoor
namespace Go.Proofs.YtkgonoejnochjaaGreatDoor
namespace TM
open LX TR
end TM
open Go.RowKit LX TR TM
end Go.Proofs.YtkgonoejnochjaaGreatDoor
namespace Go.Proofs.YtkgonoejnochjaaGreatDoor
open Go.RowKit LX TR TM
end Go.Proofs.YtkgonoejnochjaaGreatDoor
namespace Go.Proofs.YtkgonoejnochjaaGreatDoor
namespace TM
theorem eqL_all {α : Type} {g : α → α → Bool} {z : α} : ∀ {a b : List α}, a.length = b.length → (∀ i, i < a.length → g (a.getD i z) (b.getD i z) = true) → eqL g a b = true
 | [], [], _, _ => rfl
 | x :: a, y :: b, h, hg => by
   have h0 := hg 0 (by simp)
   rw [List.getD_cons_zero, List.getD_cons_zero] at h0
   rw [eqL, h0, eqL_all (z := z) (by simpa using h) fun i hi => by
     have h1 := hg (i + 1) (by simpa using hi)
     rw [List.getD_cons_succ, List.getD_cons_succ] at h1
     exact h1]
   rfl
end TM
open Go.RowKit LX TR TM
end Go.Proofs.YtkgonoejnochjaaGreatDoor
namespace Go.Proofs.YtkgonoejnochjaaGreatDoor
namespace TM
end TM
open Go.RowKit LX TR TM
end Go.Proofs.YtkgonoejnochjaaGreatDoor
namespace Go.Proofs.YtkgonoejnochjaaGreatDoor
open Go.RowKit LX TR TM
set_option maxRecDepth 100000 in
set_option maxHeartbeats 3200000 in
theorem refSame10_step (N : Nat) (hN : N < 4294967296) (ih : ∀ x y, cnt [x] ≤ N → ∀ w, Nods w w.heap.size [x] → Nods w w.heap.size [y] → Calls Tryz.prog 26 #[.agg (nv x), .agg (nv y)] w fun e w' => e = .returned (.bool (sm x y)) ∧ Below w.heap.size w w') (x y : Nd) (hz : cnt [x] ≤ N + 1) (w : World) (hx : Nods w w.heap.size [x]) (hy : Nods w w.heap.size [y]) :
 Calls Tryz.prog 26 #[.agg (nv x), .agg (nv y)] w fun e w' => e = .returned (.bool (sm x y)) ∧ Below w.heap.size w w' := by
 obtain ⟨xk, xp, xs, xA, xc, xw, xB, xd, xx⟩ := x
 obtain ⟨yk, yp, ys, yA, yc, yw, yB, yd, yy⟩ := y
 have hcz : 1 + xw.length + cnt xx ≤ N + 1 := by rw [cnt_cons] at hz; simp only [cnt, Nat.add_zero] at hz; exact hz
 have hzl := length_cnt xx
 have hxw : xw.length ≤ 4294967296 := by omega
 have hxx : xx.length ≤ 4294967296 := by omega
 have hn := RowAt.new w 28 #[.int .i64 xk, .int .i64 xp, .string xs, .slice xA xw.length xc, .slice xB xx.length xd]
 have hrx := hn.alloc (.cells #[.int .i64 yk, .int .i64 yp, .string ys, .slice yA yw.length yc, .slice yB yy.length yd] 28)
 have hry := RowAt.new (w.alloc (.cells #[.int .i64 xk, .int .i64 xp, .string xs, .slice xA xw.length xc, .slice xB xx.length xd] 28)) 28 #[.int .i64 yk, .int .i64 yp, .string ys, .slice yA yw.length yc, .slice yB yy.length yd]
 rw [show ((w.alloc (.cells #[.int .i64 xk, .int .i64 xp, .string xs, .slice xA xw.length xc, .slice xB xx.length xd] 28))).heap.size = w.heap.size + 1 by simp] at hry
 have hB : Below w.heap.size w ((w.alloc (.cells #[.int .i64 xk, .int .i64 xp, .string xs, .slice xA xw.length xc, .slice xB xx.length xd] 28)).alloc (.cells #[.int .i64 yk, .int .i64 yp, .string ys, .slice yA yw.length yc, .slice yB yy.length yd] 28)) := ((Below.refl _ _).alloc (Nat.le_refl _) _).alloc (by simp) _
 have HXK : Hid (∀ W, Below w.heap.size w W → Nods W W.heap.size xx) := fun W h => (hx.kids.below h).mono h.size
 have HYK : Hid (∀ W, Below w.heap.size w W → Nods W W.heap.size yy) := fun W h => (hy.kids.below h).mono h.size
 have HXW : Hid (∀ W, Below w.heap.size w W → Sl W w.heap.size xA (wcs xw)) := fun W h => hx.at.1.1.below h
 have HYW : Hid (∀ W, Below w.heap.size w W → Sl W w.heap.size yA (wcs yw)) := fun W h => hy.at.1.1.below h
 have HXS : Hid (∀ W, Below w.heap.size w W → Sl W w.heap.size xB (ncs xx)) := fun W h => hx.at.2.1.below h
 have HYS : Hid (∀ W, Below w.heap.size w W → Sl W w.heap.size yB (ncs yy)) := fun W h => hy.at.2.1.below h
 have HD : Hid (∀ i, i < xx.length → xx.length = yy.length → ∀ W, Below w.heap.size w W → Calls Tryz.prog 26 #[.agg (nv (xx.getD i n0)), .agg (nv (yy.getD i n0))] W fun e w' => e = .returned (.bool (sm (xx.getD i n0) (yy.getD i n0))) ∧ Below W.heap.size W w') := fun i hi he W h => ih _ _ (by
  have h1 := cnt_mem (getD_memL (z := n0) hi)
  rw [cnt_cons]
  simp only [cnt, Nat.add_zero]
  omega) W ((HXK.out W h).mem (getD_memL hi)) ((HYK.out W h).mem (getD_memL (by rw [← he]; exact hi)))
 have HSM : Hid (sm (.mk xk xp xs xA xc xw xB xd xx) (.mk yk yp ys yA yc yw yB yd yy) = (decide (xk = yk) && (decide (xs = ys) && (eqL sw xw yw && eqL sm xx yy)))) := sm_mk
 have H1L : Hid (¬ xw.length = yw.length → eqL sw xw yw = false) := eqL_len
 have H2L : Hid (¬ xx.length = yy.length → eqL sm xx yy = false) := eqL_len
 have H1H : Hid (xw.length = yw.length → ∀ i, i < xw.length → sw (xw.getD i w0) (yw.getD i w0) = false → eqL sw xw yw = false) := fun h i => eqL_hit h i
 have H2H : Hid (xx.length = yy.length → ∀ i, i < xx.length → sm (xx.getD i n0) (yy.getD i n0) = false → eqL sm xx yy = false) := fun h i => eqL_hit h i
 have H1A : Hid (xw.length = yw.length → (∀ i, i < xw.length → sw (xw.getD i w0) (yw.getD i w0) = true) → eqL sw xw yw = true) := fun h => eqL_all h
 have H2A : Hid (xx.length = yy.length → (∀ i, i < xx.length → sm (xx.getD i n0) (yy.getD i n0) = true) → eqL sm xx yy = true) := fun h => eqL_all h
 unfold nv at HD ⊢
 simp only [Nd.k, Nd.p, Nd.s, Nd.A, Nd.c, Nd.ws, Nd.B, Nd.d, Nd.ks]
 rw [HSM.out]
 clear hx hy ih HXK HYK HSM hz hcz hzl
 have HWW : Hid (w.heap.size + 2 ≤ ((w.alloc (.cells #[.int .i64 xk, .int .i64 xp, .string xs, .slice xA xw.length xc, .slice xB xx.length xd] 28)).alloc (.cells #[.int .i64 yk, .int .i64 yp, .string ys, .slice yA yw.length yc, .slice yB yy.length yd] 28)).heap.size) := by show _ ≤ _; simp
 generalize eqL sw xw yw = r1 at *
 generalize eqL sm xx yy = r2 at *
 have HB := Lib.hid hB
 have HRX := Lib.hid hrx
 have HRY := Lib.hid hry
 generalize hnw : xw.length = nw at *
 generalize hmw : yw.length = mw at *
 generalize hnx : xx.length = nx at *
 generalize hmy : yy.length = my at *
 have HNW := Lib.hid hnw
 have HMW := Lib.hid hmw
 have HNX := Lib.hid hnx
 have HMY := Lib.hid hmy
 obtain ⟨m0, m1, m2, m3, m4, _, _, _, _, _⟩ := row5 hrx
 obtain ⟨n0', n1', n2', n3', n4', _, _, _, _, _⟩ := row5 hry
 clear hn hrx hry hB hnw hmw hnx hmy
 by_cases hk : xk = yk
 ·subst hk
  by_cases hs : xs = ys
  ·subst hs
   by_cases hw : nw = mw
   ·subst hw
    by_cases hkk : nx = my
    ·subst hkk
     go_enter Tryz.func26, Tryz.ntmps26
     go_wp2_with fail
     generalize ((w.alloc (.cells #[.int .i64 xk, .int .i64 xp, .string xs, .slice xA nw xc, .slice xB nx xd] 28)).alloc (.cells #[.int .i64 xk, .int .i64 yp, .string xs, .slice yA nw yc, .slice yB nx yd] 28)) = w2 at *
     go_loopw [5] (fun iv wr => ∃ i : Nat, i ≤ nw ∧ iv = .int .i64 i ∧ Hid (∀ j, j < i → sw (xw.getD j w0) (yw.getD j w0) = true) ∧ Hid (Below w2.heap.size w2 wr)) (fun iv _ => nw - (intOf iv).toNat)
     case atStart => exact ⟨0, by omega, rfl, fun j hj => by omega, Below.refl _ _⟩
     case round =>
         obtain ⟨i, hi, rfl, HF, HW⟩ := hrel
         have HBW := Lib.hid (HB.out.trans (HW.out.mono HB.out.size))
         obtain ⟨m0, m1, m2, m3, m4, _, _, _, _, _⟩ := row5 (HRX.out.below HW.out HRX.out.lt)
         obtain ⟨n0', n1', n2', n3', n4', _, _, _, _, _⟩ := row5 (HRY.out.below HW.out HRY.out.lt)
         by_cases hlt : i < nw
         ·obtain ⟨b1, o1, rfl, _, hc1⟩ := sl_at (z := w0) wcells_length (HXW.out wr HBW.out) (k := i) (by rw [HNW.out]; exact hlt) (by omega)
          obtain ⟨b2, o2, rfl, _, hc2⟩ := sl_at (z := w0) wcells_length (HYW.out wr HBW.out) (k := i) (by rw [HMW.out]; exact hlt) (by omega)
          have p0 := hc1 i 0 _ (by rw [HNW.out]; exact hlt) (by omega) rfl
          rw [Nat.add_zero] at p0
          have q0 := hc2 i 0 _ (by rw [HMW.out]; exact hlt) (by omega) rfl
          rw [Nat.add_zero] at q0
          have hin : (i : Int) < (nw : Int) := by omega
          have HIN : Hid (sw (xw.getD i w0) (yw.getD i w0) = true → ∀ j, j < i + 1 → sw (xw.getD j w0) (yw.getD j w0) = true) := fun h j hj => by
           by_cases hji : j = i
           ·rw [hji]; exact h
           ·exact HF.out j (by omega)
          have HNO : Hid (sw (xw.getD i w0) (yw.getD i w0) = false → r1 = false) := fun h => H1H.out (by first | rfl | trivial) i hlt h
          clear hc1 hc2 HF
          unfold sw at HIN HNO
          have HIN : Hid (decide ((xw.getD i w0).s = (yw.getD i w0).s) = true → ∀ j, j < i + 1 → sw (xw.getD j w0) (yw.getD j w0) = true) := HIN
          have qe := NM.str_eq (xw.getD i w0).s (yw.getD i w0).s
          generalize (xw.getD i w0) = x at *
          generalize (yw.getD i w0) = y at *
          obtain ⟨s1, f1⟩ := x
          obtain ⟨s2, f2⟩ := y
          simp only at p0 q0 HIN HNO qe
          generalize decide (s1 = s2) = q at *
          have qn : (s1.toList != s2.toList) = !q := by rw [bne, qe]
          cases q
          ·have HT := Lib.hid (HNO.out rfl)
           clear HNO HIN
           go_wp2_with fail
           go_quiet (fail)
           go_wp2_with fail
           go_ret
           exact ⟨ret_eq (bool_eq (by rw [HT.out]; simp)), HBW.out.trans (((Dr.refl wr).more _).below.mono HBW.out.size)⟩
          ·have HT := Lib.hid (HIN.out rfl)
           clear HNO HIN
           go_wp2_with fail
           go_quiet (fail)
           go_wp2_with fail
           go_roundw
           case rel => exact ⟨i + 1, by omega, by go_num, HT, HW.out.trans (((Dr.refl wr).more _).below.mono HW.out.size)⟩
           case measure => simp [intOf]; omega
         ·obtain rfl : i = nw := by omega
          have HR1 : Hid (r1 = true) := H1A.out (by first | rfl | trivial) HF.out
          go_wp2_with fail
          obtain ⟨wo, hwo⟩ : ∃ wo : World, wo = wr := ⟨_, rfl⟩
          subst hwo
          go_loopw [6] (fun iv wr => ∃ k : Nat, k ≤ nx ∧ iv = .int .i64 k ∧ Hid (∀ j, j < k → sm (xx.getD j n0) (yy.getD j n0) = true) ∧ Hid (Below w2.heap.size w2 wr)) (fun iv _ => nx - (intOf iv).toNat)
          case atStart => exact ⟨0, by omega, rfl, fun j hj => by omega, HW.out⟩
          case round =>
           obtain ⟨i, hi, rfl, HF, HW⟩ := hrel
           have HBW := Lib.hid (HB.out.trans (HW.out.mono HB.out.size))
           obtain ⟨m0, m1, m2, m3, m4, _, _, _, _, _⟩ := row5 (HRX.out.below HW.out HRX.out.lt)
           obtain ⟨n0', n1', n2', n3', n4', _, _, _, _, _⟩ := row5 (HRY.out.below HW.out HRY.out.lt)
           by_cases hlt : i < nx
           ·obtain ⟨b1, o1, rfl, hl1, hc1⟩ := sl_at (z := n0) ncells_length (HXS.out wr HBW.out) (k := i) (by rw [HNX.out]; exact hlt) (by omega)
            obtain ⟨b2, o2, rfl, hl2, hc2⟩ := sl_at (z := n0) ncells_length (HYS.out wr HBW.out) (k := i) (by rw [HMY.out]; exact hlt) (by omega)
            have p0 := hc1 i 0 _ (by rw [HNX.out]; exact hlt) (by omega) rfl
            have p1 := hc1 i 1 _ (by rw [HNX.out]; exact hlt) (by omega) rfl
            have p2 := hc1 i 2 _ (by rw [HNX.out]; exact hlt) (by omega) rfl
            have p3 := hc1 i 3 _ (by rw [HNX.out]; exact hlt) (by omega) rfl
            have p4 := hc1 i 4 _ (by rw [HNX.out]; exact hlt) (by omega) rfl
            rw [Nat.add_zero] at p0
            rw [← Nat.add_assoc] at p1 p2 p3 p4
            have q0 := hc2 i 0 _ (by rw [HMY.out]; exact hlt) (by omega) rfl
            have q1 := hc2 i 1 _ (by rw [HMY.out]; exact hlt) (by omega) rfl
            have q2 := hc2 i 2 _ (by rw [HMY.out]; exact hlt) (by omega) rfl
            have q3 := hc2 i 3 _ (by rw [HMY.out]; exact hlt) (by omega) rfl
            have q4 := hc2 i 4 _ (by rw [HMY.out]; exact hlt) (by omega) rfl
            rw [Nat.add_zero] at q0
            rw [← Nat.add_assoc] at q1 q2 q3 q4
            have hin : (i : Int) < (nx : Int) := by omega
            have HIN : Hid (sm (xx.getD i n0) (yy.getD i n0) = true → ∀ j, j < i + 1 → sm (xx.getD j n0) (yy.getD j n0) = true) := fun h j hj => by
             by_cases hji : j = i
             ·rw [hji]; exact h
             ·exact HF.out j (by omega)
            have HNO : Hid (sm (xx.getD i n0) (yy.getD i n0) = false → r2 = false) := fun h => H2H.out (by first | rfl | trivial) i hlt h
            have HDD := Lib.hid (HD.out i hlt (by first | rfl | trivial))
            clear hc1 hc2 HF
            generalize sm (xx.getD i n0) (yy.getD i n0) = q at *
            generalize (xx.getD i n0) = x at *
            generalize (yy.getD i n0) = y at *
            obtain ⟨ak, ap, as', aA, ac, aw, aB, ad, ax⟩ := x
            obtain ⟨ck, cp, cs', cA, cc, cw, cB', cd, cx⟩ := y
            simp only [Nd.k, Nd.p, Nd.s, Nd.A, Nd.c, Nd.ws, Nd.B, Nd.d, Nd.ks] at p0 p1 p2 p3 p4 q0 q1 q2 q3 q4 HDD
            obtain ⟨S, hSe⟩ : ∃ S : World → Prop, S = fun w' => Below w2.heap.size w2 w' ∧ Below wr.heap.size wr w' := ⟨_, rfl⟩
            have keepS : ∀ wa wb, S wa → Below wa.heap.size wa wb → S wb := fun wa wb h hb => by
             rw [hSe] at h ⊢
             exact ⟨h.1.trans (hb.mono h.1.size), h.2.trans (hb.mono h.2.size)⟩
            have HSB : Hid (∀ W, S W → Below w.heap.size w W) := fun W h => by
             rw [hSe] at h
             exact HB.out.trans (h.1.mono HB.out.size)
            have hl3 : b1 < wr.heap.size := Nat.lt_of_lt_of_le hl1 HBW.out.size
            have hl4 : b2 < wr.heap.size := Nat.lt_of_lt_of_le hl2 HBW.out.size
            have C0 : ∀ W, S W → W.cell? ⟨w.heap.size, 4, none⟩ = some (.slice (some ⟨b1, o1, none⟩) nx xd) := fun W h => by
             rw [hSe] at h
             exact (RowAt.cell (HRX.out.below h.1 HRX.out.lt) 4).trans rfl
            have C1 : ∀ W, S W → W.cell? ⟨w.heap.size + 1, 4, none⟩ = some (.slice (some ⟨b2, o2, none⟩) nx yd) := fun W h => by
             rw [hSe] at h
             exact (RowAt.cell (HRY.out.below h.1 HRY.out.lt) 4).trans rfl
            have P0 : ∀ W, S W → W.cell? ⟨b1, o1 + i * 5, none⟩ = some (.int .i64 ak) := fun W h => by
             rw [hSe] at h
             exact (below_cell h.2 hl3).trans p0
            have P1 : ∀ W, S W → W.cell? ⟨b1, o1 + i * 5 + 1, none⟩ = some (.int .i64 ap) := fun W h => by
             rw [hSe] at h
             exact (below_cell h.2 hl3).trans p1
            have P2 : ∀ W, S W → W.cell? ⟨b1, o1 + i * 5 + 2, none⟩ = some (.string as') := fun W h => by
             rw [hSe] at h
             exact (below_cell h.2 hl3).trans p2
            have P3 : ∀ W, S W → W.cell? ⟨b1, o1 + i * 5 + 3, none⟩ = some (.slice aA aw.length ac) := fun W h => by
             rw [hSe] at h
             exact (below_cell h.2 hl3).trans p3
            have P4 : ∀ W, S W → W.cell? ⟨b1, o1 + i * 5 + 4, none⟩ = some (.slice aB ax.length ad) := fun W h => by
             rw [hSe] at h
             exact (below_cell h.2 hl3).trans p4
            have Q0 : ∀ W, S W → W.cell? ⟨b2, o2 + i * 5, none⟩ = some (.int .i64 ck) := fun W h => by
             rw [hSe] at h
             exact (below_cell h.2 hl4).trans q0
            have Q1 : ∀ W, S W → W.cell? ⟨b2, o2 + i * 5 + 1, none⟩ = some (.int .i64 cp) := fun W h => by
             rw [hSe] at h
             exact (below_cell h.2 hl4).trans q1
            have Q2 : ∀ W, S W → W.cell? ⟨b2, o2 + i * 5 + 2, none⟩ = some (.string cs') := fun W h => by
             rw [hSe] at h
             exact (below_cell h.2 hl4).trans q2
            have Q3 : ∀ W, S W → W.cell? ⟨b2, o2 + i * 5 + 3, none⟩ = some (.slice cA cw.length cc) := fun W h => by
             rw [hSe] at h
             exact (below_cell h.2 hl4).trans q3
            have Q4 : ∀ W, S W → W.cell? ⟨b2, o2 + i * 5 + 4, none⟩ = some (.slice cB' cx.length cd) := fun W h => by
             rw [hSe] at h
             exact (below_cell h.2 hl4).trans q4
            have HS : Hid (S wr.drew) := by
             show S wr.drew
             rw [hSe]
             exact ⟨HW.out.drew, (Below.refl _ _).drew⟩
            go_upto_region 11 with fail
            refine wp_region_ord S [(0, true), (1, true), (2, true), (3, true), (4, true), (5, true), (6, true), (7, true), (8, true), (9, true), (10, false), (11, true)] (by kernel_rfl) (by kernel_rfl) rfl (by kernel_rfl) HS.out ?_
            iterate 10
             (refine wpOrd_step (o := ?_) ?_ ?_; rotate_left 1; (simp only [zA1, zA2, zA3]; with_reducible rfl))
             (first
                        | (refine wpOrd_skip (by rfl) ?_)
                        | (refine wpOrd_take (v := ?_) (by rfl) ?_ ?_; rotate_left 1; (intro wx hSx; have hc_0 := C0 wx hSx; have hc_1 := C1 wx hSx; have hc_2 := P0 wx hSx; have hc_3 := P1 wx hSx; have hc_4 := P2 wx hSx; have hc_5 := P3 wx hSx; have hc_6 := P4 wx hSx; have hc_7 := Q0 wx hSx; have hc_8 := Q1 wx hSx; have hc_9 := Q2 wx hSx; have hc_10 := Q3 wx hSx; have hc_11 := Q4 wx hSx; go_simp; try with_reducible rfl)))
             (try simp only [Act.put, zA4, zA5, zA6])
            (refine wpOrd_solo (o := ?_) ?_ ?_; rotate_left 1; (simp only [zA1, zA2, zA3]; with_reducible rfl))
            intro K hK
            go_simp
            go_at_call 26
            refine (HDD.out _ (HSB.out _ HS.out)).mono ?_
            rintro e w4 ⟨rfl, hb⟩
            have hS := keepS _ _ HS.out hb
            clear HS
            have HS := Lib.hid hS; clear hS hb
            refine hK.out _ _ HS.out ?_
            clear hK K
            (try simp only [Act.put, zA4, zA5, zA6])
            iterate 1
             (refine wpOrd_step (o := ?_) ?_ ?_; rotate_left 1; (simp only [zA1, zA2, zA3]; with_reducible rfl))
             (first
                        | (refine wpOrd_skip (by rfl) ?_)
                        | (refine wpOrd_take (v := ?_) (by rfl) ?_ ?_; rotate_left 1; (intro wx hSx; go_simp; try with_reducible rfl)))
             (try simp only [Act.put, zA4, zA5, zA6])
            refine wpOrd_done ?_
            have hS4 := HS.out
            rw [hSe] at hS4
            have HW4 := Lib.hid hS4.1
            have HB4 := Lib.hid (HB.out.trans (HW4.out.mono HB.out.size))
            clear hS4
            cases q
            ·have HT := Lib.hid (HNO.out rfl)
             clear HNO HIN
             go_wp2_with fail
             go_ret
             exact ⟨ret_eq (bool_eq (by rw [HT.out]; simp)), HB4.out⟩
            ·have HT := Lib.hid (HIN.out rfl)
             clear HNO HIN
             go_wp2_with fail
             go_roundw
             case rel => exact ⟨i + 1, by omega, by go_num, HT, HW4⟩
             case measure => simp [intOf]; omega
           ·obtain rfl : i = nx := by omega
            have HR2 : Hid (r2 = true) := H2A.out (by first | rfl | trivial) HF.out
            go_wp2_with fail
            go_ret
            exact ⟨ret_eq (bool_eq (by rw [HR1.out, HR2.out]; simp)), HBW.out⟩
    ·have q4 : ((nx : Int) != (my : Int)) = true := by simp; omega
     have HR2 := Lib.hid (H2L.out hkk)
     go_enter Tryz.func26, Tryz.ntmps26
     go_wp2_with fail
     go_ret
     exact ⟨ret_eq (bool_eq (by rw [HR2.out]; simp)), HB.out⟩
   ·have q3 : ((nw : Int) != (mw : Int)) = true := by simp; omega
    have HR1 := Lib.hid (H1L.out hw)
    go_enter Tryz.func26, Tryz.ntmps26
    go_wp2_with fail
    go_ret
    exact ⟨ret_eq (bool_eq (by rw [HR1.out]; simp)), HB.out⟩
  ·have q1 : (xs.toList == ys.toList) = false := (NM.str_eq xs ys).trans (decide_eq_false hs)
   have q2 : (xs.toList != ys.toList) = true := by rw [bne, q1]; rfl
   go_enter Tryz.func26, Tryz.ntmps26
   go_wp2_with fail
   go_ret
   exact ⟨ret_eq (bool_eq (by simp [hs])), HB.out⟩
 ·have q2 : (xk != yk) = true := by rw [bne_iff_ne]; exact hk
  go_enter Tryz.func26, Tryz.ntmps26
  go_wp2_with fail
  go_ret
  exact ⟨ret_eq (bool_eq (by simp [hk])), HB.out⟩
theorem refSame10_any : ∀ N, N ≤ 4294967296 → ∀ x y, cnt [x] ≤ N → ∀ w, Nods w w.heap.size [x] → Nods w w.heap.size [y] → Calls Tryz.prog 26 #[.agg (nv x), .agg (nv y)] w fun e w' => e = .returned (.bool (sm x y)) ∧ Below w.heap.size w w' := by
 intro N
 induction N with
 | zero => intro _ x y hz; rw [cnt_cons] at hz; omega
 | succ N ih => intro h x y hz; exact refSame10_step N (by omega) (ih (by omega)) x y hz
end Go.Proofs.YtkgonoejnochjaaGreatDoor
namespace Go.Proofs.YtkgonoejnochjaaGreatDoor
open Go.RowKit RM
end Go.Proofs.YtkgonoejnochjaaGreatDoor
namespace Go.Proofs.YtkgonoejnochjaaGreatDoor
open Go.RowKit RM
end Go.Proofs.YtkgonoejnochjaaGreatDoor
namespace Go.Proofs.YtkgonoejnochjaaGreatDoor
open Go.RowKit RM
theorem ofP_all {P : Nat → Bool} {p : Nat} (hp : p ≤ 64) : MM.elsTo (MM.ofP (fun x => decide (x < p) && P x) 64) p = MM.els (MM.ofP (fun x => decide (x < p) && P x) 64) :=
 elsTo_all hp fun t h1 _ => by rw [MM.ofP_bit, show decide (t < p) = false by simp; omega]; simp
set_option maxHeartbeats 2000000 in
theorem qreaders_any (n : Int) (l : List Nat) (hl : RW l) (v : Nat) (hv : v < 18446744073709551616) (o : Int) (w : World) :
 Calls Tryz.prog 67 #[.agg (rv n l), .int .u64 (v : Int), .int .i64 o] w fun e w' => e = .returned (.int .u64 ((gReaders n l v o : Nat) : Int)) ∧ Below w.heap.size w w' := by
 have hr1 := RelAt.new w n l
 have hb : Below w.heap.size w (w.alloc (.cells (rv n l) 49)) := (Below.refl _ _).alloc (Nat.le_refl _) _
 have HR : Hid (∀ w, Calls Tryz.prog 85 #[.agg (rv n l)] w fun e w' => e = .returned (.bool (rightB n l)) ∧ Below w.heap.size w w') := qright_any n l hl
 have HB := Lib.hid hb; clear hb
 cases hri : rightB n l with
 | false =>
   have hz : gReaders n l v o = 0 := by unfold gReaders; rw [hri]; rfl
   rw [hz]
   rw [hri] at HR
   clear hri hz
   go_enter Tryz.func67, Tryz.ntmps67
   go_wp2_with (refine wpList_loadRel rfl _ rfl w.heap.size rfl n l hl hr1 ?_)
   refine (HR.out _).mono ?_
   rintro e w1 ⟨rfl, hb1⟩
   have hc1 := (hr1.below hb1 hr1.lt).cell0
   have HB1 := Lib.hid (HB.out.trans (hb1.mono HB.out.size)); clear hb1
   go_wp2_with fail
   go_ret
   exact ⟨rfl, HB1.out⟩
 | true =>
   obtain ⟨p, h1, hp, hn, hpp, _⟩ := right_has hri
   rw [hri] at HR
   by_cases h0 : o < 0
   ·have hz : gReaders n l v o = 0 := by unfold gReaders isPt; rw [show decide (0 ≤ o) = false by simp; omega]; simp
    rw [hz]
    clear hri hz hn hpp h1 hp
    go_enter Tryz.func67, Tryz.ntmps67
    go_wp2_with (refine wpList_loadRel rfl _ rfl w.heap.size rfl n l hl hr1 ?_)
    refine (HR.out _).mono ?_
    rintro e w1 ⟨rfl, hb1⟩
    have hc1 := (hr1.below hb1 hr1.lt).cell0
    have HB1 := Lib.hid (HB.out.trans (hb1.mono HB.out.size)); clear hb1
    go_wp2_with fail
    go_ret
    exact ⟨rfl, HB1.out⟩
   ·by_cases h2 : n ≤ o
    ·have hz : gReaders n l v o = 0 := by unfold gReaders isPt; rw [hpp, show decide (o < (p : Int)) = false by simp; omega]; simp
     rw [hz]
     clear hri hz hn hpp h1 hp
     go_enter Tryz.func67, Tryz.ntmps67
     go_wp2_with (refine wpList_loadRel rfl _ rfl w.heap.size rfl n l hl hr1 ?_)
     refine (HR.out _).mono ?_
     rintro e w1 ⟨rfl, hb1⟩
     have hc1 := (hr1.below hb1 hr1.lt).cell0
     have HB1 := Lib.hid (HB.out.trans (hb1.mono HB.out.size)); clear hb1
     go_wp2_with fail
     go_ret
     exact ⟨rfl, HB1.out⟩
    ·subst hn
     obtain ⟨a, ha⟩ : ∃ a : Nat, o = (a : Int) := ⟨o.toNat, by omega⟩
     subst ha
     have hap : a < p := by omega
     have hz : gReaders (p : Int) l v (a : Int) = MM.ofP (fun x => decide (x < p) && !ob v a x) 64 := by
      unfold gReaders
      rw [hri, isPt_nat, hpp, show decide (a < p) = true by simpa using hap]
      simp only [Bool.and_self, if_true, Int.toNat_natCast]
     rw [hz]
     have HOUT : Hid (∀ x : Nat, x < p → ∀ w, Calls Tryz.prog 111 #[.agg (rv (p : Int) l), .int .u64 (v : Int), .int .i64 (a : Int), .int .i64 (x : Int)] w fun e w' => e = .returned (.bool (ob v a x)) ∧ Below w.heap.size w w') := fun x h2 w => qout_any p l hp v hv a x hap h2 w
     have HSY : Hid (∀ x : Nat, x < p → ob v a x = false → MM.elsTo (MM.ofP (fun x => decide (x < p) && !ob v a x) 64) (x + 1) = MM.elsTo (MM.ofP (fun x => decide (x < p) && !ob v a x) 64) x ++ [x]) := fun x h2 h => elsTo_yes (by rw [ofP_at (by omega) h2, h]; rfl)
     have HSN : Hid (∀ x : Nat, x < p → ob v a x = true → MM.elsTo (MM.ofP (fun x => decide (x < p) && !ob v a x) 64) (x + 1) = MM.elsTo (MM.ofP (fun x => decide (x < p) && !ob v a x) 64) x) := fun x h2 h => elsTo_no (by rw [ofP_at (by omega) h2, h]; rfl)
     have HSE : Hid (MM.elsTo (MM.ofP (fun x => decide (x < p) && !ob v a x) 64) p = MM.els (MM.ofP (fun x => decide (x < p) && !ob v a x) 64)) := ofP_all (by omega)
     have HOE : Hid (MM.ofN (ei (MM.els (MM.ofP (fun x => decide (x < p) && !ob v a x) 64))) = MM.ofP (fun x => decide (x < p) && !ob v a x) 64) := ofN_ei (MM.ofP_lt _ _)
     clear hri hz
     generalize MM.ofP (fun x => decide (x < p) && !ob v a x) 64 = s at *
     go_enter Tryz.func67, Tryz.ntmps67
     go_wp2_with (refine wpList_loadRel rfl _ rfl w.heap.size rfl (p : Int) l hl hr1 ?_)
     refine (HR.out _).mono ?_
     rintro e w1 ⟨rfl, hb1⟩
     have r1 := hr1.below hb1 hr1.lt
     have hc1 := r1.cell0
     have HB1 := Lib.hid (HB.out.trans (hb1.mono HB.out.size)); clear hb1 HB
     have hd1 : decide ((a : Int) < 0) = false := by simp
     have hd2 : decide (p ≤ a) = false := by simp; omega
     clear h0 h2
     go_wp2_with fail
     clear hc1
     go_loopw [7, 8] (fun lv jv wr => ∃ (j k c : Nat) (A : Option Addr), j ≤ p ∧ jv = .int .i64 j ∧ lv = .slice A k c ∧ Hid (k = (MM.elsTo s j).length) ∧ k ≤ 64 ∧ Hid (OwnI wr w.heap.size A c (ei (MM.elsTo s j))) ∧ RelAt wr w.heap.size (p : Int) l ∧ Hid (Below w.heap.size w wr)) (fun _ jv _ => p - (intOf jv).toNat)
     case atStart => exact ⟨0, 0, 0, none, by omega, rfl, rfl, rfl, by omega, World.ownsRow_nil _ _ _ _, r1, HB1⟩
     case round =>
      clear r1 HB1
      obtain ⟨j, k, c, A, hj, rfl, rfl, HK, hk, HO, rr, HB⟩ := hrel
      have hc0 := rr.cell0
      by_cases hlt2 : j < p
      ·go_wp2_with (refine wpList_loadRel rfl _ rfl w.heap.size rfl _ l hl rr ?_)
       refine (HOUT.out j hlt2 _).mono ?_
       rintro e w4 ⟨rfl, hb4⟩
       have s1 := rr.below hb4 rr.lt
       have HO4 : Hid (OwnI w4 w.heap.size A c (ei (MM.elsTo s j))) := own_below HO.out hb4 (Nat.le_refl _)
       have HB4 := Lib.hid (HB.out.trans (hb4.mono HB.out.size))
       clear rr HO HB hb4 hc0
       cases hbt : ob v a j with
       | true =>
         have HP := Lib.hid (HSN.out j hlt2 hbt)
         clear hbt
         go_wp2_with fail
         go_roundw
         case rel => exact ⟨j + 1, k, c, A, by omega, by go_num, rfl, by rw [HP.out]; exact HK, hk, by rw [HP.out]; exact HO4, s1, HB4⟩
         case measure => simp [intOf]; omega
       | false =>
         have HP := Lib.hid (HSY.out j hlt2 hbt)
         have hlen := elsTo_le64 s (j + 1) (by omega)
         clear hbt
         have hown' : w4.ownsRow w.heap.size 3 1 (.slice A k c) k (cells (ei (MM.elsTo s j))) := by
          have h4 := HO4.out
          unfold OwnI at h4
          rw [ei_length, ← HK.out] at h4
          exact h4
         have hbs := HB4.out.size
         have N1 := Lib.hid (own_block hown' s1 (by decide))
         have HLEN := Lib.hid hlen; clear hlen HO4
         go_wp2_with (at_builtin; refine wpList_more _ rfl _ _ 111 rfl 3 (.int .i64 0) 1 8 Tryz.underlying111 infoInt rfl (by decide) (by decide) w.heap.size A k c (cells (ei (MM.elsTo s j))) rfl (hown'.alloc _) w4.heap.size 1 1 [.int .i64 (j : Int)] rfl rfl (by decide) (one_new _ _ _) ?c1 ?c2 ?c3 ?_; (case c1 => simp [Value.oneCell']); (case c2 => omega); (case c3 => simp; omega); intro A2 c2 w5 hown2 hb5 hgr; have HGR := Lib.hid hgr; clear hgr)
         have t1 := RelAt.grown (s1.alloc (.cells #[.int .i64 (j : Int)] 3)) HGR.out N1.out
         have HB5 := Lib.hid ((HB4.out.alloc hbs (.cells #[.int .i64 (j : Int)] 3)).trans hb5)
         have HK5 : Hid (k + 1 = (MM.elsTo s (j + 1)).length) := by rw [HP.out, List.length_append, ← HK.out]; exact rfl
         have hk5 : k + 1 ≤ 64 := by have := HLEN.out; rw [← HK5.out] at this; omega
         have HO5 : Hid (OwnI w5 w.heap.size A2 c2 (ei (MM.elsTo s (j + 1)))) := by
          show OwnI w5 w.heap.size A2 c2 (ei (MM.elsTo s (j + 1)))
          unfold OwnI
          rw [HP.out, ei_snoc, cells_snoc, List.length_append, ei_length, ← HK.out]
          exact hown2
         clear hown2 hb5 hown' hbs s1 HB4 N1 HLEN
         go_wp2_with fail
         go_roundw
         case rel => exact ⟨j + 1, k + 1, c2, A2, by omega, by go_num, rfl, HK5, hk5, HO5, t1, HB5⟩
         case measure => simp [intOf]; omega
      ·have e : j = p := by omega
       subst e
       rw [HSE.out] at HK HO
       have hof := fun w h => refOf_any A c (ei (MM.els s)) w (by rw [ei_length, ← HK.out]; omega) h
       rw [ei_length, ← HK.out, HOE.out] at hof
       have HOFF := Lib.hid hof; clear hof
       have HI := Lib.hid HO.out.ints
       go_wp2_with (go_at_call 98; refine (HOFF.out _ HI.out).mono ?_; rintro e w' ⟨rfl, rfl⟩)
       go_ret
       exact ⟨rfl, HB.out⟩
end Go.Proofs.YtkgonoejnochjaaGreatDoor
namespace Go.Proofs.YtkgonoejnochjaaGreatDoor
open Go.RowKit RM
theorem readers_all {p : Nat} {v a : Nat} (hp : p ≤ 8) : ((MM.ofP (fun x => decide (x < p) && !ob v a x) 64 : Nat) == MM.belowN (p : Int)) = !((List.range p).any fun x => ob v a x) := by
 rw [Bool.eq_iff_iff, beq_iff_eq, Bool.not_eq_true', List.any_eq_false]
 constructor
 ·intro h x hx
  have hx := List.mem_range.1 hx
  have := congrArg (·.testBit x) h
  simp only [ofP_at (show p ≤ 64 by omega) hx, belowN_bit] at this
  rw [show decide (x < 64) = true by simp; omega, show decide ((x : Int) < (p : Int)) = true by simp; omega] at this
  simpa using this
 ·intro h
  refine MM.ext64 (MM.ofP_lt _ _) (belowN_lt _) fun x hx => ?_
  rw [MM.ofP_bit, belowN_bit]
  by_cases hxp : x < p
  ·have := h x (List.mem_range.2 hxp)
   simp [hxp, hx]
   simpa using this
  ·simp [hxp]
set_option maxHeartbeats 2000000 in
theorem qowners_any (n : Int) (l : List Nat) (hl : RW l) (v : Nat) (hv : v < 18446744073709551616) (w : World) :
 Calls Tryz.prog 66 #[.agg (rv n l), .int .u64 (v : Int)] w fun e w' => e = .returned (.int .u64 ((gOwners n l v : Nat) : Int)) ∧ Below w.heap.size w w' := by
 have hr1 := RelAt.new w n l
 have hb : Below w.heap.size w (w.alloc (.cells (rv n l) 49)) := (Below.refl _ _).alloc (Nat.le_refl _) _
 have HR : Hid (∀ w, Calls Tryz.prog 85 #[.agg (rv n l)] w fun e w' => e = .returned (.bool (rightB n l)) ∧ Below w.heap.size w w') := qright_any n l hl
 have HB := Lib.hid hb; clear hb
 cases hri : rightB n l with
 | false =>
   have hz : gOwners n l v = 0 := by unfold gOwners; rw [hri]; rfl
   rw [hz]
   rw [hri] at HR
   clear hri hz
   go_enter Tryz.func66, Tryz.ntmps66
   go_wp2_with (refine wpList_loadRel rfl _ rfl w.heap.size rfl n l hl hr1 ?_)
   refine (HR.out _).mono ?_
   rintro e w1 ⟨rfl, hb1⟩
   have hc1 := (hr1.below hb1 hr1.lt).cell0
   have HB1 := Lib.hid (HB.out.trans (hb1.mono HB.out.size)); clear hb1
   go_wp2_with fail
   go_ret
   exact ⟨rfl, HB1.out⟩
 | true =>
   obtain ⟨p, h1, hp, rfl, hpp, _⟩ := right_has hri
   have hz : gOwners (p : Int) l v = MM.ofP (fun o => decide (o < p) && (List.range p).any fun x => ob v o x) 64 := by unfold gOwners; rw [hri, hpp]; rfl
   rw [hz]
   rw [hri] at HR
   have HRD : Hid (∀ a : Nat, a < p → ∀ w, Calls Tryz.prog 67 #[.agg (rv (p : Int) l), .int .u64 (v : Int), .int .i64 (a : Int)] w fun e w' => e = .returned (.int .u64 ((MM.ofP (fun x => decide (x < p) && !ob v a x) 64 : Nat) : Int)) ∧ Below w.heap.size w w') := fun a ha w => by
    have h := qreaders_any (p : Int) l hl v hv (a : Int) w
    have hzz : gReaders (p : Int) l v (a : Int) = MM.ofP (fun x => decide (x < p) && !ob v a x) 64 := by
        unfold gReaders
        rw [hri, isPt_nat, hpp, show decide (a < p) = true by simpa using ha]
        simp only [Bool.and_self, if_true, Int.toNat_natCast]
    rw [hzz] at h
    exact h
   have HCMP : Hid (∀ a : Nat, ((((MM.ofP (fun x => decide (x < p) && !ob v a x) 64 : Nat) : Int) != ((MM.belowN (p : Int) : Nat) : Int))) = ((List.range p).any fun x => ob v a x)) := fun a => by
    have h := readers_all (p := p) (v := v) (a := a) hp
    have h2 : ((((MM.ofP (fun x => decide (x < p) && !ob v a x) 64 : Nat) : Int) != ((MM.belowN (p : Int) : Nat) : Int))) = !((MM.ofP (fun x => decide (x < p) && !ob v a x) 64 : Nat) == MM.belowN (p : Int)) := by
        rw [Bool.eq_iff_iff]; simp; omega
    rw [h2, h, Bool.not_not]
   have HSY : Hid (∀ x : Nat, x < p → ((List.range p).any fun y => ob v x y) = true → MM.elsTo (MM.ofP (fun o => decide (o < p) && (List.range p).any fun x => ob v o x) 64) (x + 1) = MM.elsTo (MM.ofP (fun o => decide (o < p) && (List.range p).any fun x => ob v o x) 64) x ++ [x]) := fun x h2 h => elsTo_yes (by rw [ofP_at (by omega) h2, h])
   have HSN : Hid (∀ x : Nat, x < p → ((List.range p).any fun y => ob v x y) = false → MM.elsTo (MM.ofP (fun o => decide (o < p) && (List.range p).any fun x => ob v o x) 64) (x + 1) = MM.elsTo (MM.ofP (fun o => decide (o < p) && (List.range p).any fun x => ob v o x) 64) x) := fun x h2 h => elsTo_no (by rw [ofP_at (by omega) h2, h])
   have HSE : Hid (MM.elsTo (MM.ofP (fun o => decide (o < p) && (List.range p).any fun x => ob v o x) 64) p = MM.els (MM.ofP (fun o => decide (o < p) && (List.range p).any fun x => ob v o x) 64)) := ofP_all (by omega)
   have HOE : Hid (MM.ofN (ei (MM.els (MM.ofP (fun o => decide (o < p) && (List.range p).any fun x => ob v o x) 64))) = MM.ofP (fun o => decide (o < p) && (List.range p).any fun x => ob v o x) 64) := ofN_ei (MM.ofP_lt _ _)
   clear hri hz
   generalize MM.ofP (fun o => decide (o < p) && (List.range p).any fun x => ob v o x) 64 = s at *
   go_enter Tryz.func66, Tryz.ntmps66
   go_wp2_with (refine wpList_loadRel rfl _ rfl w.heap.size rfl (p : Int) l hl hr1 ?_)
   refine (HR.out _).mono ?_
   rintro e w1 ⟨rfl, hb1⟩
   have r1 := hr1.below hb1 hr1.lt
   have HB1 := Lib.hid (HB.out.trans (hb1.mono HB.out.size)); clear hb1 HB
   go_wp2_with fail
   go_loopw [5, 6] (fun lv jv wr => ∃ (j k c : Nat) (A : Option Addr), j ≤ p ∧ jv = .int .i64 j ∧ lv = .slice A k c ∧ Hid (k = (MM.elsTo s j).length) ∧ k ≤ 64 ∧ Hid (OwnI wr w.heap.size A c (ei (MM.elsTo s j))) ∧ RelAt wr w.heap.size (p : Int) l ∧ Hid (Below w.heap.size w wr)) (fun _ jv _ => p - (intOf jv).toNat)
   case atStart => exact ⟨0, 0, 0, none, by omega, rfl, rfl, rfl, by omega, World.ownsRow_nil _ _ _ _, r1, HB1⟩
   case round =>
    clear r1 HB1
    obtain ⟨j, k, c, A, hj, rfl, rfl, HK, hk, HO, rr, HB⟩ := hrel
    have hc0 := rr.cell0
    by_cases hlt2 : j < p
    ·have HRDJ := Lib.hid (HRD.out j hlt2)
     have hcmp := HCMP.out j
     have HSYJ := Lib.hid (HSY.out j hlt2)
     have HSNJ := Lib.hid (HSN.out j hlt2)
     generalize ((List.range p).any fun x => ob v j x) = b at *
     generalize MM.ofP (fun x => decide (x < p) && !ob v j x) 64 = q at *
     obtain ⟨S, HS, pb, keepS⟩ := ex_gen wr
     have pR := fun w' h => rr.below (pb w' h) rr.lt
     have cR := fun w' h => (pR w' h).cell0
     have PO : Hid (∀ w', S w' → OwnI w' w.heap.size A c (ei (MM.elsTo s j))) := fun w' h => own_below HO.out (pb w' h) (Nat.le_refl _)
     have PB : Hid (∀ w', S w' → Below w.heap.size w w') := fun w' h => HB.out.trans ((pb w' h).mono HB.out.size)
     clear pb rr HO HB
     go_wp2_with fail
     clear hc0
     refine wp_region_ord S [(0, true), (1, true), (2, true), (4, true), (5, true), (3, false), (6, false), (7, true)] (by kernel_rfl) (by kernel_rfl) rfl (by kernel_rfl) HS.out ?_
     iterate 5
      (refine wpOrd_step (o := ?_) ?_ ?_; rotate_left 1; (simp only [zA1, zA2, zA3]; with_reducible rfl))
      (first
       | (refine wpOrd_skip (by rfl) ?_)
       | (refine wpOrd_take (by rfl) (take_loadRel _ rfl _ rfl _ _ hl pR) ?_)
       | (refine wpOrd_take (v := ?_) (by rfl) ?_ ?_; rotate_left 1; (intro wx hSx; have hc_0 := cR wx hSx; go_simp; try with_reducible rfl)))
      (try simp only [Act.put, zA4, zA5, zA6])
     (refine wpOrd_solo (o := ?_) ?_ ?_; rotate_left 1; (simp only [zA1, zA2, zA3]; with_reducible rfl))
     intro K hK
     go_simp
     go_at_call 67
     refine (HRDJ.out _).mono ?_
     rintro e w3 ⟨rfl, hb⟩
     have hS := keepS _ _ HS.out hb
     clear HS
     have HS := Lib.hid hS; clear hS hb
     refine hK.out _ _ HS.out ?_
     clear hK K
     (try simp only [Act.put, zA4, zA5, zA6])
     (refine wpOrd_solo (o := ?_) ?_ ?_; rotate_left 1; (simp only [zA1, zA2, zA3]; with_reducible rfl))
     intro K hK
     go_simp
     go_at_call 101
     refine (refBelow_any _ _).mono ?_
     rintro e w4 ⟨rfl, hb⟩
     have hS := keepS _ _ HS.out hb
     clear HS
     have HS := Lib.hid hS; clear hS hb
     refine hK.out _ _ HS.out ?_
     clear hK K
     (try simp only [Act.put, zA4, zA5, zA6])
     iterate 1
      (refine wpOrd_step (o := ?_) ?_ ?_; rotate_left 1; (simp only [zA1, zA2, zA3]; with_reducible rfl))
      (first
       | (refine wpOrd_skip (by rfl) ?_)
       | (refine wpOrd_take (v := ?_) (by rfl) ?_ ?_; rotate_left 1; (intro wx hSx; go_simp; try with_reducible rfl)))
      (try simp only [Act.put, zA4, zA5, zA6])
     refine wpOrd_done ?_
     have s1 := pR _ HS.out
     have HO4 := Lib.hid (PO.out _ HS.out)
     have HB4 := Lib.hid (PB.out _ HS.out)
     clear pR cR PO PB HS keepS HRDJ
     cases b with
     | false =>
       have HP := Lib.hid (HSNJ.out rfl)
       clear HSYJ HSNJ
       go_wp2_with fail
       go_roundw
       case rel => exact ⟨j + 1, k, c, A, by omega, by go_num, rfl, by rw [HP.out]; exact HK, hk, by rw [HP.out]; exact HO4, s1, HB4⟩
       case measure => simp [intOf]; omega
     | true =>
       have HP := Lib.hid (HSYJ.out rfl)
       have hlen := elsTo_le64 s (j + 1) (by omega)
       clear HSYJ HSNJ
       have hown' : w4.ownsRow w.heap.size 3 1 (.slice A k c) k (cells (ei (MM.elsTo s j))) := by
        have h4 := HO4.out
        unfold OwnI at h4
        rw [ei_length, ← HK.out] at h4
        exact h4
       have hbs := HB4.out.size
       have N1 := Lib.hid (own_block hown' s1 (by decide))
       have HLEN := Lib.hid hlen; clear hlen HO4
       go_wp2_with (at_builtin; refine wpList_more _ rfl _ _ 111 rfl 3 (.int .i64 0) 1 8 Tryz.underlying111 infoInt rfl (by decide) (by decide) w.heap.size A k c (cells (ei (MM.elsTo s j))) rfl (hown'.alloc _) w4.heap.size 1 1 [.int .i64 (j : Int)] rfl rfl (by decide) (one_new _ _ _) ?c1 ?c2 ?c3 ?_; (case c1 => simp [Value.oneCell']); (case c2 => omega); (case c3 => simp; omega); intro A2 c2 w5 hown2 hb5 hgr; have HGR := Lib.hid hgr; clear hgr)
       have t1 := RelAt.grown (s1.alloc (.cells #[.int .i64 (j : Int)] 3)) HGR.out N1.out
       have HB5 := Lib.hid ((HB4.out.alloc hbs (.cells #[.int .i64 (j : Int)] 3)).trans hb5)
       have HK5 : Hid (k + 1 = (MM.elsTo s (j + 1)).length) := by rw [HP.out, List.length_append, ← HK.out]; exact rfl
       have hk5 : k + 1 ≤ 64 := by have := HLEN.out; rw [← HK5.out] at this; omega
       have HO5 : Hid (OwnI w5 w.heap.size A2 c2 (ei (MM.elsTo s (j + 1)))) := by
        show OwnI w5 w.heap.size A2 c2 (ei (MM.elsTo s (j + 1)))
        unfold OwnI
        rw [HP.out, ei_snoc, cells_snoc, List.length_append, ei_length, ← HK.out]
        exact hown2
       clear hown2 hb5 hown' hbs s1 HB4 N1 HLEN
       go_wp2_with fail
       go_roundw
       case rel => exact ⟨j + 1, k + 1, c2, A2, by omega, by go_num, rfl, HK5, hk5, HO5, t1, HB5⟩
       case measure => simp [intOf]; omega
    ·have e : j = p := by omega
     subst e
     rw [HSE.out] at HK HO
     have hof := fun w h => refOf_any A c (ei (MM.els s)) w (by rw [ei_length, ← HK.out]; omega) h
     rw [ei_length, ← HK.out, HOE.out] at hof
     have HOFF := Lib.hid hof; clear hof
     have HI := Lib.hid HO.out.ints
     go_wp2_with (go_at_call 98; refine (HOFF.out _ HI.out).mono ?_; rintro e w' ⟨rfl, rfl⟩)
     go_ret
     exact ⟨rfl, HB.out⟩
end Go.Proofs.YtkgonoejnochjaaGreatDoor
namespace Go.Proofs.YtkgonoejnochjaaGreatDoor
open Go.RowKit RM
end Go.Proofs.YtkgonoejnochjaaGreatDoor
namespace Go.Proofs.YtkgonoejnochjaaGreatDoor
open Go.RowKit RM
theorem qpoint_any (n : Int) (l : List Nat) (hl : RW l) (v : Nat) (w : World) :
 Calls Tryz.prog 69 #[.agg (rv n l), .int .u64 (v : Int)] w fun e w' => e = .returned (optV (ptO n l v)) ∧ Below w.heap.size w w' := by
 have hr1 := RelAt.new w n l
 have hb : Below w.heap.size w (w.alloc (.cells (rv n l) 49)) := (Below.refl _ _).alloc (Nat.le_refl _) _
 have HB := Lib.hid hb; clear hb
 have HPT : Hid (∀ w, Calls Tryz.prog 84 #[.agg (rv n l)] w fun e w' => e = .returned (.int .i64 ((pts n : Nat) : Int)) ∧ Below w.heap.size w w') := fun w => qpoints_any n l w
 have HWD : Hid (∀ (i : Nat) w, Calls Tryz.prog 54 #[.agg (rv n l), .int .i64 (i : Int)] w fun e w' => e = .returned (.int .u64 ((wordN n l i : Nat) : Int)) ∧ Below w.heap.size w w') := fun i w => qword_any n l hl i w
 have hp := pts_le n
 have HHIT : Hid (∀ k : Nat, k < pts n → (wordN n l k == v) = true → (∀ j : Nat, j < k → (wordN n l j == v) = false) → optV (ptO n l v) = .tuple #[.int .i64 (k : Int), .bool true]) := fun k h1 h2 h3 => by
  unfold ptO; rw [fnd_hit (P := ptT n l v) h1 h2 h3, optV_some]
 have HNO : Hid ((∀ j : Nat, j < pts n → (wordN n l j == v) = false) → optV (ptO n l v) = .tuple #[.int .i64 0, .bool false]) := fun h => by
  unfold ptO; rw [fnd_none (P := ptT n l v) h, optV_none]
 generalize optV (ptO n l v) = res at *
 generalize pts n = p at *
 go_enter Tryz.func69, Tryz.ntmps69
 go_wp2_with fail
 go_loopw [6] (fun kv wr => ∃ k : Nat, k ≤ p ∧ kv = .int .i64 k ∧ RelAt wr w.heap.size n l ∧ Hid (Below w.heap.size w wr) ∧ Hid (∀ j : Nat, j < k → (wordN n l j == v) = false)) (fun kv _ => p - (intOf kv).toNat)
 case atStart => exact ⟨0, by omega, rfl, hr1, HB, fun j hj => by omega⟩
 case round =>
  clear hr1 HB
  obtain ⟨k, hk, rfl, rr, HB, HK⟩ := hrel
  go_wp2_with (refine wpList_loadRel rfl _ rfl w.heap.size rfl _ l hl rr ?_)
  refine (HPT.out _).mono ?_
  rintro e w1 ⟨rfl, hb1⟩
  have r1 := rr.below hb1 rr.lt
  have HB1 := Lib.hid (HB.out.trans (hb1.mono HB.out.size)); clear hb1 rr HB
  by_cases hlt : k < p
  ·have HC := Lib.hid (HWD.out k)
   have HKN : Hid ((wordN n l k == v) = false → ∀ j : Nat, j < k + 1 → (wordN n l j == v) = false) := fun h j hj => by
        by_cases e : j = k
        ·subst e; exact h
        ·exact HK.out j (by omega)
   have HR : Hid ((wordN n l k == v) = true → res = .tuple #[.int .i64 (k : Int), .bool true]) := fun h => HHIT.out k hlt h HK.out
   have hxv : (((wordN n l k : Nat) : Int) == (v : Int)) = (wordN n l k == v) := by rw [Bool.eq_iff_iff]; simp; omega
   generalize wordN n l k = x at *
   go_wp2_with (refine wpList_loadRel rfl _ rfl w.heap.size rfl n l hl r1 ?_)
   refine (HC.out _).mono ?_
   rintro e w2 ⟨rfl, hb2⟩
   have r2 := r1.below hb2 r1.lt
   have HB2 := Lib.hid (HB1.out.trans (hb2.mono HB1.out.size)); clear hb2 r1 HB1
   cases ht : (x == v) with
   | false =>
     rw [ht] at hxv
     have HKN2 := Lib.hid (HKN.out ht); clear ht HR HKN
     go_wp2_with fail
     go_roundw
     case rel => exact ⟨k + 1, by omega, by go_num, r2, HB2, HKN2⟩
     case measure => simp [intOf]; omega
   | true =>
     rw [ht] at hxv
     have HR2 := Lib.hid (HR.out ht); clear ht HR HKN
     go_wp2_with fail
     go_ret2
     exact ⟨congrArg Ending.returned HR2.out.symm, HB2.out⟩
  ·have e : k = p := by omega
   subst e
   have HR := Lib.hid (HNO.out HK.out)
   go_wp2_with fail
   go_ret2
   exact ⟨congrArg Ending.returned HR.out.symm, HB1.out⟩
end Go.Proofs.YtkgonoejnochjaaGreatDoor
namespace Go.Proofs.YtkgonoejnochjaaGreatDoor
open Go.RowKit RM
end Go.Proofs.YtkgonoejnochjaaGreatDoor
namespace Go.Proofs.YtkgonoejnochjaaGreatDoor
open Go.RowKit RM
end Go.Proofs.YtkgonoejnochjaaGreatDoor

