/- Texts that SpellElemCard need. Conditions: those that each states. -/

import Derived.Test.YtkgonoejnochjaaGreatDoorY17
import Derived.Test.YtkgonoejnochjaaGreatDoorY18
import Derived.Test.YtkgonoejnochjaaGreatDoorY39
set_option linter.unusedSimpArgs false
set_option linter.unusedVariables false
set_option maxRecDepth 8000
namespace Go.Proofs.YtkgonoejnochjaaGreatDoor
open Go.RowKit RM
open Go.Sort hiding Below ahead
end Go.Proofs.YtkgonoejnochjaaGreatDoor
namespace Go.Proofs.YtkgonoejnochjaaGreatDoor
open Go.RowKit RM
end Go.Proofs.YtkgonoejnochjaaGreatDoor
namespace Go.Proofs.YtkgonoejnochjaaGreatDoor
open Go.RowKit RM
end Go.Proofs.YtkgonoejnochjaaGreatDoor
namespace Go.Proofs.YtkgonoejnochjaaGreatDoor
open Go.RowKit RM
end Go.Proofs.YtkgonoejnochjaaGreatDoor
namespace Go.Proofs.YtkgonoejnochjaaGreatDoor
open Go.RowKit RM
end Go.Proofs.YtkgonoejnochjaaGreatDoor
namespace Go.Proofs.YtkgonoejnochjaaGreatDoor
open Go.RowKit RM
section
variable {p : Nat} {R : Nat → Nat → Bool} {i a j : Nat} {o : List Nat}
end
end Go.Proofs.YtkgonoejnochjaaGreatDoor
namespace Go.Proofs.YtkgonoejnochjaaGreatDoor
open Go.RowKit RM
section
variable {w w' : World} {g : Nat} {lo hi : Int}
end
end Go.Proofs.YtkgonoejnochjaaGreatDoor
namespace Go.Proofs.YtkgonoejnochjaaGreatDoor
open Go.RowKit RM
theorem elsTo_none {s : Nat} (k : Nat) (h : ∀ t, t < k → s.testBit t = false) : MM.elsTo s k = [] := by
 have := elsTo_skip (s := s) (a := 0) k (fun t _ h2 => h t (by omega))
 rw [Nat.zero_add] at this
 rw [this]; rfl
end Go.Proofs.YtkgonoejnochjaaGreatDoor
namespace Go.Proofs.YtkgonoejnochjaaGreatDoor
open Go.RowKit RM
section
variable {a b c : Nat}
end
section
variable {t : Bool} {fs : List Fac} {a b c : List Nat}
end
section
variable {t : Bool} {fs : List Fac} {a b : List Nat}
end
end Go.Proofs.YtkgonoejnochjaaGreatDoor
namespace Go.Proofs.YtkgonoejnochjaaGreatDoor
open Go.RowKit RM
section
variable {w w' : World} {A : Option Addr} {fs : List Fac}
end
section
variable {ops : Array Oper} {rest : List Oper} {o : Oper} {a : Act} {w : World} {Q : Exit → Act → World → Prop}
end
section
variable {o : Oper} {a : Act} {S : World → Prop}
end
end Go.Proofs.YtkgonoejnochjaaGreatDoor
namespace Go.Proofs.YtkgonoejnochjaaGreatDoor
open Go.RowKit RM
end Go.Proofs.YtkgonoejnochjaaGreatDoor
namespace Go.Proofs.YtkgonoejnochjaaGreatDoor
open Go.RowKit RM
end Go.Proofs.YtkgonoejnochjaaGreatDoor
namespace Go.Proofs.YtkgonoejnochjaaGreatDoor
open Go.RowKit RM
end Go.Proofs.YtkgonoejnochjaaGreatDoor
namespace Go.Proofs.YtkgonoejnochjaaGreatDoor
open Go.RowKit RM
end Go.Proofs.YtkgonoejnochjaaGreatDoor
namespace Go.Proofs.YtkgonoejnochjaaGreatDoor
open Go.RowKit RM
end Go.Proofs.YtkgonoejnochjaaGreatDoor
namespace Go.Proofs.YtkgonoejnochjaaGreatDoor
open Go.RowKit RM
theorem five_rows (w : World) (c1 c2 c3 c4 c5 : Array Value) (t1 t2 t3 t4 t5 : TypeId) :
 RowAt (((((w.alloc (.cells c1 t1)).alloc (.cells c2 t2)).alloc (.cells c3 t3)).alloc (.cells c4 t4)).alloc (.cells c5 t5)) w.heap.size t1 c1 ∧
 RowAt (((((w.alloc (.cells c1 t1)).alloc (.cells c2 t2)).alloc (.cells c3 t3)).alloc (.cells c4 t4)).alloc (.cells c5 t5)) (w.heap.size + 1) t2 c2 ∧
 RowAt (((((w.alloc (.cells c1 t1)).alloc (.cells c2 t2)).alloc (.cells c3 t3)).alloc (.cells c4 t4)).alloc (.cells c5 t5)) (w.heap.size + 2) t3 c3 ∧
 RowAt (((((w.alloc (.cells c1 t1)).alloc (.cells c2 t2)).alloc (.cells c3 t3)).alloc (.cells c4 t4)).alloc (.cells c5 t5)) (w.heap.size + 3) t4 c4 ∧
 RowAt (((((w.alloc (.cells c1 t1)).alloc (.cells c2 t2)).alloc (.cells c3 t3)).alloc (.cells c4 t4)).alloc (.cells c5 t5)) (w.heap.size + 4) t5 c5 ∧
 Below w.heap.size w (((((w.alloc (.cells c1 t1)).alloc (.cells c2 t2)).alloc (.cells c3 t3)).alloc (.cells c4 t4)).alloc (.cells c5 t5)) := by
 obtain ⟨h1, h2, h3, h4, hb⟩ := four_rows w c1 c2 c3 c4 t1 t2 t3 t4
 have h5 := RowAt.new ((((w.alloc (.cells c1 t1)).alloc (.cells c2 t2)).alloc (.cells c3 t3)).alloc (.cells c4 t4)) t5 c5
 simp only [World.size_alloc] at h5
 exact ⟨h1.alloc _, h2.alloc _, h3.alloc _, h4.alloc _, h5, hb.alloc (by simp; omega) _⟩
end Go.Proofs.YtkgonoejnochjaaGreatDoor
namespace Go.Proofs.YtkgonoejnochjaaGreatDoor
namespace TM
open LX TR
section
variable {α β γ : Type} {rd : Rdr α} {l : List Tr} {i e : Int} {f : Option Int} {x : α} {i2 : Int} {f2 : Option Int}
end
section
variable {α : Type} {rd : Rdr α} {l : List Tr} {i e : Int} {f : Option Int} {x : α} {xs : List α} {i2 i3 i4 : Int} {f2 f3 f4 : Option Int} {t : Tk}
end
end TM
end Go.Proofs.YtkgonoejnochjaaGreatDoor
namespace Go.Proofs.YtkgonoejnochjaaGreatDoor
open Go.RowKit LX TR TM
section
variable {b B : Nat} {w w' w2 : World}
end
theorem row3 {w : World} {g : Nat} {t : TypeId} {a b c : Value} (h : RowAt w g t #[a, b, c]) : w.cell? ⟨g, 0, none⟩ = some a ∧ w.cell? ⟨g, 1, none⟩ = some b ∧ w.cell? ⟨g, 2, none⟩ = some c ∧ w.frozen? ⟨g, 0, none⟩ = false ∧ w.frozen? ⟨g, 1, none⟩ = false ∧ w.frozen? ⟨g, 2, none⟩ = false :=
 ⟨(h.cell 0).trans rfl, (h.cell 1).trans rfl, (h.cell 2).trans rfl, h.free 0, h.free 1, h.free 2⟩
section
variable {w : World} {b : Nat} {A : Option Addr} {n c : Nat} {i e x y : Int}
end
end Go.Proofs.YtkgonoejnochjaaGreatDoor
namespace Go.Proofs.YtkgonoejnochjaaGreatDoor
open Go.RowKit LX TR TM
end Go.Proofs.YtkgonoejnochjaaGreatDoor
namespace Go.Proofs.YtkgonoejnochjaaGreatDoor
open Go.RowKit LX TR TM
end Go.Proofs.YtkgonoejnochjaaGreatDoor
namespace Go.Proofs.YtkgonoejnochjaaGreatDoor
open Go.RowKit LX TR TM
section
variable {w w' : World} {ok ok' : Nat → Prop} {l m : List Nd} {x : Nd}
end
end Go.Proofs.YtkgonoejnochjaaGreatDoor
namespace Go.Proofs.YtkgonoejnochjaaGreatDoor
open Go.RowKit LX TR TM
end Go.Proofs.YtkgonoejnochjaaGreatDoor
namespace Go.Proofs.YtkgonoejnochjaaGreatDoor
open Go.RowKit LX TR TM
end Go.Proofs.YtkgonoejnochjaaGreatDoor
namespace Go.Proofs.YtkgonoejnochjaaGreatDoor
open Go.RowKit LX TR TM
end Go.Proofs.YtkgonoejnochjaaGreatDoor
namespace Go.Proofs.YtkgonoejnochjaaGreatDoor
namespace SP
open TM
theorem find_miss {α : Type} {p : α → Bool} : ∀ {l : List α} {i : Nat} {z : α}, i < l.length → (∀ j, j < i → p (l.getD j z) = false) → p (l.getD i z) = true → l.find? p = some (l.getD i z)
 | x :: l, 0, z, _, _, h => by
   rw [List.getD_cons_zero] at h
   rw [List.find?_cons, h, List.getD_cons_zero]
 | x :: l, i + 1, z, hi, h0, h => by
   have hx := h0 0 (by omega)
   rw [List.getD_cons_zero] at hx
   rw [List.getD_cons_succ] at h
   rw [List.find?_cons, hx, List.getD_cons_succ]
   exact find_miss (by simpa using hi) (fun j hj => by
     have := h0 (j + 1) (by omega)
     rw [List.getD_cons_succ] at this
     exact this) h
theorem find_no {α : Type} {p : α → Bool} {l : List α} {z : α} (h : ∀ j, j < l.length → p (l.getD j z) = false) : l.find? p = none := by
 rw [List.find?_eq_none]
 intro x hx
 obtain ⟨j, hj, rfl⟩ := List.mem_iff_getElem.1 hx
 have := h j hj
 rw [List.getD_eq_getElem?_getD, List.getElem?_eq_getElem hj, Option.getD_some] at this
 simp [this]
end SP
open Go.RowKit LX TR TM SP
theorem got11_info (a b c : Value) : (Tryz.prog.info? 61).map (·.size) = some (#[a, b, c] : Array Value).size := by kernel_rfl
set_option maxRecDepth 100000 in
set_option maxHeartbeats 1600000 in
theorem qplaces_any (A B : Option Addr) (c d : Nat) (names : List ByteArray) (ws : List Wd) (w : World) (hn : names.length ≤ 4294967296) (hw : ws.length ≤ 4294967296) (hA : Strs w A names) (hB : Sl w w.heap.size B (wcs ws)) :
 Calls Tryz.prog 51 #[.slice A names.length c, .slice B ws.length d] w fun e w' => e = .returned (.agg (gv (plc names ws))) ∧ Below w.heap.size w w' := by
 have HFD := Lib.hid (fun s W (h : Below w.heap.size w W) => refFind_any A c names s W hn (hA.below h))
 have HOF := Lib.hid (fun A' c' (xs : List Int) W (h1 : xs.length ≤ 4294967296) (h2 : Ints W A' xs) => refOf_any A' c' xs W h1 h2)
 have HBS := Lib.hid hB
 have HMISS : Hid (∀ i, i < ws.length → (∀ j, j < i → miss names (ws.getD j w0) = false) → idx names (ws.getD i w0).s < 0 → gv (plc names ws) = #[.int .u64 0, .bool true, .int .i64 (ws.getD i w0).p]) := fun i hi h0 h => by
  unfold plc
  rw [find_miss hi h0 (decide_eq_true h)]; rfl
 have HALL : Hid ((∀ j, j < ws.length → miss names (ws.getD j w0) = false) → gv (plc names ws) = #[.int .u64 ((MM.ofN (ws.map fun v => idx names v.s) : Nat) : Int), .bool false, .int .i64 0]) := fun h => by
  unfold plc
  rw [find_no h]; rfl
 have HTM := Lib.hid (fun i h => take_map (fun v : Wd => idx names v.s) ws w0 i h)
 have HTL : Hid ((ws.take ws.length).map (fun v : Wd => idx names v.s) = ws.map fun v => idx names v.s) := by show _ = _; rw [List.take_length]
 clear hA hB
 generalize gv (plc names ws) = G at *
 generalize hnn : names.length = nn at *
 clear hnn
 generalize hm : ws.length = n at *
 have HN := Lib.hid hm; clear hm
 have HR := Lib.hid (RowAt.new w 61 #[.int .u64 0, .bool false, .int .i64 0])
 have HB1 : Hid (Below w.heap.size w (w.alloc (.cells #[.int .u64 0, .bool false, .int .i64 0] 61))) := (Below.refl _ _).alloc (Nat.le_refl _) _
 go_enter Tryz.func51, Tryz.ntmps51
 go_upto_region 2 with fail
 have HSZ : Hid ((w.alloc (.cells #[.int .u64 0, .bool false, .int .i64 0] 61)).heap.size = w.heap.size + 1) := by show _ = _; simp
 generalize (w.alloc (.cells #[.int .u64 0, .bool false, .int .i64 0] 61)) = w1 at *
 go_wp2_with fail
 go_loopw [5, 6] (fun ov iv wr => ∃ (i : Nat) (Y : Option Addr) (dd : Nat), i ≤ n ∧ iv = .int .i64 i ∧ ov = .slice Y i dd ∧ Hid (wr.ownsRow w1.heap.size 3 1 (.slice Y i dd) i (cells ((ws.take i).map fun v : Wd => idx names v.s))) ∧ Hid (∀ j, j < i → miss names (ws.getD j w0) = false) ∧ Hid (Below w1.heap.size w1 wr)) (fun _ iv _ => n - (intOf iv).toNat)
 case atStart => exact ⟨0, none, 0, by omega, rfl, rfl, by rw [List.take_zero]; exact World.ownsRow_nil _ _ _ _, fun j hj => by omega, Below.refl _ _⟩
 case round =>
  obtain ⟨i, Y, dd, hi, rfl, rfl, HO, HZ, HW⟩ := hrel
  have HBW := Lib.hid (HB1.out.trans (HW.out.mono HB1.out.size))
  by_cases hlt : i < n
  ·obtain ⟨bb, o, rfl, hbb, hc⟩ := sl_at (z := w0) wcells_length (HBS.out.below HBW.out) (k := i) (by rw [HN.out]; exact hlt) (by omega)
   have q0 := hc i 0 _ (by rw [HN.out]; exact hlt) (by omega) rfl
   have q1 := hc i 1 _ (by rw [HN.out]; exact hlt) (by omega) rfl
   rw [Nat.add_zero] at q0
   rw [← Nat.add_assoc] at q1
   have HC := Lib.hid (HFD.out (ws.getD i w0).s wr HBW.out)
   have HMI := Lib.hid (HMISS.out i hlt HZ.out)
   have HTK := Lib.hid (HTM.out i hlt)
   have HZ2 : Hid (¬ idx names (ws.getD i w0).s < 0 → ∀ j, j < i + 1 → miss names (ws.getD j w0) = false) := fun h j hj => by
        by_cases e : j = i
        ·rw [e]; exact decide_eq_false h
        ·exact HZ.out j (by omega)
   have hin : (i : Int) < (n : Int) := by omega
   clear hc HMISS HZ
   generalize idx names (ws.getD i w0).s = k at *
   generalize ws.getD i w0 = v at *
   obtain ⟨vs, vp⟩ := v
   have q0' : wr.cell? ⟨bb, o + i * 2, none⟩ = some (.string vs) := q0
   have q1' : wr.cell? ⟨bb, o + i * 2 + 1, none⟩ = some (.int .i64 vp) := q1
   simp only at HMI HC
   clear q0 q1
   by_cases hk : k < 0
   ·have HG := Lib.hid (HMI.out hk)
    have hr := HR.out.below HW.out (by rw [HSZ.out]; omega)
    obtain ⟨r0, r1, r2, z0, z1, z2⟩ := row3 hr
    go_wp2_with fail
    refine HC.out.mono ?_
    rintro e w' ⟨rfl, rfl⟩
    go_wp2_with fail
    have hrow := ((hr.put 0 (.int .u64 0)).put 1 (.bool true)).put 2 (.int .i64 vp)
    exact bodyPost_ret (ret_cell rfl _ _ w.heap.size _ _ (0, 0) _ rfl hrow Tryz.underlying61 rfl (got11_info _ _ _)) rfl ⟨by rw [HG.out]; rfl, ((HBW.out.setCell (p := ⟨w.heap.size, 0, none⟩) (Nat.le_refl _) _).setCell (p := ⟨w.heap.size, 1, none⟩) (Nat.le_refl _) _).setCell (p := ⟨w.heap.size, 2, none⟩) (Nat.le_refl _) _⟩
   ·have HZ3 := Lib.hid (HZ2.out hk)
    go_wp2_with fail
    refine HC.out.mono ?_
    rintro e w' ⟨rfl, rfl⟩
    go_wp2_with (at_builtin; refine wpList_more _ rfl _ _ 111 rfl 3 (.int .i64 0) 1 8 Tryz.underlying111 infoInt rfl (by decide) (by decide) w1.heap.size Y i dd (cells ((ws.take i).map fun v : Wd => idx names v.s)) rfl (HO.out.alloc _) wr.heap.size 1 1 [.int .i64 k] rfl rfl (by decide) (one_new _ _ _) ?c1 ?c2 ?c3 ?_; (case c1 => simp [Value.oneCell']); (case c2 => omega); (case c3 => have := HW.out.size; simp; omega); intro A2 c2 w2 hown2 hb2 _)
    go_roundw
    case rel =>
     refine ⟨i + 1, A2, c2, by omega, by go_num, rfl, ?_, HZ3, (HW.out.alloc HW.out.size _).trans hb2⟩
     show w2.ownsRow _ _ _ _ _ _
     rw [HTK.out]
     unfold cells at hown2 ⊢
     rw [List.map_append]
     exact hown2
    case measure => simp [intOf]; omega
  ·obtain rfl : i = n := by omega
   have HG := Lib.hid (HALL.out HZ.out)
   have hr := HR.out.below HW.out (by rw [HSZ.out]; omega)
   have HOW := HO.out
   have hTT : (ws.take i).map (fun v : Wd => idx names v.s) = ws.map fun v => idx names v.s := by
        have h := HTL.out
        exact h
   rw [hTT] at HOW
   have hlen : (ws.map fun v : Wd => idx names v.s).length = i := by rw [List.length_map]; exact HN.out
   have hI : Ints wr Y (ws.map fun v : Wd => idx names v.s) := Sl.of_own HOW
   have HC := Lib.hid (HOF.out Y dd _ wr (by rw [hlen]; omega) hI)
   rw [hlen] at HC
   obtain ⟨r0, r1, r2, z0, z1, z2⟩ := row3 hr
   clear hTT hlen hI HOW
   generalize MM.ofN (ws.map fun v => idx names v.s) = O at *
   go_wp2_with fail
   refine HC.out.mono ?_
   rintro e w' ⟨rfl, rfl⟩
   go_wp2_with fail
   have hrow := ((hr.put 0 (.int .u64 (O : Int))).put 1 (.bool false)).put 2 (.int .i64 0)
   exact bodyPost_ret (ret_cell rfl _ _ w.heap.size _ _ (0, 0) _ rfl hrow Tryz.underlying61 rfl (got11_info _ _ _)) rfl ⟨by rw [HG.out]; rfl, ((HBW.out.setCell (p := ⟨w.heap.size, 0, none⟩) (Nat.le_refl _) _).setCell (p := ⟨w.heap.size, 1, none⟩) (Nat.le_refl _) _).setCell (p := ⟨w.heap.size, 2, none⟩) (Nat.le_refl _) _⟩
end Go.Proofs.YtkgonoejnochjaaGreatDoor
namespace Go.Proofs.YtkgonoejnochjaaGreatDoor
open Go.RowKit RM
end Go.Proofs.YtkgonoejnochjaaGreatDoor
namespace Go.Proofs.YtkgonoejnochjaaGreatDoor
open Go.RowKit RM
end Go.Proofs.YtkgonoejnochjaaGreatDoor
namespace Go.Proofs.YtkgonoejnochjaaGreatDoor
open Go.RowKit RM
end Go.Proofs.YtkgonoejnochjaaGreatDoor
namespace Go.Proofs.YtkgonoejnochjaaGreatDoor
open Go.RowKit RM
end Go.Proofs.YtkgonoejnochjaaGreatDoor
namespace Go.Proofs.YtkgonoejnochjaaGreatDoor
open Go.RowKit RM
theorem rdP_next (S : Nat → Nat → Bool) (t x j : Nat) : rdP (j + 1) S t x = (rdP j S t x || (t.testBit j && S j x)) := by
 unfold rdP
 rw [List.range_succ, List.any_append]
 simp
set_option maxHeartbeats 2000000 in
theorem qrule_any (n : Int) (l : List Nat) (hl : RW l) (o : Int) (t : Nat) (ht : t < 18446744073709551616) (w : World) :
 Calls Tryz.prog 99 #[.agg (rv n l), .int .i64 o, .int .u64 (t : Int)] w fun e w' => e = .returned (.int .u64 ((gRule n l o t : Nat) : Int)) ∧ Below w.heap.size w w' := by
 have hr1 := RelAt.new w n l
 have hb : Below w.heap.size w (w.alloc (.cells (rv n l) 49)) := (Below.refl _ _).alloc (Nat.le_refl _) _
 have HR : Hid (∀ w, Calls Tryz.prog 85 #[.agg (rv n l)] w fun e w' => e = .returned (.bool (rightB n l)) ∧ Below w.heap.size w w') := qright_any n l hl
 have HB := Lib.hid hb; clear hb
 cases hri : rightB n l with
 | false =>
   have hz : gRule n l o t = 0 := by unfold gRule; rw [hri]; rfl
   rw [hz]
   rw [hri] at HR
   clear hri hz
   go_enter Tryz.func99, Tryz.ntmps99
   go_wp2_with (refine wpList_loadRel rfl _ rfl w.heap.size rfl n l hl hr1 ?_)
   refine (HR.out _).mono ?_
   rintro e w1 ⟨rfl, hb1⟩
   have hc1 := (hr1.below hb1 hr1.lt).cell0
   have HB1 := Lib.hid (HB.out.trans (hb1.mono HB.out.size)); clear hb1
   go_wp2_with fail
   go_ret
   exact ⟨rfl, HB1.out⟩
 | true =>
   obtain ⟨p, h1, hp, hn, hpp, _⟩ := right_has hri
   rw [hri] at HR
   by_cases h0 : o < 0
   ·have hz : gRule n l o t = 0 := by unfold gRule isPt; rw [show decide (0 ≤ o) = false by simp; omega]; simp
    rw [hz]
    clear hri hz hn hpp h1 hp
    go_enter Tryz.func99, Tryz.ntmps99
    go_wp2_with (refine wpList_loadRel rfl _ rfl w.heap.size rfl n l hl hr1 ?_)
    refine (HR.out _).mono ?_
    rintro e w1 ⟨rfl, hb1⟩
    have hc1 := (hr1.below hb1 hr1.lt).cell0
    have HB1 := Lib.hid (HB.out.trans (hb1.mono HB.out.size)); clear hb1
    go_wp2_with fail
    go_ret
    exact ⟨rfl, HB1.out⟩
   ·by_cases h2 : n ≤ o
    ·have hz : gRule n l o t = 0 := by unfold gRule isPt; rw [hpp, show decide (o < (p : Int)) = false by simp; omega]; simp
     rw [hz]
     clear hri hz hn hpp h1 hp
     go_enter Tryz.func99, Tryz.ntmps99
     go_wp2_with (refine wpList_loadRel rfl _ rfl w.heap.size rfl n l hl hr1 ?_)
     refine (HR.out _).mono ?_
     rintro e w1 ⟨rfl, hb1⟩
     have hc1 := (hr1.below hb1 hr1.lt).cell0
     have HB1 := Lib.hid (HB.out.trans (hb1.mono HB.out.size)); clear hb1
     go_wp2_with fail
     go_ret
     exact ⟨rfl, HB1.out⟩
    ·subst hn
     obtain ⟨a, ha⟩ : ∃ a : Nat, o = (a : Int) := ⟨o.toNat, by omega⟩
     subst ha
     have hap : a < p := by omega
     have hz : gClose (p : Int) l (ruleW p (bt l) a t) = gRule (p : Int) l (a : Int) t := by
      unfold gRule gClose
      rw [hri, isPt_nat, hpp, show decide (a < p) = true by simpa using hap]
      simp only [Bool.and_self, if_true, Int.toNat_natCast]
     have hrl : ruleW p (bt l) a t < 18446744073709551616 := mkW_lt _ _
     have HCL : Hid (∀ w, Calls Tryz.prog 110 #[.agg (rv (p : Int) l), .int .u64 ((ruleW p (bt l) a t : Nat) : Int)] w fun e w' => e = .returned (.int .u64 ((gRule (p : Int) l (a : Int) t : Nat) : Int)) ∧ Below w.heap.size w w') := fun w => by
      have h := qclose_any (p : Int) l hl (ruleW p (bt l) a t) hrl w
      rw [hz] at h; exact h
     have HHAS : Hid (∀ y x : Nat, y < p → x < p → ∀ w, Calls Tryz.prog 100 #[.agg (rv (p : Int) l), .int .i64 (y : Int), .int .i64 (x : Int)] w fun e w' => e = .returned (.bool (bt l y x)) ∧ Below w.heap.size w w') := fun y x h1 h2 w => by
      have h := qhas_any (p : Int) l hl (y : Int) (x : Int) w
      rw [hasR_bt hpp h1 h2] at h; exact h
     have HSY : Hid (∀ x : Nat, x < p → rdP p (bt l) t x = false → MM.elsTo (ruleW p (bt l) a t) (8 * a + (x + 1)) = MM.elsTo (ruleW p (bt l) a t) (8 * a + x) ++ [8 * a + x]) := fun x h2 h => elsTo_yes ((mkW_at hp hap h2).trans (by simp [h]))
     have HSN : Hid (∀ x : Nat, x < p → rdP p (bt l) t x = true → MM.elsTo (ruleW p (bt l) a t) (8 * a + (x + 1)) = MM.elsTo (ruleW p (bt l) a t) (8 * a + x)) := fun x h2 h => elsTo_no ((mkW_at hp hap h2).trans (by simp [h]))
     have HS0 : Hid (MM.elsTo (ruleW p (bt l) a t) (8 * a + 0) = []) := elsTo_none _ fun i hi => by
      by_cases h3 : i % 8 < p
      ·have h4 := mkW_at (P := fun a' x => decide (a' = a) && !rdP p (bt l) t x) hp (show i / 8 < p by omega) h3
       rw [show 8 * (i / 8) + i % 8 = i by omega, show decide (i / 8 = a) = false by simp; omega] at h4
       exact h4
      ·exact mkW_off (.inr (by omega))
     have HSE : Hid (MM.elsTo (ruleW p (bt l) a t) (8 * a + p) = MM.els (ruleW p (bt l) a t)) := elsTo_all (by omega) fun i h3 h4 => by
      by_cases h5 : i / 8 < p ∧ i % 8 < p
      ·have h6 := mkW_at (P := fun a' x => decide (a' = a) && !rdP p (bt l) t x) hp h5.1 h5.2
       rw [show 8 * (i / 8) + i % 8 = i by omega, show decide (i / 8 = a) = false by simp; omega] at h6
       exact h6
      ·exact mkW_off (by omega)
     have HOE : Hid (MM.ofN (ei (MM.els (ruleW p (bt l) a t))) = ruleW p (bt l) a t) := ofN_ei hrl
     have HRZ : Hid (∀ x, rdP 0 (bt l) t x = false) := fun x => rfl
     have HRS : Hid (∀ x j, rdP (j + 1) (bt l) t x = (rdP j (bt l) t x || (t.testBit j && bt l j x))) := fun x j => rdP_next _ _ _ _
     clear hri hz
     generalize ruleW p (bt l) a t = s at *
     generalize gRule (p : Int) l (a : Int) t = res at *
     go_enter Tryz.func99, Tryz.ntmps99
     go_wp2_with (refine wpList_loadRel rfl _ rfl w.heap.size rfl (p : Int) l hl hr1 ?_)
     refine (HR.out _).mono ?_
     rintro e w1 ⟨rfl, hb1⟩
     have r1 := hr1.below hb1 hr1.lt
     have hc1 := r1.cell0
     have HB1 := Lib.hid (HB.out.trans (hb1.mono HB.out.size)); clear hb1 HB
     have hd1 : decide ((a : Int) < 0) = false := by simp
     have hd2 : decide (p ≤ a) = false := by simp; omega
     clear h0 h2
     go_wp2_with fail
     clear hc1
     go_loopw [7, 8, 9, 10] (fun lv xv _ _ wr => ∃ (x k c : Nat) (A : Option Addr), x ≤ p ∧ xv = .int .i64 x ∧ lv = .slice A k c ∧ Hid (k = (MM.elsTo s (8 * a + x)).length) ∧ k ≤ 64 ∧ Hid (OwnI wr w.heap.size A c (ei (MM.elsTo s (8 * a + x)))) ∧ RelAt wr w.heap.size (p : Int) l ∧ Hid (Below w.heap.size w wr)) (fun _ xv _ _ _ => p - (intOf xv).toNat)
     case atStart => exact ⟨0, 0, 0, none, by omega, rfl, rfl, by rw [HS0.out]; rfl, by omega, by rw [HS0.out]; exact World.ownsRow_nil _ _ _ _, r1, HB1⟩
     case round =>
      clear r1 HB1
      obtain ⟨x, k, c, A, hx, rfl, rfl, HK, hk, HO, rr, HB⟩ := hrel
      have hc0 := rr.cell0
      by_cases hlt : x < p
      ·go_wp2_with fail
       clear hc0
       obtain ⟨wo, rfl⟩ : ∃ wo : World, wo = wr := ⟨_, rfl⟩
       go_loopw [9, 10] (fun bv yv wr => ∃ (y : Nat) (b : Bool), y ≤ p ∧ yv = .int .i64 y ∧ bv = .bool b ∧ Hid (b = rdP y (bt l) t x) ∧ Hid (OwnI wr w.heap.size A c (ei (MM.elsTo s (8 * a + x)))) ∧ RelAt wr w.heap.size (p : Int) l ∧ Hid (Below w.heap.size w wr)) (fun _ yv _ => p - (intOf yv).toNat)
       case atStart => exact ⟨0, false, by omega, rfl, rfl, (HRZ.out x).symm, HO, rr, HB⟩
       case round =>
           clear rr HB HO
           obtain ⟨y, b, hy, rfl, rfl, HBB, HO, rr, HB⟩ := hrel
           have hc0 := rr.cell0
           by_cases hlt2 : y < p
           ·have HRSY := Lib.hid (HRS.out x y)
            have hh := MM.hasN_in t y (by omega)
            have HHY := Lib.hid (HHAS.out y x hlt2 hlt)
            cases htb : t.testBit y with
            | false =>
              rw [htb] at hh
              have HB2 : Hid (b = rdP (y + 1) (bt l) t x) := by show b = _; rw [HRSY.out, htb, ← HBB.out]; simp
              clear htb
              go_wp2_with (go_at_call 65; refine (refHas_any t ht _ _).mono ?_; rintro e w' ⟨rfl, rfl⟩)
              go_roundw
              case rel => exact ⟨y + 1, b, by omega, by go_num, rfl, HB2, HO, rr, HB⟩
              case measure => simp [intOf]; omega
            | true =>
              rw [htb] at hh
              have HB2 : Hid (rdP (y + 1) (bt l) t x = (b || bt l y x)) := by show _ = _; rw [HRSY.out, htb, ← HBB.out]; simp
              clear htb
              go_wp2_with fail
              refine (refHas_any t ht _ _).mono ?_
              rintro e w' ⟨rfl, rfl⟩
              rw [hh]
              go_wp2_with (refine wpList_loadRel rfl _ rfl w.heap.size rfl _ l hl rr ?_)
              refine (HHY.out _).mono ?_
              rintro e w4 ⟨rfl, hb4⟩
              have s1 := rr.below hb4 rr.lt
              have HO4 : Hid (OwnI w4 w.heap.size A c (ei (MM.elsTo s (8 * a + x)))) := own_below HO.out hb4 (Nat.le_refl _)
              have HB4 := Lib.hid (HB.out.trans (hb4.mono HB.out.size))
              clear rr HO HB hb4 hc0 HHY
              cases hbt : bt l y x with
              | false =>
                have HB3 : Hid (b = rdP (y + 1) (bt l) t x) := by show b = _; rw [HB2.out, hbt]; simp
                clear hbt HB2
                go_wp2_with fail
                go_roundw
                case rel => exact ⟨y + 1, b, by omega, by go_num, rfl, HB3, HO4, s1, HB4⟩
                case measure => simp [intOf]; omega
              | true =>
                have HB3 : Hid (true = rdP (y + 1) (bt l) t x) := by show true = _; rw [HB2.out, hbt]; simp
                clear hbt HB2
                go_wp2_with fail
                go_roundw
                case rel => exact ⟨y + 1, true, by omega, by go_num, rfl, HB3, HO4, s1, HB4⟩
                case measure => simp [intOf]; omega
           ·have e : y = p := by omega
            subst e
            cases b with
            | true =>
              have HP := Lib.hid (HSN.out x hlt HBB.out.symm)
              go_wp2_with fail
              go_roundw
              case rel => exact ⟨x + 1, k, c, A, by omega, by go_num, rfl, by rw [HP.out]; exact HK, hk, by rw [HP.out]; exact HO, rr, HB⟩
              case measure => simp [intOf]; omega
            | false =>
              have HP := Lib.hid (HSY.out x hlt HBB.out.symm)
              have hlen := elsTo_le64 s (8 * a + (x + 1)) (by omega)
              have HEV : Hid (8 * (a : Int) + (x : Int) = ((8 * a + x : Nat) : Int)) := by show _ = _; omega
              have hw1 : IntKind.i64.wrap (8 * (a : Int)) = 8 * (a : Int) := IntWalk.i64_in _ ⟨by omega, by omega⟩
              have hw2 : IntKind.i64.wrap (8 * (a : Int) + (x : Int)) = 8 * (a : Int) + (x : Int) := IntWalk.i64_in _ ⟨by omega, by omega⟩
              have HO4 := HO
              have s1 := rr
              have HB4 := HB
              clear HO rr HB
              have hown' : wr.ownsRow w.heap.size 3 1 (.slice A k c) k (cells (ei (MM.elsTo s (8 * a + x)))) := by
                  have h4 := HO4.out
                  unfold OwnI at h4
                  rw [ei_length, ← HK.out] at h4
                  exact h4
              have hbs := HB4.out.size
              have N1 := Lib.hid (own_block hown' s1 (by decide))
              have HLEN := Lib.hid hlen; clear hlen HO4
              go_wp2_with (at_builtin; refine wpList_more _ rfl _ _ 111 rfl 3 (.int .i64 0) 1 8 Tryz.underlying111 infoInt rfl (by decide) (by decide) w.heap.size A k c (cells (ei (MM.elsTo s (8 * a + x)))) rfl (hown'.alloc _) wr.heap.size 1 1 [.int .i64 (8 * (a : Int) + (x : Int))] rfl rfl (by decide) (one_new _ _ _) ?c1 ?c2 ?c3 ?_; (case c1 => simp [Value.oneCell']); (case c2 => omega); (case c3 => simp; omega); intro A2 c2 w5 hown2 hb5 hgr; have HGR := Lib.hid hgr; clear hgr)
              have t1 := RelAt.grown (s1.alloc (.cells #[.int .i64 (8 * (a : Int) + (x : Int))] 3)) HGR.out N1.out
              have HB5 := Lib.hid ((HB4.out.alloc hbs (.cells #[.int .i64 (8 * (a : Int) + (x : Int))] 3)).trans hb5)
              have HK5 : Hid (k + 1 = (MM.elsTo s (8 * a + (x + 1))).length) := by rw [HP.out, List.length_append, ← HK.out]; exact rfl
              have hk5 : k + 1 ≤ 64 := by have := HLEN.out; rw [← HK5.out] at this; omega
              have HO5 : Hid (OwnI w5 w.heap.size A2 c2 (ei (MM.elsTo s (8 * a + (x + 1))))) := by
                  show OwnI w5 w.heap.size A2 c2 (ei (MM.elsTo s (8 * a + (x + 1))))
                  unfold OwnI
                  rw [HP.out, ei_snoc, cells_snoc, List.length_append, ei_length, ← HK.out, ← HEV.out]
                  exact hown2
              clear hown2 hb5 hown' hbs s1 HB4 N1 HLEN
              go_wp2_with fail
              go_roundw
              case rel => exact ⟨x + 1, k + 1, c2, A2, by omega, by go_num, rfl, HK5, hk5, HO5, t1, HB5⟩
              case measure => simp [intOf]; omega
      ·have e : x = p := by omega
       subst e
       rw [HSE.out] at HK HO
       have hof := fun w h => refOf_any A c (ei (MM.els s)) w (by rw [ei_length, ← HK.out]; omega) h
       rw [ei_length, ← HK.out, HOE.out] at hof
       have HOFF := Lib.hid hof; clear hof
       obtain ⟨S, HS, pb, keepS⟩ := ex_gen wr
       have pR := fun w' h => rr.below (pb w' h) rr.lt
       have PI : Hid (∀ w', S w' → Ints w' A (ei (MM.els s))) := fun w' h => HO.out.ints.below (pb w' h)
       have PB : Hid (∀ w', S w' → Below w.heap.size w w') := fun w' h => HB.out.trans ((pb w' h).mono HB.out.size)
       clear pb HO HB
       go_wp2_with fail
       clear hc0 rr
       refine wp_region_ord S [(0, true), (1, true), (2, false), (3, false), (4, true)] (by kernel_rfl) (by kernel_rfl) rfl (by kernel_rfl) HS.out ?_
       iterate 2
           (refine wpOrd_step (o := ?_) ?_ ?_; rotate_left 1; (simp only [zA1, zA2, zA3]; with_reducible rfl))
           (first
                | (refine wpOrd_skip (by rfl) ?_)
                | (refine wpOrd_take (by rfl) (take_loadRel _ rfl _ rfl _ _ hl pR) ?_)
                | (refine wpOrd_take (v := ?_) (by rfl) ?_ ?_; rotate_left 1; (intro wx hSx; go_simp; try with_reducible rfl)))
           (try simp only [Act.put, zA4, zA5, zA6])
       (refine wpOrd_solo (o := ?_) ?_ ?_; rotate_left 1; (simp only [zA1, zA2, zA3]; with_reducible rfl))
       intro K hK
       go_simp
       go_at_call 98
       refine (HOFF.out _ (PI.out _ HS.out)).mono ?_
       rintro e w' ⟨rfl, rfl⟩
       refine hK.out _ _ HS.out ?_
       clear hK K
       (try simp only [Act.put, zA4, zA5, zA6])
       (refine wpOrd_solo (o := ?_) ?_ ?_; rotate_left 1; (simp only [zA1, zA2, zA3]; with_reducible rfl))
       intro K hK
       go_simp
       go_at_call 110
       refine (HCL.out _).mono ?_
       rintro e w3 ⟨rfl, hb⟩
       have hS := keepS _ _ HS.out hb
       clear HS
       have HS := Lib.hid hS; clear hS hb
       refine hK.out _ _ HS.out ?_
       clear hK K
       (try simp only [Act.put, zA4, zA5, zA6])
       iterate 1
           (refine wpOrd_step (o := ?_) ?_ ?_; rotate_left 1; (simp only [zA1, zA2, zA3]; with_reducible rfl))
           (first
                | (refine wpOrd_skip (by rfl) ?_)
                | (refine wpOrd_take (v := ?_) (by rfl) ?_ ?_; rotate_left 1; (intro wx hSx; go_simp; try with_reducible rfl)))
           (try simp only [Act.put, zA4, zA5, zA6])
       refine wpOrd_done ?_
       have HB4 := Lib.hid (PB.out _ HS.out)
       clear pR PI PB HS keepS
       go_wp2_with fail
       go_ret
       exact ⟨rfl, HB4.out⟩
end Go.Proofs.YtkgonoejnochjaaGreatDoor
namespace Go.Proofs.YtkgonoejnochjaaGreatDoor
namespace SP
open TM
theorem rls_drop {f : Fac} {ks : List Nd} {a i : Nat} (h : i < ks.length) :
 rls f (ks.drop i) a = if idx f.names (ks.getD i n0).s < 0 then .error (ks.getD i n0).p else match plc f.names (ks.getD i n0).ws with
  | .error p => .error p
  | .ok g => rls f (ks.drop (i + 1)) (a ||| gRule f.n f.l (idx f.names (ks.getD i n0).s) g) := by
 rw [List.drop_eq_getElem_cons h, rls, List.getD_eq_getElem?_getD, List.getElem?_eq_getElem h, Option.getD_some]
 rfl
end SP
open Go.RowKit LX TR TM SP
set_option maxRecDepth 100000 in
set_option maxHeartbeats 3200000 in
theorem qrules_any (f : Fac) (x : Nd) (w : World) (hf : FacOk w f) (hn : f.names.length ≤ 4294967296) (hx : Nods w w.heap.size [x]) (hc : TM.cnt [x] ≤ 4294967296) :
 Calls Tryz.prog 52 #[.agg (fv f), .agg (nv x)] w fun e w' => e = .returned (.agg (gv (rls f x.ks 0))) ∧ Below w.heap.size w w' := by
 obtain ⟨xk, xp, xs, xA, xc, xw, xB, xd, xz⟩ := x
 have hc2 : TM.cnt xz ≤ 4294967296 := by
  rw [TM.cnt_cons] at hc
  simp only [TM.cnt] at hc
  have hc : 1 + xw.length + TM.cnt xz + 0 ≤ 4294967296 := hc
  omega
 have hkl : xz.length ≤ 4294967296 := Nat.le_trans (length_cnt xz) hc2
 have hsk : Sl w w.heap.size xB (ncs xz) := hx.at.2.1
 have hkd : Nods w w.heap.size xz := hx.kids
 have HKS : Hid (∀ W, Below w.heap.size w W → Sl W W.heap.size xB (ncs xz)) := fun W h => (hsk.below h).mono h.size
 have HPL : Hid (∀ i, i < xz.length → ∀ W, Below w.heap.size w W → Calls Tryz.prog 51 #[.slice f.A f.names.length f.c, .slice (xz.getD i n0).A (xz.getD i n0).ws.length (xz.getD i n0).c] W fun e w' => e = .returned (.agg (gv (plc f.names (xz.getD i n0).ws))) ∧ Below W.heap.size W w') := fun i hi W h => by
  have hm : xz.getD i n0 ∈ xz := getD_memL hi
  have h1 := cnt_mem hm
  exact qplaces_any f.A _ f.c _ f.names _ W hn (by omega) (hf.below h).strs ((((hkd.mem hm).at.1.1).below h).mono h.size)
 have HFI : Hid (∀ s W, Below w.heap.size w W → Calls Tryz.prog 53 #[.slice f.A f.names.length f.c, .string s] W fun e w' => e = .returned (.int .i64 (idx f.names s)) ∧ W = w') := fun s W h => refFind_any f.A f.c f.names s W hn (hf.below h).strs
 have HRU : Hid (∀ (o : Int) (t : Nat) W, t < 18446744073709551616 → Calls Tryz.prog 99 #[.agg (rv f.n f.l), .int .i64 o, .int .u64 (t : Int)] W fun e w' => e = .returned (.int .u64 ((gRule f.n f.l o t : Nat) : Int)) ∧ Below W.heap.size W w') := fun o t W ht => qrule_any f.n f.l hf.rows o t ht W
 have HS1 : Hid (∀ i a, i < xz.length → idx f.names (xz.getD i n0).s < 0 → gv (rls f (xz.drop i) a) = #[.int .u64 0, .bool true, .int .i64 (xz.getD i n0).p]) := fun i a h h1 => by rw [rls_drop h, if_pos h1]; rfl
 have HS2 : Hid (∀ i a p, i < xz.length → ¬ idx f.names (xz.getD i n0).s < 0 → plc f.names (xz.getD i n0).ws = .error p → gv (rls f (xz.drop i) a) = #[.int .u64 0, .bool true, .int .i64 p]) := fun i a p h h1 h2 => by rw [rls_drop h, if_neg h1, h2]; rfl
 have HS3 : Hid (∀ i a g, i < xz.length → ¬ idx f.names (xz.getD i n0).s < 0 → plc f.names (xz.getD i n0).ws = .ok g → rls f (xz.drop i) a = rls f (xz.drop (i + 1)) (a ||| gRule f.n f.l (idx f.names (xz.getD i n0).s) g)) := fun i a g h h1 h2 => by rw [rls_drop h, if_neg h1, h2]
 have HEND : Hid (∀ a, rls f (xz.drop xz.length) a = .ok a) := fun a => by rw [List.drop_length]; rfl
 have HGR : Hid (∀ o t, gRule f.n f.l o t < 18446744073709551616) := fun o t => gRule_lt _ _ _ _
 have H0 : Hid (gv (rls f (xz.drop 0) 0) = gv (rls f xz 0)) := rfl
 have hl := hf.rows
 show Calls _ _ #[_, .agg #[.int .i64 xk, .int .i64 xp, .string xs, .slice xA xw.length xc, .slice xB xz.length xd]] _ _
 change Calls _ _ _ _ (fun e w' => e = .returned (.agg (gv (rls f xz 0))) ∧ Below w.heap.size w w')
 have HF0 := Lib.hid (((RowAt.new w 51 (fv f)).alloc (.cells #[.int .i64 xk, .int .i64 xp, .string xs, .slice xA xw.length xc, .slice xB xz.length xd] 28)).alloc (.cells #[.int .u64 0, .bool false, .int .i64 0] 61))
 have hx0 := (RowAt.new (w.alloc (.cells (fv f) 51)) 28 #[.int .i64 xk, .int .i64 xp, .string xs, .slice xA xw.length xc, .slice xB xz.length xd]).alloc (.cells #[.int .u64 0, .bool false, .int .i64 0] 61)
 have hg0 := RowAt.new ((w.alloc (.cells (fv f) 51)).alloc (.cells #[.int .i64 xk, .int .i64 xp, .string xs, .slice xA xw.length xc, .slice xB xz.length xd] 28)) 61 #[.int .u64 0, .bool false, .int .i64 0]
 rw [show (w.alloc (.cells (fv f) 51)).heap.size = w.heap.size + 1 by simp] at hx0
 rw [show ((w.alloc (.cells (fv f) 51)).alloc (.cells #[.int .i64 xk, .int .i64 xp, .string xs, .slice xA xw.length xc, .slice xB xz.length xd] 28)).heap.size = w.heap.size + 2 by simp] at hg0
 have hb1 : Below w.heap.size w (((w.alloc (.cells (fv f) 51)).alloc (.cells #[.int .i64 xk, .int .i64 xp, .string xs, .slice xA xw.length xc, .slice xB xz.length xd] 28)).alloc (.cells #[.int .u64 0, .bool false, .int .i64 0] 61)) := (((Below.refl _ _).alloc (Nat.le_refl _) _).alloc (by simp) _).alloc (by simp; omega) _
 have HX0 := Lib.hid hx0
 have HG0 := Lib.hid hg0
 have HB1 := Lib.hid hb1
 have HC : Hid (∀ W, RowAt W w.heap.size 51 (fv f) → W.cell? ⟨w.heap.size, 0, none⟩ = some (.int .i64 f.kind) ∧ W.cell? ⟨w.heap.size, 1, none⟩ = some (.slice f.A f.names.length f.c) ∧ W.cell? ⟨w.heap.size, 2, none⟩ = some (.int .i64 f.n) ∧ W.rangeAt w.heap.size 2 (rvl f.n f.l)) := fun W h => fac_cells h
 clear hx0 hg0 hb1 hf hx hc hc2 hsk hkd
 generalize hF : rls f = RL at *
 generalize gv (RL xz 0) = G at *
 generalize hnm : f.names = nm at *
 generalize hln : nm.length = ln at *
 clear hF hnm hln
 generalize fv f = V at *
 generalize f.kind = kd at *
 generalize f.n = n at *
 generalize f.l = l at *
 generalize f.A = A at *
 generalize f.c = c at *
 generalize hm : xz.length = m at *
 have HM := Lib.hid hm
 clear hm
 go_enter Tryz.func52, Tryz.ntmps52
 go_upto_region 2 with fail
 have HSZ : Hid ((((w.alloc (.cells V 51)).alloc (.cells #[.int .i64 xk, .int .i64 xp, .string xs, .slice xA xw.length xc, .slice xB m xd] 28)).alloc (.cells #[.int .u64 0, .bool false, .int .i64 0] 61)).heap.size = w.heap.size + 3) := by show _ = _; simp
 generalize (((w.alloc (.cells V 51)).alloc (.cells #[.int .i64 xk, .int .i64 xp, .string xs, .slice xA xw.length xc, .slice xB m xd] 28)).alloc (.cells #[.int .u64 0, .bool false, .int .i64 0] 61)) = w1 at *
 go_wp2_with fail
 go_loopw [5, 6] (fun av iv wr => ∃ i a : Nat, i ≤ m ∧ iv = .int .i64 i ∧ av = .int .u64 (a : Int) ∧ a < 18446744073709551616 ∧ Hid (gv (RL (xz.drop i) a) = G) ∧ Hid (Below w1.heap.size w1 wr)) (fun _ iv _ => m - (intOf iv).toNat)
 case atStart => exact ⟨0, 0, by omega, rfl, rfl, by omega, H0.out, Below.refl _ _⟩
 case round =>
  obtain ⟨i, a, hi, rfl, rfl, ha, HG, HW⟩ := hrel
  have HBW := Lib.hid (HB1.out.trans (HW.out.mono HB1.out.size))
  have hF0 := HF0.out.below HW.out (by rw [HSZ.out]; omega)
  have hX0 := HX0.out.below HW.out (by rw [HSZ.out]; omega)
  have hG0 := HG0.out.below HW.out (by rw [HSZ.out]; omega)
  by_cases hlt : i < m
  ·obtain ⟨c0, c1, c2, c3⟩ := HC.out wr hF0
   obtain ⟨x0, x1, x2, x3, x4, _, _, _, _, _⟩ := row5 hX0
   obtain ⟨bb, o, rfl, hbb, hc⟩ := sl_at (z := n0) ncells_length (HKS.out wr HBW.out) (k := i) (by rw [HM.out]; exact hlt) (by omega)
   have q0 := hc i 0 _ (by rw [HM.out]; exact hlt) (by omega) rfl
   have q1 := hc i 1 _ (by rw [HM.out]; exact hlt) (by omega) rfl
   have q2 := hc i 2 _ (by rw [HM.out]; exact hlt) (by omega) rfl
   have q3 := hc i 3 _ (by rw [HM.out]; exact hlt) (by omega) rfl
   have q4 := hc i 4 _ (by rw [HM.out]; exact hlt) (by omega) rfl
   rw [Nat.add_zero] at q0
   rw [← Nat.add_assoc] at q1 q2 q3 q4
   have HPi := Lib.hid (HPL.out i hlt)
   have HFK := Lib.hid (HFI.out (xz.getD i n0).s)
   have H1 := Lib.hid (HS1.out i a hlt)
   have H2 := Lib.hid (fun p => HS2.out i a p hlt)
   have H3 := Lib.hid (fun g => HS3.out i a g hlt)
   have hin : (i : Int) < (m : Int) := by omega
   clear hc HPL HS1 HS2 HS3 HEND
   generalize hPP : plc nm (xz.getD i n0).ws = P at *
   have HPP := Lib.hid hPP
   clear hPP
   have HLT : Hid (∀ g, P = .ok g → g < 18446744073709551616) := fun g hg => plc_lt (HPP.out.trans hg)
   clear HPP
   generalize idx nm (xz.getD i n0).s = k at *
   generalize xz.getD i n0 = y at *
   obtain ⟨yk, yp, ys, yA, yc, yw, yB, yd, yz⟩ := y
   simp only [Nd.k, Nd.p, Nd.s, Nd.A, Nd.c, Nd.ws, Nd.B, Nd.d, Nd.ks] at q0 q1 q2 q3 q4 HPi HFK H1 H2 H3
   have hbk : Below wr.heap.size wr (wr.alloc (.cells #[.int .i64 yk, .int .i64 yp, .string ys, .slice yA yw.length yc, .slice yB yz.length yd] 28)) := (Below.refl _ _).alloc (Nat.le_refl _) _
   have HF2 := Lib.hid (hF0.below hbk hF0.lt)
   have HX2 := Lib.hid (hX0.below hbk hX0.lt)
   have HG2 := Lib.hid (hG0.below hbk hG0.lt)
   have HK2 := Lib.hid (RowAt.new wr 28 #[.int .i64 yk, .int .i64 yp, .string ys, .slice yA yw.length yc, .slice yB yz.length yd])
   have HW2 := Lib.hid (HW.out.trans (hbk.mono HW.out.size))
   have HB2 := Lib.hid (HBW.out.trans (hbk.mono HBW.out.size))
   clear hbk hF0 hX0 hG0
   go_upto_region 6 with fail
   generalize (wr.alloc (.cells #[.int .i64 yk, .int .i64 yp, .string ys, .slice yA yw.length yc, .slice yB yz.length yd] 28)) = w2 at *
   clear c0 c1 c2 c3 x0 x1 x2 x3 x4 q0 q1 q2 q3 q4
   obtain ⟨c0, c1, c2, c3⟩ := HC.out w2 HF2.out
   obtain ⟨y0, y1, y2, y3, y4, _, _, _, _, _⟩ := row5 HK2.out
   obtain ⟨r0, r1, r2, z0, z1, z2⟩ := row3 HG2.out
   by_cases hk : k < 0
   ·have HGG := Lib.hid ((H1.out hk).symm.trans HG.out)
    go_wp2_with fail
    refine (HFK.out w2 HB2.out).mono ?_
    rintro e w' ⟨rfl, rfl⟩
    go_wp2_with fail
    have hrow := ((HG2.out.put 0 (.int .u64 0)).put 1 (.bool true)).put 2 (.int .i64 yp)
    exact bodyPost_ret (ret_cell rfl _ _ (w.heap.size + 2) _ _ (0, 0) _ rfl hrow Tryz.underlying61 rfl (got11_info _ _ _)) rfl ⟨by rw [← HGG.out]; rfl, ((HB2.out.setCell (p := ⟨w.heap.size + 2, 0, none⟩) (Nat.le_add_right _ _) _).setCell (p := ⟨w.heap.size + 2, 1, none⟩) (Nat.le_add_right _ _) _).setCell (p := ⟨w.heap.size + 2, 2, none⟩) (Nat.le_add_right _ _) _⟩
   ·go_wp2_with fail
    refine (HFK.out w2 HB2.out).mono ?_
    rintro e w' ⟨rfl, rfl⟩
    go_wp2_with fail
    refine (HPi.out w2 HB2.out).mono ?_
    rintro e w3 ⟨rfl, hb3⟩
    have HF3 := Lib.hid (HF2.out.below hb3 HF2.out.lt)
    have HG3 := Lib.hid (HG2.out.below hb3 HG2.out.lt)
    have HK3 := Lib.hid (HK2.out.below hb3 HK2.out.lt)
    have HW3 := Lib.hid (HW2.out.trans (hb3.mono HW2.out.size))
    have HB3 := Lib.hid (HB2.out.trans (hb3.mono HB2.out.size))
    clear hb3 HF2 HG2 HK2 HW2 HB2 c0 c1 c2 c3 y0 y1 y2 y3 y4 r0 r1 r2 z0 z1 z2
    cases P with
    | error p =>
      have HGG := Lib.hid ((H2.out p hk rfl).symm.trans HG.out)
      have hbk : Below w3.heap.size w3 (w3.alloc (.cells #[.int .u64 0, .bool true, .int .i64 p] 61)) := (Below.refl _ _).alloc (Nat.le_refl _) _
      have HF4 := Lib.hid (HF3.out.below hbk HF3.out.lt)
      have HG4 := Lib.hid (HG3.out.below hbk HG3.out.lt)
      have HT4 := Lib.hid (RowAt.new w3 61 #[.int .u64 0, .bool true, .int .i64 p])
      have HK4 := Lib.hid (HK3.out.below hbk HK3.out.lt)
      have HW4 := Lib.hid (HW3.out.trans (hbk.mono HW3.out.size))
      have HB4 := Lib.hid (HB3.out.trans (hbk.mono HB3.out.size))
      rw [show (gv (Except.error p) : Array Value) = #[.int .u64 0, .bool true, .int .i64 p] from rfl]
      clear hbk HF3 HG3 HK3 HW3 HB3
      go_upto_region 10 with fail
      generalize (w3.alloc (.cells #[.int .u64 0, .bool true, .int .i64 p] 61)) = w4 at *
      obtain ⟨c0, c1, c2, c3⟩ := HC.out w4 HF4.out
      obtain ⟨y0, y1, y2, y3, y4, _, _, _, _, _⟩ := row5 HK4.out
      obtain ⟨t0, t1, t2, _, _, _⟩ := row3 HT4.out
      obtain ⟨r0, r1, r2, z0, z1, z2⟩ := row3 HG4.out
      go_wp2_with fail
      have hrow := ((HG4.out.put 0 (.int .u64 0)).put 1 (.bool true)).put 2 (.int .i64 p)
      exact bodyPost_ret (ret_cell rfl _ _ (w.heap.size + 2) _ _ (0, 0) _ rfl hrow Tryz.underlying61 rfl (got11_info _ _ _)) rfl ⟨by rw [← HGG.out]; rfl, ((HB4.out.setCell (p := ⟨w.heap.size + 2, 0, none⟩) (Nat.le_add_right _ _) _).setCell (p := ⟨w.heap.size + 2, 1, none⟩) (Nat.le_add_right _ _) _).setCell (p := ⟨w.heap.size + 2, 2, none⟩) (Nat.le_add_right _ _) _⟩
    | ok g =>
      have HGG : Hid (gv (RL (xz.drop (i + 1)) (a ||| gRule n l k g)) = G) := by
       have h := HG.out
       rw [H3.out g hk rfl] at h
       exact h
      have hbk : Below w3.heap.size w3 (w3.alloc (.cells #[.int .u64 (g : Int), .bool false, .int .i64 0] 61)) := (Below.refl _ _).alloc (Nat.le_refl _) _
      have HF4 := Lib.hid (HF3.out.below hbk HF3.out.lt)
      have HG4 := Lib.hid (HG3.out.below hbk HG3.out.lt)
      have HT4 := Lib.hid (RowAt.new w3 61 #[.int .u64 (g : Int), .bool false, .int .i64 0])
      have HK4 := Lib.hid (HK3.out.below hbk HK3.out.lt)
      have HW4 := Lib.hid (HW3.out.trans (hbk.mono HW3.out.size))
      have HB4 := Lib.hid (HB3.out.trans (hbk.mono HB3.out.size))
      rw [show (gv (Except.ok g) : Array Value) = #[.int .u64 (g : Int), .bool false, .int .i64 0] from rfl]
      clear hbk HF3 HG3 HK3 HW3 HB3
      go_upto_region 10 with fail
      generalize (w3.alloc (.cells #[.int .u64 (g : Int), .bool false, .int .i64 0] 61)) = w4 at *
      obtain ⟨c0, c1, c2, c3⟩ := HC.out w4 HF4.out
      obtain ⟨y0, y1, y2, y3, y4, _, _, _, _, _⟩ := row5 HK4.out
      obtain ⟨t0, t1, t2, _, _, _⟩ := row3 HT4.out
      obtain ⟨r0, r1, r2, z0, z1, z2⟩ := row3 HG4.out
      go_wp2_with (refine wpList_loadRelIn (by rfl) _ rfl w.heap.size 2 rfl n l hl c3 ?_)
      refine (HRU.out k g w4 (HLT.out g rfl)).mono ?_
      rintro e w5 ⟨rfl, hb5⟩
      have HW5 := Lib.hid (HW4.out.trans (hb5.mono HW4.out.size))
      have hrl := HGR.out k g
      clear hb5
      generalize gRule n l k g = rr at *
      go_wp2_with fail
      go_roundw
      case rel => exact ⟨i + 1, a ||| rr, by omega, by go_num, by rw [u64_or_nat a rr ha hrl], or_lt ha hrl, HGG.out, HW5⟩
      case measure => simp [intOf]; omega
  ·obtain rfl : i = m := by omega
   have HGG : Hid (#[.int .u64 (a : Int), .bool false, .int .i64 0] = G) := by
        have h := HG.out
        rw [HEND.out a] at h
        exact h
   obtain ⟨x0, x1, x2, x3, x4, _, _, _, _, _⟩ := row5 hX0
   obtain ⟨r0, r1, r2, z0, z1, z2⟩ := row3 hG0
   go_wp2_with fail
   have hrow := ((hG0.put 0 (.int .u64 (a : Int))).put 1 (.bool false)).put 2 (.int .i64 0)
   exact bodyPost_ret (ret_cell rfl _ _ (w.heap.size + 2) _ _ (0, 0) _ rfl hrow Tryz.underlying61 rfl (got11_info _ _ _)) rfl ⟨by rw [← HGG.out]; rfl, ((HBW.out.setCell (p := ⟨w.heap.size + 2, 0, none⟩) (Nat.le_add_right _ _) _).setCell (p := ⟨w.heap.size + 2, 1, none⟩) (Nat.le_add_right _ _) _).setCell (p := ⟨w.heap.size + 2, 2, none⟩) (Nat.le_add_right _ _) _⟩
end Go.Proofs.YtkgonoejnochjaaGreatDoor

