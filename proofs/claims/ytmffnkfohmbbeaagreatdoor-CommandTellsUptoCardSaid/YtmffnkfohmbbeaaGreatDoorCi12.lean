/- Texts that all the claims need. Conditions: those that each states. -/
import Derived.Great.BuildSlice
import Derived.Lib.SlBytesRow
import Derived.Test.YtmffnkfohmbbeaaGreatDoorCi10
set_option linter.unusedSimpArgs false
set_option linter.unusedVariables false
set_option maxRecDepth 100000
set_option maxHeartbeats 40000000
namespace Go.Proofs.YtmffnkfohmbbeaaGreatDoor
section
namespace CM
open LX TR TM
def spw (a b : Pw) : Bool := sw a.a b.a && sw a.b b.b
def smC (x y : Cm) : Bool := decide (x.op = y.op) && (decide (x.n.s = y.n.s) && (eqL sw x.ws y.ws && (eqL spw x.ps y.ps && (sm x.l y.l && sm x.r y.r))))
section
variable {D : Nat} {s : Cs} {ts r : List Tr} {e : Int}
end
end CM
end
section
open Go.RowKit LX TR TM
section
variable {w : World} {B g : Nat} {a b c d e f x y u0 u1 u2 u3 u4 u5 u6 u7 : Value} {t : TypeId}
end
def Hd (l : List Tr) (e : Int) (acc : List Wd) (a : Int) : Prop := (acc = [] ∧ a = 0) ∨ ∃ i2, LSt nameR l 0 e none acc i2 none ∧ kindOf (rest l i2) none = 44 ∧ a = i2 + 1 ∧ 0 ≤ i2 ∧ i2 < l.length
theorem Hd.more {l : List Tr} {e : Int} {acc : List Wd} {a : Int} {x : Wd} {i3 : Int} {f3 : Option Int} (h : Hd l e acc a) (h2 : Step nameR l a e none x i3 f3) : LSt nameR l 0 e none (acc ++ [x]) i3 f3 := by
 rcases h with ⟨rfl, rfl⟩ | ⟨i2, hL, hk, rfl, h0, h1⟩
 ·exact LSt.start h2
 ·have hr := rest_cons h0 h1
  have h9 : (l.getD i2.toNat r0).t.k = 44 := by rw [hr] at hk; exact hk
  have ht : Step (takeR 44) l i2 e none (l.getD i2.toNat r0).t (i2 + 1) none := Step.ok ⟨1, rfl, by rw [hr]; simp⟩ (by rw [hr]; exact takeR_hit h9)
  exact (hL.next hk ht h2).1
end
section
open Go.RowKit LX TR TM
end
section
open Go.RowKit LX TR TM
end
section
open Go.RowKit LX TR TM
end
section
open Go.RowKit LX TR TM
end
section
open Go.RowKit LX TR TM
namespace DT
def HdN (rd : Rdr Nd) (l : List Tr) (e : Int) (acc : List Nd) (a : Int) : Prop := (acc = [] ∧ a = 0) ∨ ∃ i2, LSt rd l 0 e none acc i2 none ∧ kindOf (rest l i2) none = 44 ∧ a = i2 + 1 ∧ 0 ≤ i2 ∧ i2 < l.length
theorem HdN.more {rd : Rdr Nd} {l : List Tr} {e : Int} {acc : List Nd} {a : Int} {x : Nd} {i3 : Int} {f3 : Option Int} (h : HdN rd l e acc a) (h2 : Step rd l a e none x i3 f3) : LSt rd l 0 e none (acc ++ [x]) i3 f3 := by
 rcases h with ⟨rfl, rfl⟩ | ⟨i2, hL, hk, rfl, h0, h1⟩
 ·exact LSt.start h2
 ·have hr := rest_cons h0 h1
  have h9 : (l.getD i2.toNat r0).t.k = 44 := by rw [hr] at hk; exact hk
  have ht : Step (takeR 44) l i2 e none (l.getD i2.toNat r0).t (i2 + 1) none := Step.ok ⟨1, rfl, by rw [hr]; simp⟩ (by rw [hr]; exact takeR_hit h9)
  exact (hL.next hk ht h2).1
theorem Adv.range {l : List Tr} {i n : Int} (h : Adv l i n) (h0 : 0 ≤ i) (h1 : i ≤ l.length) : i ≤ n ∧ n ≤ l.length := by
 obtain ⟨m, rfl, hm⟩ := h
 have : (rest l i).length ≤ l.length - i.toNat := by
  unfold rest
  rw [if_neg (by omega), List.length_drop]
  exact zL _
 omega
end DT
open DT
end
section
open Go.RowKit
theorem setCells_row {g : Nat} {t : TypeId} : ∀ (ys : List Value) (o : Nat) (cs : Array Value) (w : World), RowAt w g t cs → ∃ ds : Array Value, RowAt (w.setCells g o ys) g t ds ∧ ds.size = cs.size ∧ (∀ j, (j < o ∨ o + ys.length ≤ j) → ds[j]? = cs[j]?) ∧ (∀ j, j < ys.length → o + j < cs.size → ds[o + j]? = ys[j]?)
 | [], o, cs, w, h => ⟨cs, h, rfl, fun _ _ => rfl, fun j hj => by simp at hj⟩
 | y :: ys, o, cs, w, h => by
   obtain ⟨ds, h1, h2, h3, h4⟩ := setCells_row ys (o + 1) _ _ (h.put o y)
   refine ⟨ds, h1, by rw [h2, Array.size_setIfInBounds], fun j hj => ?_, fun j hj hjs => ?_⟩
   ·rw [h3 j (by simp only [zA8] at hj; omega), Array.getElem?_setIfInBounds_ne (by simp only [zA8] at hj; omega)]
   ·cases j with
    | zero =>
      rw [Nat.add_zero, h3 o (by omega), Array.getElem?_setIfInBounds_self_of_lt (by omega)]
      simp
    | succ j =>
      rw [show o + (j + 1) = o + 1 + j by omega, h4 j (by simpa using hj) (by rw [Array.size_setIfInBounds]; omega)]
      simp
theorem setCells_size (w : World) (g o : Nat) (ys : List Value) : (w.setCells g o ys).heap.size = w.heap.size := by
 induction ys generalizing w o with
 | nil => rfl
 | cons y ys ih => rw [World.setCells, ih]; simp [World.setCell]
theorem setCells_other (w : World) (g o : Nat) (ys : List Value) (k : Nat) (hk : k ≠ g) : (w.setCells g o ys).heap[k]? = w.heap[k]? := by
 induction ys generalizing w o with
 | nil => rfl
 | cons y ys ih =>
   rw [World.setCells, ih]
   simp only [World.setCell, Array.getElem?_modify, if_neg (fun e => hk (Eq.symm e))]
theorem setCells_env (w : World) (g o : Nat) (ys : List Value) : (w.setCells g o ys).os = w.os ∧ (w.setCells g o ys).tape = w.tape ∧ (w.setCells g o ys).output = w.output := by
 induction ys generalizing w o with
 | nil => exact ⟨rfl, rfl, rfl⟩
 | cons y ys ih => rw [World.setCells]; exact ih _ _
theorem setCells_below {B g : Nat} {w : World} (hB : B ≤ g) (o : Nat) (ys : List Value) : Below B w (w.setCells g o ys) :=
 ⟨(setCells_env w g o ys).1, (setCells_env w g o ys).2.1, (setCells_env w g o ys).2.2, by rw [setCells_size]; exact zL _, fun k hk => setCells_other w g o ys k (by omega)⟩
theorem own_fill {w : World} {base size n c g : Nat} {e : TypeId} {cs zs ys : List Value} (h : w.ownsRow base e size (.slice (some ⟨g, 0, none⟩) (n + 1) c) (n + 1) (cs ++ zs)) (hc : cs.length = n * size) (hy : ys.length = size) :
 (w.setCells g (n * size) ys).ownsRow base e size (.slice (some ⟨g, 0, none⟩) (n + 1) c) (n + 1) (cs ++ ys) ∧ w.there g (n * size) size := by
 have hm : (n + 1) * size = n * size + size := by rw [Nat.add_mul, Nat.one_mul]
 rcases h.2 with ⟨hv, _⟩ | ⟨g', cap, cur, hv, hg, hh, h1, h2, h3, h4⟩
 ·cases hv
 ·injection hv with e1 _ e3
  injection e1 with e1
  injection e1 with e1 _ _
  subst e1 e3
  have hcs : (n + 1) * size ≤ cur.size := by rw [h3]; exact Nat.mul_le_mul_right _ h1
  obtain ⟨ds, d1, d2, d3, d4⟩ := setCells_row ys (n * size) cur w hh
  refine ⟨⟨by rw [zA7]; omega, .inr ⟨g, c, ds, rfl, hg, d1, h1, h2, by omega, ?_⟩⟩, fun j hj => ⟨?_, RowAt.free hh _⟩⟩
  ·refine List.ext_getElem? fun j => ?_
   by_cases hj : j < (n + 1) * size
   ·rw [List.getElem?_take_of_lt hj]
    show ds.toList[j]? = _
    rw [Array.getElem?_toList]
    by_cases hj2 : j < n * size
    ·rw [d3 j (.inl hj2), List.getElem?_append_left (by omega)]
     have e := congrArg (fun l : List Value => l[j]?) h4
     rw [List.getElem?_take_of_lt hj, List.getElem?_append_left (by omega)] at e
     simpa using e
    ·have e := d4 (j - n * size) (by omega) (by omega)
     rw [show n * size + (j - n * size) = j by omega] at e
     rw [e, List.getElem?_append_right (by omega), hc]
   ·rw [List.getElem?_eq_none (by rw [List.length_take]; omega), List.getElem?_eq_none (by rw [zA7]; omega)]
  ·rw [RowAt.cell hh, Array.getElem?_eq_getElem (by omega)]; rfl
end
section
open Go.RowKit LX TR TM DT
namespace DT
def putL (cs : Array Value) (o : Nat) : List Value → Array Value
 | [] => cs
 | y :: ys => putL (cs.setIfInBounds o y) (o + 1) ys
end DT
theorem RowAt.putsD {w : World} {g : Nat} {t : TypeId} {cs : Array Value} (h : RowAt w g t cs) (ys : List Value) (o : Nat) : RowAt (w.setCells g o ys) g t (DT.putL cs o ys) := by
 induction ys generalizing w cs o with
 | nil => exact h
 | cons y ys ih => exact ih (h.put o y) (o + 1)
theorem RowAt.thereD {w : World} {g : Nat} {t : TypeId} {cs : Array Value} (h : RowAt w g t cs) {o n : Nat} (hn : o + n ≤ cs.size) : w.there g o n := fun j hj => ⟨by rw [h.cell, Array.getElem?_eq_getElem (by omega)]; rfl, h.free _⟩
end
section
open Go.RowKit LX TR TM CM
def kcells (j : Nat) : List Value := [.string (kws.getD j ⟨#[]⟩), .string (lts.getD j ⟨#[]⟩)]
def ccells : List Value := (List.range 16).flatMap kcells
def Cmds (w : World) : Prop := w.rangeAt 0 0 ccells
theorem ccells_at {k j : Nat} (hk : k < 16) (hj : j < 2) : ccells[k * 2 + j]? = (kcells k)[j]? := by
 have h := fm_at (f := kcells) (m := 2) (fun _ => rfl) 0 (List.range 16) k j (by simpa using hk) hj
 rw [show (List.range 16).getD k 0 = k by rw [List.getD_eq_getElem?_getD, List.getElem?_range hk]; rfl] at h
 exact h
theorem Cmds.at {w : World} (h : Cmds w) {k : Nat} (hk : k < 16) : w.cell? ⟨0, k * 2, none⟩ = some (.string (kws.getD k ⟨#[]⟩)) ∧ w.cell? ⟨0, k * 2 + 1, none⟩ = some (.string (lts.getD k ⟨#[]⟩)) := by
 have h1 := h (k * 2 + 0) _ ((ccells_at hk (j := 0) (by omega)).trans rfl)
 have h2 := h (k * 2 + 1) _ ((ccells_at hk (j := 1) (by omega)).trans rfl)
 rw [Nat.zero_add, Nat.add_zero] at h1
 rw [Nat.zero_add] at h2
 exact ⟨h1, h2⟩
theorem Cmds.pos {w : World} (h : Cmds w) : 0 < w.heap.size := World.block_lt_of_cell? w _ (h.at (k := 0) (by omega)).1
theorem Cmds.below {w w' : World} (h : Cmds w) {B : Nat} (hb : Below B w w') (hB : 0 < B) : Cmds w' := range_below h hb hB
theorem Cmds.low {w w' : World} (h : Cmds w) (hb : Below w.heap.size w w') : Cmds w' := h.below hb h.pos
theorem tab_in {op : Int} (h : 0 ≤ op ∧ op < 16) : ∃ k : Nat, op = (k : Int) ∧ k < 16 := ⟨op.toNat, by omega, by omega⟩
theorem word_cmd (op : Int) (w : World) (hT : Cmds w) : Calls Tryz.prog 14 #[.int .i64 op] w fun e w' => e = .returned (.string (wrd op)) ∧ w' = w := by
 by_cases h0 : op < 0
 ·rw [wrd_out (by omega)]
  have e0 : decide (op < 0) = true := zE h0
  go_enter Tryz.func14, Tryz.ntmps14
  go_wp2_with fail
  go_ret
  exact ⟨rfl, rfl⟩
 ·have e0 : decide (op < 0) = false := zF h0
  by_cases h1 : 16 ≤ op
  ·rw [wrd_out (by omega)]
   have e1 : decide ((16 : Int) ≤ op) = true := zE h1
   go_enter Tryz.func14, Tryz.ntmps14
   go_wp2_with fail
   go_ret
   exact ⟨rfl, rfl⟩
  ·obtain ⟨k, rfl, hk⟩ := tab_in (op := op) (by omega)
   have e1 : decide ((16 : Int) ≤ (k : Int)) = false := zF h1
   have hc := (hT.at hk).1
   rw [wrd_in hk]
   generalize kws.getD k ⟨#[]⟩ = s at *
   have hk2 : (k : Int) < 16 := by omega
   clear hT h0 h1
   go_enter Tryz.func14, Tryz.ntmps14
   go_wp2_with fail
   go_ret
   exact ⟨rfl, rfl⟩
theorem parts_cmd (op : Int) (w : World) (hT : Cmds w) : Calls Tryz.prog 21 #[.int .i64 op] w fun e w' => e = .returned (.string (ltr op)) ∧ w' = w := by
 by_cases h0 : op < 0
 ·rw [ltr_out (by omega)]
  have e0 : decide (op < 0) = true := zE h0
  go_enter Tryz.func21, Tryz.ntmps21
  go_wp2_with fail
  go_ret
  exact ⟨rfl, rfl⟩
 ·have e0 : decide (op < 0) = false := zF h0
  by_cases h1 : 16 ≤ op
  ·rw [ltr_out (by omega)]
   have e1 : decide ((16 : Int) ≤ op) = true := zE h1
   go_enter Tryz.func21, Tryz.ntmps21
   go_wp2_with fail
   go_ret
   exact ⟨rfl, rfl⟩
  ·obtain ⟨k, rfl, hk⟩ := tab_in (op := op) (by omega)
   have e1 : decide ((16 : Int) ≤ (k : Int)) = false := zF h1
   have hc := (hT.at hk).2
   rw [ltr_in hk]
   generalize lts.getD k ⟨#[]⟩ = s at *
   have hk2 : (k : Int) < 16 := by omega
   clear hT h0 h1
   go_enter Tryz.func21, Tryz.ntmps21
   go_wp2_with fail
   go_ret
   exact ⟨rfl, rfl⟩
end
section
open Go.RowKit LX TR TM DT CM
theorem qword_any (op : Int) (w : World) : Calls Tryz.prog 15 #[.int .i64 op] w fun e w' => e = .returned (.string (wrd op)) ∧ Below w.heap.size w w' := by
 have hcs : (kws.map Value.string).toArray.size = 16 := rfl
 have hrow := RowAt.new w 9 (kws.map Value.string).toArray
 have hb : Below w.heap.size w (w.alloc (.cells (kws.map Value.string).toArray 9)) := (zB _ _).alloc (zL _) _
 have HB := zh hb
 by_cases h0 : op < 0
 ·rw [wrd_out (by omega)]
  have e0 : decide (op < 0) = true := zE h0
  clear hcs hrow hb
  go_enter Tryz.func15, Tryz.ntmps15
  go_wp2_with fail
  go_ret
  exact ⟨rfl, HB.out⟩
 ·have e0 : decide (op < 0) = false := zF h0
  by_cases h1 : 16 ≤ op
  ·rw [wrd_out (by omega)]
   have e1 : decide ((16 : Int) ≤ op) = true := zE h1
   clear hcs hrow hb
   go_enter Tryz.func15, Tryz.ntmps15
   go_wp2_with fail
   go_ret
   exact ⟨rfl, HB.out⟩
  ·obtain ⟨k, rfl, hk⟩ := tab_in (op := op) (by omega)
   have e1 : decide ((16 : Int) ≤ (k : Int)) = false := zF h1
   have hc : (w.alloc (.cells (kws.map Value.string).toArray 9)).cell? ⟨w.heap.size, k, none⟩ = some (.string (kws.getD k ⟨#[]⟩)) := by
        rw [hrow.cell k]
        have hkl : k < kws.length := hk
        rw [zA1, List.getElem?_map, List.getElem?_eq_getElem hkl, List.getD_eq_getElem?_getD, List.getElem?_eq_getElem hkl]
        rfl
   have HC := zh hc
   rw [wrd_in hk]
   have hk2 : (k : Int) < 16 := by omega
   clear h0 h1 hc hb hrow hcs
   generalize kws.getD k ⟨#[]⟩ = s at *
   go_enter Tryz.func15, Tryz.ntmps15
   go_upto_region 2 with fail
   change Code.wp _ _ _ _ (w.alloc (.cells (kws.map Value.string).toArray 9))
   generalize w.alloc (.cells (kws.map Value.string).toArray 9) = w1 at *
   have c0 := HC.out
   go_wp2_with fail
   go_ret
   exact ⟨rfl, HB.out⟩
theorem qletters_any (op : Int) (w : World) : Calls Tryz.prog 28 #[.int .i64 op] w fun e w' => e = .returned (.string (ltr op)) ∧ Below w.heap.size w w' := by
 have hcs : (lts.map Value.string).toArray.size = 16 := rfl
 have hrow := RowAt.new w 9 (lts.map Value.string).toArray
 have hb : Below w.heap.size w (w.alloc (.cells (lts.map Value.string).toArray 9)) := (zB _ _).alloc (zL _) _
 have HB := zh hb
 by_cases h0 : op < 0
 ·rw [ltr_out (by omega)]
  have e0 : decide (op < 0) = true := zE h0
  clear hcs hrow hb
  go_enter Tryz.func28, Tryz.ntmps28
  go_wp2_with fail
  go_ret
  exact ⟨rfl, HB.out⟩
 ·have e0 : decide (op < 0) = false := zF h0
  by_cases h1 : 16 ≤ op
  ·rw [ltr_out (by omega)]
   have e1 : decide ((16 : Int) ≤ op) = true := zE h1
   clear hcs hrow hb
   go_enter Tryz.func28, Tryz.ntmps28
   go_wp2_with fail
   go_ret
   exact ⟨rfl, HB.out⟩
  ·obtain ⟨k, rfl, hk⟩ := tab_in (op := op) (by omega)
   have e1 : decide ((16 : Int) ≤ (k : Int)) = false := zF h1
   have hc : (w.alloc (.cells (lts.map Value.string).toArray 9)).cell? ⟨w.heap.size, k, none⟩ = some (.string (lts.getD k ⟨#[]⟩)) := by
        rw [hrow.cell k]
        have hkl : k < lts.length := hk
        rw [zA1, List.getElem?_map, List.getElem?_eq_getElem hkl, List.getD_eq_getElem?_getD, List.getElem?_eq_getElem hkl]
        rfl
   have HC := zh hc
   rw [ltr_in hk]
   have hk2 : (k : Int) < 16 := by omega
   clear h0 h1 hc hb hrow hcs
   generalize lts.getD k ⟨#[]⟩ = s at *
   go_enter Tryz.func28, Tryz.ntmps28
   go_upto_region 2 with fail
   change Code.wp _ _ _ _ (w.alloc (.cells (lts.map Value.string).toArray 9))
   generalize w.alloc (.cells (lts.map Value.string).toArray 9) = w1 at *
   have c0 := HC.out
   go_wp2_with fail
   go_ret
   exact ⟨rfl, HB.out⟩
end
section
open Go.RowKit LX TR TM CM
def crc (A : Option Addr) (n c : Nat) (e x y : Int) : Array Value := #[.slice A n c, .int .i64 e, .int .i64 x, .int .i64 y]
abbrev CrAt (w : World) (b : Nat) (A : Option Addr) (n c : Nat) (e x y : Int) : Prop := RowAt w b 84 (crc A n c e x y)
theorem cr_cells {w : World} {b : Nat} {A : Option Addr} {n c : Nat} {e x y : Int} (h : CrAt w b A n c e x y) : w.cell? ⟨b, 0, none⟩ = some (.slice A n c) ∧ w.cell? ⟨b, 1, none⟩ = some (.int .i64 e) ∧ w.cell? ⟨b, 2, none⟩ = some (.int .i64 x) ∧ w.cell? ⟨b, 3, none⟩ = some (.int .i64 y) :=
 ⟨(h.cell 0).trans rfl, (h.cell 1).trans rfl, (h.cell 2).trans rfl, (h.cell 3).trans rfl⟩
def Few (l : List Tr) : Prop := l.length ≤ 2199023255552 ∧ ∀ x ∈ nodes l, x.ks.length ≤ 2199023255552
theorem Few.drop {l : List Tr} (h : Few l) (m : Nat) : Few (l.drop m) := by
 refine ⟨by have := h.1; rw [List.length_drop]; omega, fun x hx => h.2 x ?_⟩
 have e := nodes_append (l.take m) (l.drop m)
 rw [List.take_append_drop] at e
 rw [e]; exact List.mem_append_right _ hx
theorem Few.kid {l : List Tr} {x : Tr} (h : Few l) (hx : x ∈ l) : Few x.ks := ⟨h.2 x (mem_nodes hx), fun y hy => h.2 y (TR.mem_kids hx hy)⟩
def advA (A : Option Addr) (c k : Nat) : Option Addr := if c = k then A else A.map fun a => a.add (k * 5)
theorem Trs.drop {w : World} {B c : Nat} {A : Option Addr} {l : List Tr} (h : Trs w B A l) (hc : l.length ≤ c) (k : Nat) : Trs w B (advA A c k) (l.drop k) := by
 refine ⟨fun hne => ?_, fun x hx => h.2 x ?_⟩
 ·have e : tcs l = tcs (l.take k) ++ tcs (l.drop k) := by rw [← tcs_append, List.take_append_drop]
  obtain ⟨b, o, hA, hb, hcell⟩ := h.1 (by rw [e]; intro h0; exact hne (List.append_eq_nil_iff.1 h0).2)
  have hk : k < l.length := by
   rcases Nat.lt_or_ge k l.length with h | h
   ·exact h
   ·exfalso; apply hne; rw [List.drop_eq_nil_of_le h]; rfl
  refine ⟨b, o + k * 5, ?_, hb, fun j u hu => ?_⟩
  ·unfold advA
   rw [if_neg (by omega), hA]
   show some ((⟨b, o, none⟩ : Addr).add (k * 5)) = _
   unfold Addr.add; split <;> simp_all
  ·rw [Nat.add_assoc]
   refine hcell _ u ?_
   have hl : (tcs (l.take k)).length = k * 5 := by rw [tcs_length, List.length_take, Nat.min_eq_left (by omega)]
   rw [e, List.getElem?_append_right (by omega), hl, show k * 5 + j - k * 5 = j by omega]
   exact hu
 ·have e := nodes_append (l.take k) (l.drop k)
  rw [List.take_append_drop] at e
  rw [e]; exact List.mem_append_right _ hx
structure Cr (w : World) (b : Nat) (A : Option Addr) (c : Nat) (l : List Tr) (e : Int) (f : Option Int) : Prop where
 at_ : CrAt w b A l.length c e (fc f) (fa f)
 trs : Trs w b A l
 len : Few l
 cap : l.length ≤ c
section
variable {w w' : World} {b B c : Nat} {A : Option Addr} {l : List Tr} {e : Int} {f : Option Int}
theorem Cr.lt (h : Cr w b A c l e f) : b < w.heap.size := h.at_.lt
theorem Cr.low (h : Cr w b A c l e f) (hb : Below B w w') (hB : b < B) : Cr w' b A c l e f := ⟨h.at_.below hb hB, h.trs.below (hb.mono (Nat.le_of_lt hB)), h.len, h.cap⟩
theorem Cr.below (h : Cr w b A c l e f) (hb : Below w.heap.size w w') : Cr w' b A c l e f := h.low hb h.lt
theorem Cr.alloc (h : Cr w b A c l e f) (o : Obj) : Cr (w.alloc o) b A c l e f := h.below ((zB _ _).alloc (zL _) o)
theorem Cr.drewN (h : Cr w b A c l e f) (m : Nat) : Cr (w.drewN m) b A c l e f := h.below (bdrewN (zB _ _) m)
theorem Cr.drew (h : Cr w b A c l e f) : Cr w.drew b A c l e f := h.drewN 1
theorem Cr.far (h : Cr w b A c l e f) {g j : Nat} (hg : b < g) {u : Value} : Cr (w.setCell ⟨g, j, none⟩ u) b A c l e f :=
 ⟨h.at_.far (p := ⟨g, j, none⟩) (Nat.ne_of_gt hg) u, h.trs.below ((zB b w).setCell (p := ⟨g, j, none⟩) (Nat.le_of_lt hg) u), h.len, h.cap⟩
theorem Cr.mv {A2 : Option Addr} {c2 : Nat} {l2 : List Tr} {e2 : Int} {f2 : Option Int} (h : Cr w b A c l e f) (hm : Mv b w w') (h1 : CrAt w' b A2 l2.length c2 e2 (fc f2) (fa f2)) (h2 : Trs w b A2 l2) (h3 : Few l2) (h4 : l2.length ≤ c2) : Cr w' b A2 c2 l2 e2 f2 := ⟨h1, h2.below hm.low, h3, h4⟩
end
structure StepL {α : Type} (rd : Rdr α) (l : List Tr) (e : Int) (f : Option Int) (x : α) (l2 : List Tr) (f2 : Option Int) : Prop where
 suf : ∃ m, l2 = l.drop m
 bad : ∀ p, f = some p → f2 = some p
 good : f = none → match rd l e with
  | .error p => f2 = some p
  | .ok (y, r) => f2 = none ∧ x = y ∧ l2 = r
section
variable {α β : Type} {rd : Rdr α} {l l2 l3 : List Tr} {e : Int} {f f2 f3 : Option Int} {x : α}
theorem StepL.err {p : Int} (hs : ∃ m, l2 = l.drop m) (h : f = some p ∨ (f = none ∧ rd l e = .error p)) : StepL rd l e f x l2 (some p) :=
 ⟨hs, fun q hq => by rcases h with h | ⟨h, _⟩ <;> rw [h] at hq <;> cases hq; rfl, fun hf => by
  rcases h with h | ⟨_, h⟩
  ·rw [hf] at h; cases h
  ·rw [h]⟩
theorem StepL.ok (hs : ∃ m, l2 = l.drop m) (h : rd l e = .ok (x, l2)) : StepL rd l e none x l2 none := ⟨hs, fun _ h => (by cases h), fun _ => by rw [h]; exact ⟨rfl, rfl, rfl⟩⟩
theorem StepL.cases (h : StepL rd l e f x l2 f2) : (∃ p, f2 = some p ∧ (f = some p ∨ (f = none ∧ rd l e = .error p))) ∨ (f = none ∧ f2 = none ∧ rd l e = .ok (x, l2)) := by
 obtain ⟨_, h1, h2⟩ := h
 cases f with
 | some p => exact .inl ⟨p, h1 p rfl, .inl rfl⟩
 | none =>
   have h2 := h2 rfl
   cases hr : rd l e with
   | error p => rw [hr] at h2; exact .inl ⟨p, h2, .inr ⟨rfl, rfl⟩⟩
   | ok yr =>
     obtain ⟨y, r⟩ := yr
     rw [hr] at h2
     obtain ⟨rfl, rfl, rfl⟩ := h2
     exact .inr ⟨rfl, rfl, rfl⟩
theorem suf_refl (l : List Tr) : ∃ m, l = l.drop m := ⟨0, rfl⟩
theorem suf_trans (h : ∃ m, l2 = l.drop m) (h2 : ∃ m, l3 = l2.drop m) : ∃ m, l3 = l.drop m := by
 obtain ⟨m, rfl⟩ := h
 obtain ⟨n, rfl⟩ := h2
 exact ⟨m + n, by rw [List.drop_drop]⟩
theorem StepL.bind {rd2 : α → Rdr β} {y : β} (h : StepL rd l e f x l2 f2) (h2 : StepL (rd2 x) l2 e f2 y l3 f3) : StepL (fun ts e => bnd (rd ts e) fun a r => rd2 a r e) l e f y l3 f3 := by
 have hs := suf_trans h.suf h2.suf
 rcases h.cases with ⟨p, rfl, hr | ⟨rfl, hr⟩⟩ | ⟨rfl, rfl, hr⟩
 ·obtain rfl := h2.bad p rfl
  exact .err hs (.inl hr)
 ·obtain rfl := h2.bad p rfl
  exact .err hs (.inr ⟨rfl, by show bnd _ _ = _; rw [hr]; rfl⟩)
 ·rcases h2.cases with ⟨p, rfl, hr2 | ⟨_, hr2⟩⟩ | ⟨_, rfl, hr2⟩
  ·cases hr2
  ·exact .err hs (.inr ⟨rfl, by show bnd _ _ = _; rw [hr]; exact hr2⟩)
  ·exact .ok hs (by show bnd _ _ = _; rw [hr]; exact hr2)
theorem StepL.pure (y : β) : StepL (fun ts _ => .ok (y, ts)) l e f y l f := by
 cases f with
 | none => exact .ok (suf_refl _) rfl
 | some p => exact .err (suf_refl _) (.inl rfl)
theorem StepL.map (g : α → β) (h : StepL rd l e f x l2 f2) : StepL (fun ts e => bnd (rd ts e) fun a r => .ok (g a, r)) l e f (g x) l2 f2 := h.bind (rd2 := fun a ts _ => .ok (g a, ts)) (.pure (g x))
end
def failL (l : List Tr) (e : Int) (f : Option Int) : Option Int := some (f.getD (offOf l e))
def treeR (k : Nat) : Rdr Tr := fun ts e => match ts with
 | [] => .error e
 | x :: r => if x.t.k = k then .ok (x, r) else .error x.t.p
theorem take_of_tree {k : Nat} {l l2 : List Tr} {e : Int} {f f2 : Option Int} {x : Tr} (h : StepL (treeR k) l e f x l2 f2) : StepL (takeR k) l e f x.t l2 f2 := by
 have h1 := h.map (fun x : Tr => x.t)
 refine ⟨h1.suf, h1.bad, fun hf => ?_⟩
 have h2 := h1.good hf
 rw [show bnd (treeR k l e) (fun a r => .ok (a.t, r)) = takeR k l e from by
  cases l with
  | nil => rfl
  | cons y r => simp only [treeR, takeR]; split <;> rfl] at h2
 exact h2
theorem tree_info (a b c d e : Value) : (Tryz.prog.info? 104).map (·.size) = some (#[a, b, c, d, e] : Array Value).size := by kernel_rfl
theorem cfail_any {w : World} {b : Nat} {A : Option Addr} {c : Nat} {l : List Tr} {e : Int} {f : Option Int} (h : Cr w b A c l e f) :
 Calls Tryz.prog 93 #[.pointer (some ⟨b, 0, none⟩)] w fun e' w' => e' = .returned (.tuple #[]) ∧ Cr w' b A c l e (failL l e f) ∧ Mv b w w' ∧ w'.heap.size = w.heap.size := by
 obtain ⟨c0, c1, c2, c3⟩ := cr_cells h.at_
 have f2 := h.at_.free 2
 have f3 := h.at_.free 3
 have hbw := h.lt
 cases f with
 | some p =>
   have HR : Hid (Cr w b A c l e (failL l e (some p))) := h
   clear h
   simp only [fc, Option.isSome_some, if_true] at c2
   go_enter Tryz.func93, Tryz.ntmps93
   go_wp2_with fail
   exact bodyPost_ret (results_none rfl _ _ _) rfl ⟨rfl, HR.out, Mv.refl _ _, rfl⟩
 | none =>
   have H := zh h
   simp only [fc, fa, Option.isSome_none, Bool.false_eq_true, if_false, Option.getD_none] at c2 c3
   cases l with
   | nil =>
     clear h
     go_enter Tryz.func93, Tryz.ntmps93
     go_wp2_with fail
     go_end0
     have hm : Mv b w ((w.setCell ⟨b, 2, none⟩ (.int .i64 2)).setCell ⟨b, 3, none⟩ (.int .i64 e)) := ((Mv.refl b w).setCell (p := ⟨b, 2, none⟩) (.inl rfl) hbw _).setCell (p := ⟨b, 3, none⟩) (.inl rfl) hbw _
     exact ⟨rfl, H.out.mv hm ((H.out.at_.put 2 _).put 3 _) H.out.trs H.out.len H.out.cap, hm, by simp [World.setCell]⟩
   | cons x r =>
     obtain ⟨bb, o, rfl, hbl, hc⟩ := h.trs.at (k := 0) (by simp)
     obtain ⟨_, _, k2, _, _⟩ := hc 0 (by simp)
     rw [List.getD_cons_zero, Nat.zero_mul, Nat.add_zero] at k2
     have hne : bb ≠ b := by omega
     have hb1 : bb < w.heap.size := by omega
     have hlen : (0 : Int) < ((x :: r).length : Int) := by simp only [zA8]; omega
     clear h hc
     show Calls _ _ _ _ fun e' w' => e' = .returned (.tuple #[]) ∧ Cr w' b (some ⟨bb, o, none⟩) c (x :: r) e (some x.t.p) ∧ _
     generalize x.t.p = q at *
     generalize hn : (x :: r).length = n at *
     have HN := zh hn; clear hn
     have hd1 : decide (0 < n) = true := zE (by omega)
     go_enter Tryz.func93, Tryz.ntmps93
     go_wp2_with fail
     go_end0
     have hm : Mv b w (((w.setCell ⟨b, 2, none⟩ (.int .i64 2)).setCell ⟨b, 3, none⟩ (.int .i64 e)).setCell ⟨b, 3, none⟩ (.int .i64 q)) := (((Mv.refl b w).setCell (p := ⟨b, 2, none⟩) (.inl rfl) hbw _).setCell (p := ⟨b, 3, none⟩) (.inl rfl) hbw _).setCell (p := ⟨b, 3, none⟩) (.inl rfl) hbw _
     have ha := ((H.out.at_.put 2 (.int .i64 2)).put 3 (.int .i64 e)).put 3 (.int .i64 q)
     exact ⟨rfl, H.out.mv hm ha H.out.trs H.out.len H.out.cap, hm, by simp [World.setCell]⟩
end
section
open Go.RowKit LX TR TM CM
theorem tree_hit {k : Nat} {x : Tr} {r : List Tr} {e : Int} (h : x.t.k = k) : treeR k (x :: r) e = .ok (x, r) := by simp only [treeR]; rw [if_pos h]
theorem tree_miss {k : Nat} {ts : List Tr} {e : Int} (h : kindOf ts none ≠ k ∨ ts = []) : treeR k ts e = .error (offOf ts e) := by
 cases ts with
 | nil => rfl
 | cons x r =>
   have h' : ¬ x.t.k = k := h.elim (fun h => h) (fun h => by cases h)
   simp only [treeR]; rw [if_neg h']; rfl
theorem tree_err {k : Nat} {l : List Tr} {e : Int} {f : Option Int} (hk : kindOf l none ≠ k ∨ l = []) (x : Tr) : StepL (treeR k) l e f x l (failL l e f) := by
 cases f with
 | some p => exact .err (suf_refl _) (.inl rfl)
 | none => exact .err (suf_refl _) (.inr ⟨rfl, tree_miss hk⟩)
theorem ctake_any {w : World} {b : Nat} {A : Option Addr} {c : Nat} {l : List Tr} {e : Int} {f : Option Int} (h : Cr w b A c l e f) (k : Nat) :
 Calls Tryz.prog 94 #[.pointer (some ⟨b, 0, none⟩), .int .u8 (k : Int)] w fun e' w' => ∃ x A2 c2 l2 f2, e' = .returned (.agg (trv x)) ∧ Cr w' b A2 c2 l2 e f2 ∧ Mv b w w' ∧ StepL (treeR k) l e f x l2 f2 ∧ (x = r0 ∨ x ∈ l) := by
 have hbw := h.lt
 have HA0 := zh (h.at_.alloc (.cells #[.int .u8 0, .string ⟨#[]⟩, .int .i64 0, .slice none 0 0, .int .i64 0] 104))
 have HM0 : Hid (Mv b w (w.alloc (.cells #[.int .u8 0, .string ⟨#[]⟩, .int .i64 0, .slice none 0 0, .int .i64 0] 104))) := (Mv.refl b w).alloc hbw _
 have HG := zh (RowAt.new w 104 #[.int .u8 0, .string ⟨#[]⟩, .int .i64 0, .slice none 0 0, .int .i64 0])
 have HS := zh (h.alloc (.cells #[.int .u8 0, .string ⟨#[]⟩, .int .i64 0, .slice none 0 0, .int .i64 0] 104))
 have HF := zh (cfail_any HS.out)
 obtain ⟨c0, _, _, _⟩ := cr_cells h.at_
 have hb2 : ¬ b = w.heap.size := by omega
 refine calls_hid fun Q' hQ => ?_
 have HQ := zh hQ; clear hQ
 by_cases hm : kindOf l none = k ∧ l ≠ []
 ·cases l with
  | nil => exact absurd rfl hm.2
  | cons x r =>
    obtain ⟨bb, o, rfl, hbl, hc⟩ := h.trs.at (k := 0) (by simp)
    obtain ⟨k0, k1, k2, k3, k4⟩ := hc 0 (by simp)
    simp only [List.getD_cons_zero, Nat.zero_mul, Nat.add_zero] at k0 k1 k2 k3 k4
    have hkk : x.t.k = k := hm.1
    rw [hkk] at k0
    have hcap := h.cap
    have HTR := zh (h.trs.drop hcap 1)
    have HFEW := zh (h.len.drop 1)
    have hn1 : ((x :: r).length : Int) = (r.length : Int) + 1 := by simp
    have hw1 : IntKind.i64.wrap ((r.length : Int) + 1) = (r.length : Int) + 1 := by have := h.len.1; simp only [zA8] at this; rw [IntKind.wrap_i64] <;> omega
    have hlen : decide ((r.length : Int) + 1 = 0) = false := zF (by omega)
    have HX : Hid (trv x = #[.int .u8 (k : Int), .string x.t.s, .int .i64 x.t.p, .slice x.A x.ks.length x.c, .int .i64 x.e]) := by rw [← hkk]; exact rfl
    have HST : Hid (∀ f2, f2 = f → StepL (treeR k) (x :: r) e f x r f2) := fun f2 hf => by
        subst hf
        cases f2 with
        | some p => exact .err ⟨1, rfl⟩ (.inl rfl)
        | none => exact .ok ⟨1, rfl⟩ (tree_hit hkk)
    have f0 := h.at_.free 0
    have hb3 : bb < w.heap.size := by omega
    have hne : ¬ bb = b := by omega
    have hb4 : ¬ bb = w.heap.size := by omega
    simp only [zA8] at c0
    have hz : ((r.length : Int) + 1 == 0) = false := by rw [beq_eq_false_iff_ne]; omega
    have HEND : Hid (∀ A2 c2, A2 = advA (some ⟨bb, o, none⟩) c 1 → c2 = c - 1 → ∀ W, W = ((w.setCell ⟨b, 0, none⟩ (.slice A2 r.length c2)).alloc (.cells #[.int .u8 (k : Int), .string x.t.s, .int .i64 x.t.p, .slice x.A x.ks.length x.c, .int .i64 x.e] 104)).alloc (.cells #[.int .u8 (k : Int), .string x.t.s, .int .i64 x.t.p, .slice x.A x.ks.length x.c, .int .i64 x.e] 104) →
        RowAt W w.heap.size 104 #[.int .u8 (k : Int), .string x.t.s, .int .i64 x.t.p, .slice x.A x.ks.length x.c, .int .i64 x.e] ∧ Q' (.returned (.agg #[.int .u8 (k : Int), .string x.t.s, .int .i64 x.t.p, .slice x.A x.ks.length x.c, .int .i64 x.e])) W) := fun A2 c2 h1 h2 W hW => by
        subst h1 h2 hW
        have hm1 : Mv b w (w.setCell ⟨b, 0, none⟩ (.slice (advA (some ⟨bb, o, none⟩) c 1) r.length (c - 1))) := (Mv.refl b w).setCell (p := ⟨b, 0, none⟩) (.inl rfl) hbw _
        have hs1 := h.mv hm1 (h.at_.put 0 (.slice (advA (some ⟨bb, o, none⟩) c 1) r.length (c - 1))) HTR.out HFEW.out (by simp only [zA8] at hcap; show r.length ≤ c - 1; omega)
        have hz1 : (w.setCell ⟨b, 0, none⟩ (.slice (advA (some ⟨bb, o, none⟩) c 1) r.length (c - 1))).heap.size = w.heap.size := by simp [World.setCell]
        have hr := (RowAt.new (w.setCell ⟨b, 0, none⟩ (.slice (advA (some ⟨bb, o, none⟩) c 1) r.length (c - 1))) 104 #[.int .u8 (k : Int), .string x.t.s, .int .i64 x.t.p, .slice x.A x.ks.length x.c, .int .i64 x.e]).alloc (.cells #[.int .u8 (k : Int), .string x.t.s, .int .i64 x.t.p, .slice x.A x.ks.length x.c, .int .i64 x.e] 104)
        rw [hz1] at hr
        exact ⟨hr, HQ.out _ _ ⟨x, _, _, _, f, by rw [HX.out], (hs1.alloc _).alloc _, (hm1.alloc hbw _).alloc hbw _, HST.out f rfl, .inr (by simp)⟩⟩
    clear hm hc HF h HST HTR HFEW HS hcap HA0 HM0 HX
    generalize x.t.s = xs at *
    generalize x.t.p = xp at *
    generalize x.ks.length = xn at *
    generalize r.length = n at *
    by_cases hc1 : c = 1
    ·subst hc1
     go_enter Tryz.func94, Tryz.ntmps94
     go_wp2_with fail
     obtain ⟨h1, h2⟩ := HEND.out _ _ rfl rfl _ rfl
     exact bodyPost_ret (ret_cell rfl _ _ w.heap.size _ _ (0, 0) _ rfl h1 Tryz.underlying104 rfl (tree_info _ _ _ _ _)) rfl h2
    ·go_enter Tryz.func94, Tryz.ntmps94
     go_wp2_with fail
     obtain ⟨h1, h2⟩ := HEND.out (some ⟨bb, o + 5, none⟩) (c - 1) (by unfold advA; rw [if_neg hc1]; rfl) rfl _ rfl
     exact bodyPost_ret (ret_cell rfl _ _ w.heap.size _ _ (0, 0) _ rfl h1 Tryz.underlying104 rfl (tree_info _ _ _ _ _)) rfl h2
 ·have hk : kindOf l none ≠ k ∨ l = [] := by
   by_cases e0 : l = []
   ·exact .inr e0
   ·exact .inl fun e1 => hm ⟨e1, e0⟩
  have HEND : Hid (∀ w2, Cr w2 b A c l e (failL l e f) → Mv b (w.alloc (.cells #[.int .u8 0, .string ⟨#[]⟩, .int .i64 0, .slice none 0 0, .int .i64 0] 104)) w2 →
        RowAt (set5 w2 w.heap.size (.int .u8 0) (.string ⟨#[]⟩) (.int .i64 0) (.slice none 0 0) (.int .i64 0)) w.heap.size 104 #[.int .u8 0, .string ⟨#[]⟩, .int .i64 0, .slice none 0 0, .int .i64 0] ∧ Q' (.returned (.agg #[.int .u8 0, .string ⟨#[]⟩, .int .i64 0, .slice none 0 0, .int .i64 0])) (set5 w2 w.heap.size (.int .u8 0) (.string ⟨#[]⟩) (.int .i64 0) (.slice none 0 0) (.int .i64 0))) := fun w2 h1 h2 =>
   ⟨set5_row (HG.out.mv h2 (Nat.ne_of_gt hbw)), HQ.out _ _ ⟨r0, _, _, _, _, rfl, h1.low (set5_below (zL w.heap.size)) hbw, (HM0.out.trans h2).onBelow hbw (set5_below (zL _)) (zL _), tree_err hk _, .inl rfl⟩⟩
  cases l with
  | nil =>
    simp only [zA9] at c0
    clear hm hk h HS HA0 HM0
    go_enter Tryz.func94, Tryz.ntmps94
    go_wp2_with fail
    refine HF.out.mono ?_
    rintro e' w2 ⟨rfl, hs2, hm2, hz2⟩
    have hg2 := HG.out.mv hm2 (Nat.ne_of_gt hbw)
    have h3 := HEND.out w2 hs2 hm2
    obtain ⟨g0, g1, g2, g3, g4, u0, u1, u2, u3, u4⟩ := row5 hg2
    have H3 := zh h3
    clear hs2 hm2 hg2 h3 hz2 HEND HG
    go_wp2_with fail
    exact bodyPost_ret (ret_cell rfl _ _ w.heap.size _ _ (0, 0) _ rfl H3.out.1 Tryz.underlying104 rfl (tree_info _ _ _ _ _)) rfl H3.out.2
  | cons x r =>
    obtain ⟨bb, o, rfl, hbl, hc⟩ := h.trs.at (k := 0) (by simp)
    obtain ⟨k0, _, _, _, _⟩ := hc 0 (by simp)
    simp only [List.getD_cons_zero, Nat.zero_mul, Nat.add_zero] at k0
    have hne : ((x.t.k : Int) != (k : Int)) = true := by
        have h1 : x.t.k ≠ k := hk.elim (fun h => h) (fun h => by cases h)
        simp; omega
    simp only [zA8] at c0
    have hz : ((r.length : Int) + 1 == 0) = false := by rw [beq_eq_false_iff_ne]; omega
    have hb3 : bb < w.heap.size := by omega
    have hb4 : ¬ bb = w.heap.size := by omega
    clear hm hk h HS HA0 HM0 hc
    generalize x.t.k = q at *
    generalize r.length = n at *
    go_enter Tryz.func94, Tryz.ntmps94
    go_wp2_with fail
    refine HF.out.mono ?_
    rintro e' w2 ⟨rfl, hs2, hm2, hz2⟩
    have hg2 := HG.out.mv hm2 (Nat.ne_of_gt hbw)
    have h3 := HEND.out w2 hs2 hm2
    obtain ⟨g0, g1, g2, g3, g4, u0, u1, u2, u3, u4⟩ := row5 hg2
    have H3 := zh h3
    clear hs2 hm2 hg2 h3 hz2 HEND HG
    go_wp2_with fail
    exact bodyPost_ret (ret_cell rfl _ _ w.heap.size _ _ (0, 0) _ rfl H3.out.1 Tryz.underlying104 rfl (tree_info _ _ _ _ _)) rfl H3.out.2
end
section
open Go.RowKit LX TR TM CM
def ReadsL {α : Type} (F : FuncId) (V : World → Nat → α → Value → Prop) (rd : Rdr α) : Prop :=
 ∀ (w : World) (b : Nat) (A : Option Addr) (c : Nat) (l : List Tr) (e : Int) (f : Option Int), Cr w b A c l e f →
   Calls Tryz.prog F #[.pointer (some ⟨b, 0, none⟩)] w fun e' w' => ∃ v x A2 c2 l2 f2, e' = .returned v ∧ V w' w.heap.size x v ∧ Cr w' b A2 c2 l2 e f2 ∧ Mv b w w' ∧ StepL rd l e f x l2 f2
def PairV (_w : World) (_s : Nat) (x : Pw) (v : Value) : Prop := v = .agg (pwv x)
theorem pair_info (a b c d : Value) : (Tryz.prog.info? 65).map (·.size) = some (#[a, b, c, d] : Array Value).size := by kernel_rfl
theorem run_field_tok (a b c d e : Value) (w : World) : (Instr.field 104 (.agg #[a, b, c, d, e]) 0).run Tryz.prog w = .ok (.agg #[a, b, c]) w := by
 unfold Instr.field
 rw [Sem.run_bind, Tryz.runUnderlying104]
 simp only [Result.andThen_ok, zA1, zA3, Sem.run_bind, asAgg, Sem.run_pure]
 unfold part
 rw [Sem.run_bind, Tryz.isAgg78]
 simp [Tryz.sizeOf78]
theorem cname_any : ReadsL 112 WordV nameR := by
 intro w b A c l e f h
 have hbw := h.lt
 have HM0 : Hid (Mv b w (w.alloc (.cells #[.string ⟨#[]⟩, .int .i64 0] 23))) := (Mv.refl b w).alloc hbw _
 have HG := zh (RowAt.new w 23 #[.string ⟨#[]⟩, .int .i64 0])
 have HT := zh (ctake_any (h.alloc (.cells #[.string ⟨#[]⟩, .int .i64 0] 23)) 97)
 clear h
 refine calls_hid fun Q' hQ => ?_
 have HQ := zh hQ; clear hQ
 go_enter Tryz.func112, Tryz.ntmps112
 go_wp2_with fail
 refine HT.out.mono ?_
 rintro e' w1 ⟨x, A2, c2, l2, f2, rfl, hs, hm, hst, _⟩
 have HG1 := HG.out.mv hm (Nat.ne_of_gt hbw)
 have HST : Hid (StepL nameR l e f ⟨x.t.s, x.t.p⟩ l2 f2) := (take_of_tree hst).map (fun t : Tk => (⟨t.s, t.p⟩ : Wd))
 obtain ⟨⟨k, s, p⟩, xA, xc, xk, xe⟩ := x
 have hsz := HG1.lt
 have HS1 := zh hs
 have HM1 := zh (HM0.out.trans hm)
 obtain ⟨g0, g1, u0, u1⟩ := row2 HG1
 have hn5 := RowAt.new w1 78 #[.int .u8 (k : Int), .string s, .int .i64 p]
 obtain ⟨m0, m1, m2, _, _, _⟩ := row3 hn5
 have HG2 := zh HG1
 clear hs hm hst HG1 hn5
 unfold trv
 simp only [Tr.t, Tr.ks, Tr.A, Tr.c, Tr.e] at HST ⊢
 generalize xk.length = xn at *
 have hq5 := run_field_tok (.int .u8 (k : Int)) (.string s) (.int .i64 p) (.slice xA xn xc) (.int .i64 xe)
 go_wp2_with fail
 have hgf := ((HG2.out.put 0 (.string s)).put 1 (.int .i64 p)).alloc (.cells #[.int .u8 (k : Int), .string s, .int .i64 p] 78)
 exact bodyPost_ret (ret_cell rfl _ _ w.heap.size _ _ (0, 0) _ rfl hgf Tryz.underlying23 rfl (word_info _ _)) rfl (HQ.out _ _ ⟨.agg (wv ⟨s, p⟩), ⟨s, p⟩, A2, c2, l2, f2, rfl, rfl, ((HS1.out.far hbw).far hbw).alloc _,
  ((HM1.out.setCell (p := ⟨w.heap.size, 0, none⟩) (.inr (zL _)) hbw _).setCell (p := ⟨w.heap.size, 1, none⟩) (.inr (zL _)) hbw _).alloc hbw _, HST.out⟩)
theorem cpair_any : ReadsL 123 PairV pairR := by
 intro w b A c l e f h
 have hbw := h.lt
 have HM0 : Hid (Mv b w (w.alloc (.cells #[.string ⟨#[]⟩, .int .i64 0, .string ⟨#[]⟩, .int .i64 0] 65))) := (Mv.refl b w).alloc hbw _
 have HG := zh (RowAt.new w 65 #[.string ⟨#[]⟩, .int .i64 0, .string ⟨#[]⟩, .int .i64 0])
 have HT := zh (cname_any _ _ _ _ _ _ _ (h.alloc (.cells #[.string ⟨#[]⟩, .int .i64 0, .string ⟨#[]⟩, .int .i64 0] 65)))
 clear h
 refine calls_hid fun Q' hQ => ?_
 have HQ := zh hQ; clear hQ
 go_enter Tryz.func123, Tryz.ntmps123
 go_wp2_with fail
 refine HT.out.mono ?_
 rintro e' w1 ⟨v, ⟨s1, p1⟩, A1, c1, l1, f1, rfl, rfl, hs, hm, hst⟩
 have HST1 := zh hst
 have HM1 := zh (HM0.out.trans hm)
 have HG1 := zh ((HG.out.mv hm (Nat.ne_of_gt hbw)).alloc (.cells #[.string s1, .int .i64 p1] 23))
 have HW1 := zh (RowAt.new w1 23 #[.string s1, .int .i64 p1])
 have hsz1 : w.heap.size < w1.heap.size := (HG.out.mv hm (Nat.ne_of_gt hbw)).lt
 have HM2 := zh (HM1.out.alloc hbw (.cells #[.string s1, .int .i64 p1] 23))
 have HT2 := zh (ctake_any (hs.alloc (.cells #[.string s1, .int .i64 p1] 23)) 60)
 clear hs hm hst
 unfold wv
 go_wp2_with fail
 refine HT2.out.mono ?_
 rintro e' w2 ⟨x, A2, c2, l2, f2, rfl, hs, hm, hst, _⟩
 have HST2 := zh (take_of_tree hst)
 have HM3 := zh (HM2.out.trans hm)
 have HG2 := zh (HG1.out.mv hm (Nat.ne_of_gt hbw))
 have HW2 := zh (HW1.out.mv hm (by omega))
 have HC := zh (fun q => cname_any _ _ _ _ _ _ _ (hs.drewN q))
 clear hs hm hst
 unfold trv
 go_wp2_with fail
 obtain ⟨S, hSe⟩ : ∃ S : World → Prop, S = fun W => RowAt W w1.heap.size 23 #[.string s1, .int .i64 p1] := ⟨_, rfl⟩
 have HS : Hid (S w2.drew) := by rw [hSe]; exact zh HW2.out.drew
 have C0 : ∀ W, S W → W.cell? ⟨w1.heap.size, 0, none⟩ = some (.string s1) := fun W h => by rw [hSe] at h; exact (row2 h).1
 have C1 : ∀ W, S W → W.cell? ⟨w1.heap.size, 1, none⟩ = some (.int .i64 p1) := fun W h => by rw [hSe] at h; exact (row2 h).2.1
 refine wp_region_ord S [(0, true), (1, true), (2, false), (3, true), (4, false)] (by kernel_rfl) (by kernel_rfl) rfl (by kernel_rfl) HS.out ?_
 iterate 2
  (refine wpOrd_step (zO rfl) ?_)
  (first
        | (refine wpOrd_skip (by rfl) ?_)
        | (refine wpOrd_take (v := ?_) (by rfl) ?_ ?_; rotate_left 1; (intro wx hSx; have hc_0 := C0 wx hSx; have hc_1 := C1 wx hSx; go_simp; try with_reducible rfl)))
  (try simp only [Act.put, zA4, zA5, zA6])
 (refine wpOrd_solo (zO rfl) ?_)
 intro K hK
 go_simp
 go_at_call 112
 refine (HC.out 1).mono ?_
 rintro e' w3 ⟨v, ⟨s2, p2⟩, A3, c3, l3, f3, rfl, rfl, hs, hm, hst⟩
 have hS : S w3 := by rw [hSe]; exact HW2.out.drew.mv hm (by omega)
 have HG3 := zh (HG2.out.drew.mv hm (Nat.ne_of_gt hbw))
 have HM4 := zh (HM3.out.drew.trans hm)
 have HS3 := zh hs
 have HST3 := zh hst
 clear HS
 have HS := zh hS; clear hS hs hm hst
 refine hK.out _ _ HS.out ?_
 clear hK K
 (try simp only [Act.put, zA4, zA5, zA6])
 unfold wv
 iterate 1
  (refine wpOrd_step (zO rfl) ?_)
  (first
        | (refine wpOrd_skip (by rfl) ?_)
        | (refine wpOrd_take (v := ?_) (by rfl) ?_ ?_; rotate_left 1; (intro wx hSx; go_simp; try with_reducible rfl)))
  (try simp only [Act.put, zA4, zA5, zA6])
 (refine wpOrd_solo (zO rfl) ?_)
 intro K hK
 rw [if_pos (by rfl)]
 refine wp_store_row _ _ _ rfl w.heap.size #[.string s1, .int .i64 p1, .string s2, .int .i64 p2] rfl rfl _ _ HG3.out (pair_info _ _ _ _) rfl (by simp [Value.oneCell']) ?_
 have hg4 := HG3.out.setRow #[.string s1, .int .i64 p1, .string s2, .int .i64 p2]
 have hS4 : S (w3.setRow w.heap.size #[.string s1, .int .i64 p1, .string s2, .int .i64 p2]) := by
  have h := HS.out
  rw [hSe] at h ⊢
  exact (setRow_other w3 w.heap.size w1.heap.size _ (by omega)).trans h
 refine hK.out _ _ hS4 ?_
 clear hK K
 simp only [Act.put]
 refine wpOrd_done ?_
 have HG4 := zh hg4
 clear hg4 hS4
 go_wp2
 have hm5 := HM4.out.setRow (g := w.heap.size) (.inr (zL _)) hbw #[.string s1, .int .i64 p1, .string s2, .int .i64 p2]
 have hs5 := HS3.out.low (below_setRow (zL w.heap.size) #[.string s1, .int .i64 p1, .string s2, .int .i64 p2]) hbw
 have h2 : StepL (fun ts e => bnd (nameR ts e) fun b r3 => .ok ((⟨⟨s1, p1⟩, b⟩ : Pw), r3)) l2 e f2 ⟨⟨s1, p1⟩, ⟨s2, p2⟩⟩ l3 f3 := HST3.out.map (fun b => (⟨⟨s1, p1⟩, b⟩ : Pw))
 have h1 := HST2.out.bind (rd2 := fun _ ts e => bnd (nameR ts e) fun b r3 => .ok ((⟨⟨s1, p1⟩, b⟩ : Pw), r3)) h2
 have h0 : StepL pairR l e f ⟨⟨s1, p1⟩, ⟨s2, p2⟩⟩ l3 f3 := HST1.out.bind (rd2 := fun a ts e => bnd (takeR 60 ts e) fun _ r2 => bnd (nameR r2 e) fun b r3 => .ok ((⟨a, b⟩ : Pw), r3)) h1
 exact bodyPost_ret (ret_cell rfl _ _ w.heap.size _ _ (0, 0) _ rfl HG4.out Tryz.underlying65 rfl (pair_info _ _ _ _)) rfl (HQ.out _ _ ⟨.agg (pwv ⟨⟨s1, p1⟩, ⟨s2, p2⟩⟩), ⟨⟨s1, p1⟩, ⟨s2, p2⟩⟩, A3, c3, l3, f3, rfl, rfl, hs5, hm5,
  h0⟩)
end
section
namespace CM
open LX TR TM
def endL {α : Type} (xs : List α) (x : Res (List α)) : Except Int (List α) := match x with
 | .error p => .error p
 | .ok (ys, []) => .ok (xs ++ ys)
 | .ok (_, y :: _) => .error y.t.p
structure LstL {α : Type} (rd : Rdr α) (R : Except Int (List α)) (e : Int) (xs : List α) (l2 : List Tr) (f2 : Option Int) : Prop where
 bad : ∀ p, f2 = some p → R = .error p
 good : f2 = none → ∃ n : Nat, l2.length ≤ n ∧ endL xs (moreR rd n l2 e) = R
section
variable {α : Type} {rd : Rdr α} {e : Int} {xs : List α} {x : α} {l l2 l3 l4 : List Tr} {f2 f3 f4 : Option Int} {t : Tk} {R : Except Int (List α)}
theorem LstL.start (hR : endL [] (someR rd l e) = R) (h : StepL rd l e none x l2 f2) : LstL rd R e [x] l2 f2 := by
 subst hR
 rcases h.cases with ⟨p, rfl, h | ⟨_, hr⟩⟩ | ⟨_, rfl, hr⟩
 ·cases h
 ·exact ⟨fun q hq => by cases hq; unfold someR; rw [hr]; rfl, fun h => by cases h⟩
 ·obtain ⟨m, rfl⟩ := h.suf
  refine ⟨fun q hq => (by cases hq), fun _ => ⟨l.length, by rw [List.length_drop]; omega, ?_⟩⟩
  unfold someR
  rw [hr]
  show _ = endL [] (bnd (moreR rd l.length (l.drop m) e) _)
  cases moreR rd l.length (l.drop m) e with
  | error p => rfl
  | ok yr => obtain ⟨ys, r⟩ := yr; cases r <;> rfl
theorem LstL.next {c : Tr} {r : List Tr} (h : LstL rd R e xs (c :: r) none) (h2 : StepL (takeR 44) (c :: r) e none t l3 f3) (h3 : StepL rd l3 e f3 x l4 f4) : LstL rd R e (xs ++ [x]) l4 f4 := by
 obtain ⟨n, hn, hR⟩ := h.good rfl
 obtain ⟨n, rfl⟩ : ∃ k, n = k + 1 := ⟨n - 1, by simp only [zA8] at hn; omega⟩
 simp only [moreR] at hR
 by_cases hc : c.t.k = 44
 ·rw [if_pos hc] at hR
  have e2 := h2.good rfl
  rw [takeR_hit hc] at e2
  obtain ⟨rfl, _, rfl⟩ := e2
  rcases h3.cases with ⟨p, rfl, h | ⟨_, hr⟩⟩ | ⟨_, rfl, hr⟩
  ·cases h
  ·exact ⟨fun q hq => by cases hq; rw [← hR, hr]; rfl, fun h => by cases h⟩
  ·obtain ⟨m, rfl⟩ := h3.suf
   refine ⟨fun q hq => (by cases hq), fun _ => ⟨n, by simp only [zA8] at hn; rw [List.length_drop]; omega, ?_⟩⟩
   rw [← hR, hr]
   show endL _ _ = endL xs (bnd (moreR rd n (l3.drop m) e) _)
   cases moreR rd n (l3.drop m) e with
   | error p => rfl
   | ok yr =>
     obtain ⟨ys, r⟩ := yr
     cases r with
     | nil => simp [endL, bnd]
     | cons _ _ => rfl
 ·rw [if_neg hc] at hR
  have e2 := h2.good rfl
  rw [takeR_miss (show kindOf (c :: r) none ≠ 44 from hc)] at e2
  have e2 : f3 = some c.t.p := e2
  subst e2
  obtain rfl := h3.bad _ rfl
  exact ⟨fun q hq => by cases hq; rw [← hR]; rfl, fun h => by cases h⟩
end
def prsA : Rdr (List Pw × Int) := fun ts e => bnd (prsR ts e) fun l r => .ok ((l, offOf ts e), r)
theorem opt_end {ks : List Tr} {e : Int} (h : ks ≠ []) : endL [] (someR pairR ks e) = endL [] (optR pairR ks e) := by
 cases ks with
 | nil => exact absurd rfl h
 | cons x r =>
   simp only [optR]
   split
   ·rename_i hk
    show endL [] (someR pairR (x :: r) e) = .error x.t.p
    unfold someR pairR nameR
    rw [takeR_miss (show kindOf (x :: r) none ≠ 97 by show x.t.k ≠ 97; omega)]; rfl
   ·rfl
theorem prs_end {x : Tr} {r : List Tr} {e : Int} (hk : x.t.k = 123) : prsA (x :: r) e = match endL [] (optR pairR x.ks x.e) with
 | .error p => .error p
 | .ok ps => .ok ((ps, x.t.p), r) := by
 unfold prsA prsR
 simp only [withinR]
 rw [if_pos hk]
 cases optR pairR x.ks x.e with
 | error p => rfl
 | ok yr =>
   obtain ⟨ys, q⟩ := yr
   cases q <;> rfl
end CM
open Go.RowKit LX TR TM CM
def PairsV (w : World) (s : Nat) (x : List Pw × Int) (v : Value) : Prop := ∃ B d, v = .tuple #[.slice B x.1.length d, .int .i64 x.2] ∧ x.1.length ≤ d ∧ SlC w (fun k => s ≤ k) B (pwcs x.1)
theorem infoPair : (Tryz.prog.info? 65).map (fun i => (i.zero, i.size, i.bytes)) = some (some (.agg #[.string ⟨#[]⟩, .int .i64 0, .string ⟨#[]⟩, .int .i64 0]), 4, 48) := by kernel_rfl
theorem pc_one (x : Pw) : ∀ u ∈ pwcells x, u.oneCell' = true := by
 intro u hu
 simp only [pwcells, List.mem_cons, List.not_mem_nil, or_false] at hu
 rcases hu with rfl | rfl | rfl | rfl <;> rfl
theorem cpairs_any : ReadsL 114 PairsV prsA := by
 intro w b A c l e f h
 have hbw := h.lt
 have HT := zh (ctake_any h 123)
 have HLEN := zh h.len
 have HTRS := zh h.trs
 clear h
 refine calls_hid fun Q' hQ => ?_
 have HQ := zh hQ; clear hQ
 go_enter Tryz.func114, Tryz.ntmps114
 go_wp2_with fail
 refine HT.out.mono ?_
 rintro e' w1 ⟨x, A1, c1, l1, f1, rfl, hs, hm, hst, hx⟩
 have HM1 := zh hm
 have hsz1 := hs.lt
 have hszw : w.heap.size ≤ w1.heap.size := hm.size
 have HKD : Hid (Trs w1 b x.A x.ks ∧ Few x.ks ∧ x.ks.length ≤ x.c) := by
  have ht1 := HTRS.out.below hm.low
  rcases hx with rfl | hx
  ·exact zh ⟨Trs.nil _ _ _, ⟨by decide, fun y hy => by simp [r0, Tr.ks, nodes] at hy⟩, by decide⟩
  ·exact zh ⟨ht1.kid hx, HLEN.out.kid hx, ht1.cap hx⟩
 have HST : Hid (StepL (treeR 123) l e f x l1 f1) := hst
 have HN1 := zh (RowAt.new w1 104 (trv x))
 have HS1 := zh (hs.alloc (.cells (trv x) 104))
 have HM2 := zh (hm.alloc hbw (.cells (trv x) 104))
 have HK1 := zh (fun W (h : Below w1.heap.size w1 W) => HKD.out.1.below (h.mono (Nat.le_of_lt hsz1)))
 have HBA : Hid (Below w1.heap.size w1 (w1.alloc (.cells (trv x) 104))) := zh ((zB _ _).alloc (zL _) _)
 clear hs hm hst hx HT HM1 HTRS HLEN
 have HKF := zh HKD.out.2
 clear HKD
 obtain ⟨⟨q, s, p⟩, xA, xc, ks, xe⟩ := x
 unfold trv at HN1 HS1 HM2 HBA ⊢
 simp only [Tr.t, Tr.ks, Tr.A, Tr.c, Tr.e] at HN1 HS1 HM2 HBA HK1 HKF ⊢
 go_upto_region 2 with fail
 generalize hw2 : w1.alloc (.cells #[.int .u8 (q : Int), .string s, .int .i64 p, .slice xA ks.length xc, .int .i64 xe] 104) = w2 at *
 have hsz2 : w1.heap.size < w2.heap.size := HN1.out.lt
 clear hw2
 obtain ⟨c0, c1', c2', c3'⟩ := cr_cells HS1.out.at_
 obtain ⟨t0, t1, t2, t3, t4, _, _, _, _, _⟩ := row5 HN1.out
 generalize hkn : ks.length = n at *
 have HKN := zh hkn; clear hkn
 go_region
 clear c0 c1' c2' c3' t0 t1 t2 t3 t4
 have HCI := zh ((RowAt.new w2 84 (crc xA n xc xe (fc f1) (fa f1))).drew)
 have hbi : Below w2.heap.size w2 (w2.alloc (.cells (crc xA n xc xe (fc f1) (fa f1)) 84)).drew := ((zB _ _).alloc (zL _) _).drew
 have HS2 := zh (HS1.out.below hbi)
 have HM3 := zh (HM2.out.onBelow hbw hbi (by omega))
 have HN2 := zh (HN1.out.below hbi HN1.out.lt)
 have HK2 : Hid (Trs ((w2.alloc (.cells (crc xA n xc xe (fc f1) (fa f1)) 84)).drew) w2.heap.size xA ks) := zh ((HK1.out _ (HBA.out.trans (hbi.mono (by omega)))).mono (by omega))
 clear hbi HS1 HM2 HN1 HK1 HBA
 unfold crc at HCI HS2 HM3 HN2 HK2
 generalize (w2.alloc (.cells #[.slice xA n xc, .int .i64 xe, .int .i64 (fc f1), .int .i64 (fa f1)] 84)).drew = w3 at *
 have HCR : Hid (Cr w3 w2.heap.size xA xc ks xe f1) := zh ⟨by rw [HKN.out]; exact HCI.out, HK2.out, HKF.out.1, by rw [HKN.out]; exact HKF.out.2⟩
 obtain ⟨OUT, hOUT⟩ : ∃ OUT : World → Prop, OUT = fun W => Cr W b A1 c1 l1 e f1 ∧ Mv b w W ∧ RowAt W w1.heap.size 104 #[.int .u8 (q : Int), .string s, .int .i64 p, .slice xA n xc, .int .i64 xe] := ⟨_, rfl⟩
 have HO3 : Hid (OUT w3) := by rw [hOUT]; exact zh ⟨HS2.out, HM3.out, HN2.out⟩
 have HKP : Hid (∀ Wa Wb, OUT Wa → Below w2.heap.size Wa Wb → OUT Wb) := by
  refine zh fun Wa Wb h hb => ?_
  rw [hOUT] at h ⊢
  exact ⟨h.1.low hb (by omega), h.2.1.onBelow hbw hb (by omega), h.2.2.below hb (by omega)⟩
 have HOUT := zh hOUT
 clear hOUT HS2 HM3 HN2 HK2 HCI
 generalize hR : endL [] (optR pairR ks xe) = R at *
 have HR := zh hR; clear hR
 have HSZ3 := HCR.out.lt
 obtain ⟨LI, hLI⟩ : ∃ LI : List Pw → List Tr → Option Int → Prop, LI = fun xs l2 f2 => (∀ p0, f1 = some p0 → f2 = some p0) ∧ (f1 = none → LstL pairR R xe xs l2 f2) ∧ (f2 = none → xs.length + l2.length ≤ n + 1) := ⟨_, rfl⟩
 have HLI0 : Hid (ks = [] → LI [] [] f1) := by
  refine zh fun hk => ?_
  rw [hLI]
  refine ⟨fun _ h => h, fun hf => ?_, fun _ => by simp⟩
  rw [hf, ← HR.out, hk]
  exact ⟨fun _ h => (by cases h), fun _ => ⟨0, by simp, rfl⟩⟩
 have HLI1 : Hid (∀ x4 l4 f4, ks ≠ [] → StepL pairR ks xe f1 x4 l4 f4 → l4.length ≤ n → LI [x4] l4 f4) := by
  refine zh fun x4 l4 f4 hk h hl => ?_
  rw [hLI]
  refine ⟨fun p0 hf => h.bad p0 hf, fun hf => ?_, fun _ => by simp only [List.length_singleton]; omega⟩
  subst hf
  exact LstL.start (by rw [opt_end hk]; exact HR.out) h
 have HLI2 : Hid (∀ xs c r t l3 f3 x4 l4 f4, LI xs (c :: r) none → StepL (takeR 44) (c :: r) xe none t l3 f3 → StepL pairR l3 xe f3 x4 l4 f4 → LI (xs ++ [x4]) l4 f4 ∧ (f4 = none → l4.length ≤ r.length)) := by
  refine zh fun xs c r t l3 f3 x4 l4 f4 h h2 h3 => ?_
  rw [hLI] at h ⊢
  have hlen : f4 = none → l4.length ≤ r.length := fun hf => by
   obtain ⟨m, rfl⟩ := h3.suf
   rcases h2.cases with ⟨p, rfl, _⟩ | ⟨_, rfl, hr⟩
   ·have := h3.bad p rfl; rw [hf] at this; cases this
   ·obtain ⟨y, hy, _, _⟩ := take_inv hr
    injection hy with _ hy
    rw [List.length_drop, ← hy]; omega
  have hf1 : f1 = none := by
   cases f1 with
   | none => rfl
   | some p => have := h.1 p rfl; cases this
  refine ⟨⟨fun p0 hf => (by rw [hf1] at hf; cases hf), fun hf => (h.2.1 hf).next h2 h3, fun hf => ?_⟩, hlen⟩
  have h4 := hlen hf
  have h5 := h.2.2 rfl
  simp only [zA7, zA8, zA9] at h5 ⊢
  omega
 have HLE : Hid (∀ xs l2 f2, LI xs l2 f2 → (f2 = none → l2 = []) → ∀ f3, f3 = f2 → StepL prsA l e f (xs, p) l1 f3) := by
  refine zh fun xs l2 f2 h hend f3 hf3 => ?_
  subst hf3
  rw [hLI] at h
  have hpr : ∀ p0, treeR 123 l e = .error p0 → prsA l e = .error p0 := fun p0 h => by
   unfold prsA prsR
   cases l with
   | nil =>
     injection h with h
     rw [← h]; rfl
   | cons y r =>
     simp only [treeR] at h
     simp only [withinR]
     by_cases hy : y.t.k = 123
     ·rw [if_pos hy] at h; cases h
     ·rw [if_neg hy] at h ⊢
      injection h with h
      rw [h]; rfl
  rcases HST.out.cases with ⟨p0, hp0, h1 | ⟨h1, h2⟩⟩ | ⟨h1, h2, h3⟩
  ·rw [h.1 p0 hp0]
   exact .err HST.out.suf (.inl h1)
  ·rw [h.1 p0 hp0]
   exact .err HST.out.suf (.inr ⟨h1, hpr p0 h2⟩)
  ·have hl := h.2.1 h2
   have hsuf := HST.out.suf
   cases l with
   | nil => cases h3
   | cons y r =>
     simp only [treeR] at h3
     by_cases hy : y.t.k = 123
     ·rw [if_pos hy] at h3
      obtain ⟨rfl, rfl⟩ := ok_inj h3
      have hpe := prs_end (r := r) (e := e) hy
      simp only [Tr.ks, Tr.e, Tr.t] at hpe
      rw [HR.out] at hpe
      cases f3 with
      | some p2 => exact .err hsuf (.inr ⟨h1, by rw [hpe, hl.bad p2 rfl]⟩)
      | none =>
        subst h1
        obtain ⟨k, _, hk⟩ := hl.good rfl
        rw [hend rfl] at hk
        have hm : moreR pairR k [] xe = .ok ([], []) := by cases k <;> rfl
        rw [hm] at hk
        simp only [endL, List.append_nil] at hk
        exact .ok hsuf (by rw [hpe, ← hk])
     ·rw [if_neg hy] at h3; cases h3
 have HXS : Hid (∀ xs l2, LI xs l2 none → xs.length + l2.length ≤ n + 1) := by
  refine zh fun xs l2 h => ?_
  rw [hLI] at h
  exact h.2.2 rfl
 clear hLI HR HST
 have HFEW : Hid (n ≤ 2199023255552) := by rw [← HKN.out]; exact zh HKF.out.1.1
 have ho3 := HO3.out
 rw [HOUT.out] at ho3
 obtain ⟨_, _, _, t3, _, _, _, _, _, _⟩ := row5 ho3.2.2
 clear ho3
 go_upto_if 22 with fail
 clear t3
 go_cut [6] from 22 to 27 (fun lv wx => ∃ (xs : List Pw) (X : Option Addr) (d : Nat) (A2 : Option Addr) (c2 : Nat) (l2 : List Tr) (f2 : Option Int), lv = .slice X xs.length d ∧ Hid (LI xs l2 f2) ∧ Hid (Cr wx w2.heap.size A2 c2 l2 xe f2) ∧ Hid (OUT wx) ∧ Hid (wx.ownsRow (w2.heap.size + 1) 65 4 (.slice X xs.length d) xs.length (pwcs xs)) ∧ Hid (l2.length ≤ n))
 case first =>
  cases ks with
  | nil =>
    have hn0 : n = 0 := HKN.out.symm
    have HL := zh (HLI0.out rfl)
    have hd0 : decide (0 < n) = false := zF (by omega)
    have hd1 : ¬ (0 : Int) < (n : Int) := by omega
    clear hn0
    go_wp2_with fail
    go_meet
    case rel => exact ⟨[], none, 0, xA, xc, [], f1, rfl, HL.out, HCR.out, HO3.out, World.ownsRow_nil _ _ _ _, Nat.zero_le _⟩
  | cons y ys =>
    have hn0 : 0 < n := by rw [← HKN.out]; simp
    have hd0 : decide (0 < n) = true := zE hn0
    have hd1 : (0 : Int) < (n : Int) := by omega
    have HC4 := zh (cpair_any _ _ _ _ _ _ _ HCR.out)
    go_wp2_with fail
    refine HC4.out.mono ?_
    rintro e' w4 ⟨v4, x4, A4, c4, l4, f4, rfl, rfl, hs4, hm4, hst4⟩
    have hl4 : l4.length ≤ n := by
        obtain ⟨m, rfl⟩ := hst4.suf
        rw [List.length_drop, HKN.out]; omega
    have HL := zh (HLI1.out x4 l4 f4 (by simp) hst4 hl4)
    have HO4 := zh (HKP.out _ _ HO3.out hm4.low)
    have HCR4 := zh hs4
    have HL4 := zh hl4
    have hbase : w2.heap.size + 1 ≤ w4.heap.size := hs4.lt
    clear hs4 hm4 hst4 hl4 hn0 hd0 hd1
    unfold pwv
    go_wp2_with (at_builtin; refine wpList_moreB _ rfl _ _ 25 rfl 65 (.agg #[.string ⟨#[]⟩, .int .i64 0, .string ⟨#[]⟩, .int .i64 0]) 4 48 Tryz.underlying25 infoPair rfl (by decide) (w2.heap.size + 1) none 0 0 (pwcs []) rfl ?c1 w4.heap.size (pwcells x4) rfl rfl ?c2 (pc_one x4) ?c3 ?c4 ?c5 ?_)
    case c1 => exact World.ownsRow_nil _ _ _ _
    case c2 => intro j u hu; have h := (RowAt.new w4 65 (pwcells x4).toArray).cell j; exact h.trans (by simpa using hu)
    case c3 => simp only [maxLen]; omega
    case c4 => omega
    case c5 => simp; omega
    intro X5 d5 w5 hown5 hb5 hg5 hat5
    have hb45 : Below (w2.heap.size + 1) w4 w5 := ((zB _ w4).alloc hbase _).trans hb5
    have HO5 := zh (HKP.out _ _ HO4.out (hb45.mono (Nat.le_succ _)))
    have HCR5 := zh (HCR4.out.low hb45 (zS _))
    have HOWN := zh hown5
    clear hown5 hb5 hg5 hat5 hb45
    go_wp2_with fail
    go_meet
    case rel => exact ⟨[x4], X5, d5, A4, c4, l4, f4, rfl, HL.out, HCR5.out, HO5.out, HOWN.out, HL4.out⟩
 case rest =>
  obtain ⟨xs, X, d, A2, c2, l2, f2, rfl, HL, HC, HO, HW, HLN⟩ := hcut
  clear HLI0 HLI1 HCR HO3 HKN HKF
  go_wp2_with fail
  go_loopg [6] (n + 2) (fun mm sv wr => ∃ (xs : List Pw) (X : Option Addr) (d : Nat) (A2 : Option Addr) (c2 : Nat) (l2 : List Tr) (f2 : Option Int), mm ≤ n + 2 ∧ sv = .slice X xs.length d ∧ Hid (f2 = none → l2.length < mm) ∧ Hid (LI xs l2 f2) ∧ Hid (Cr wr w2.heap.size A2 c2 l2 xe f2) ∧ Hid (OUT wr) ∧ Hid (wr.ownsRow (w2.heap.size + 1) 65 4 (.slice X xs.length d) xs.length (pwcs xs)))
  case atStart => exact ⟨xs, X, d, A2, c2, l2, f2, by omega, rfl, fun _ => by have h := HLN.out; omega, HL.out, HC.out, HO.out, HW.out⟩
  case round =>
   obtain ⟨xs, X, d, A2, c2, l2, f2, hmm, rfl, HME, HL, HC, HO, HW⟩ := hrel
   have ho := HO.out
   rw [HOUT.out] at ho
   have HOB := zh ho.1
   have HOM := zh ho.2.1
   have HON := zh ho.2.2
   clear ho
   obtain ⟨i0, _, i2, i3⟩ := cr_cells HC.out.at_
   have q1 : w2.heap.size ≠ b := by omega
   have q2 : w1.heap.size ≠ b := by omega
   cases f2 with
   | some p2 =>
     have HE := zh (fun f3 h => HLE.out xs l2 (some p2) HL.out (fun h => by cases h) f3 h)
     simp only [fc, fa, Option.isSome_some, if_true, Option.getD_some] at i2 i3
     have f2c := HOB.out.at_.free 2
     obtain ⟨_, _, b2, b3⟩ := cr_cells HOB.out.at_
     have f3c := HOB.out.at_.free 3
     obtain ⟨_, _, t2, _, _, _, _, _, _, _⟩ := row5 HON.out
     have HM9 : Hid (Mv b wr ((wr.setCell ⟨b, 2, none⟩ (.int .i64 2)).setCell ⟨b, 3, none⟩ (.int .i64 p2))) := ((Mv.refl b wr).setCell (p := ⟨b, 2, none⟩) (.inl rfl) HOB.out.lt _).setCell (p := ⟨b, 3, none⟩) (.inl rfl) HOB.out.lt _
     have HC9 : Hid (Cr ((wr.setCell ⟨b, 2, none⟩ (.int .i64 2)).setCell ⟨b, 3, none⟩ (.int .i64 p2)) b A1 c1 l1 e (some p2)) := HOB.out.mv HM9.out ((HOB.out.at_.put 2 (.int .i64 2)).put 3 (.int .i64 p2)) HOB.out.trs HOB.out.len HOB.out.cap
     have HW9 : Hid (Mv b w ((wr.setCell ⟨b, 2, none⟩ (.int .i64 2)).setCell ⟨b, 3, none⟩ (.int .i64 p2))) := (HOM.out.setCell (p := ⟨b, 2, none⟩) (.inl rfl) hbw _).setCell (p := ⟨b, 3, none⟩) (.inl rfl) hbw _
     have HCAP := zh (own_cap_le HW.out)
     have HSC : Hid (SlC ((wr.setCell ⟨b, 2, none⟩ (.int .i64 2)).setCell ⟨b, 3, none⟩ (.int .i64 p2)) (fun k => w.heap.size ≤ k) X (pwcs xs)) := (((SlC.of_own (ok := fun k => w2.heap.size + 1 ≤ k) HW.out fun k hk _ => hk).setCell9 (p := ⟨b, 2, none⟩) (fun k hk => by show k ≠ b; omega) (.int .i64 2)).setCell9 (p := ⟨b, 3, none⟩) (fun k hk => by show k ≠ b; omega) (.int .i64 p2)).weak fun k _ hk => by omega
     clear HC HO HW HOB HOM HON HM9
     generalize hxn : xs.length = xn at *
     have HXN := zh hxn; clear hxn
     go_wp2_with fail
     go_quiet (fail)
     go_wp2
     exact HQ.out _ _ ⟨.tuple #[.slice X xn d, .int .i64 p], (xs, p), A1, c1, l1, _, rfl, ⟨X, d, by rw [HXN.out], by rw [HXN.out]; exact HCAP.out, HSC.out.keep9 fun _ _ _ => rfl⟩, HC9.out.drewN _, HW9.out.drewN _, HE.out _ rfl⟩
   | none =>
     simp only [fc, fa, Option.isSome_none, Bool.false_eq_true, if_false, Option.getD_none] at i2 i3
     cases l2 with
     | nil =>
       have HE := zh (fun f3 h => HLE.out xs [] none HL.out (fun _ => rfl) f3 h)
       simp only [zA9] at i0
       have f2c := HOB.out.at_.free 2
       obtain ⟨_, _, b2, b3⟩ := cr_cells HOB.out.at_
       have f3c := HOB.out.at_.free 3
       obtain ⟨_, _, t2, _, _, _, _, _, _, _⟩ := row5 HON.out
       have HM9 : Hid (Mv b wr ((wr.setCell ⟨b, 2, none⟩ (.int .i64 0)).setCell ⟨b, 3, none⟩ (.int .i64 0))) := ((Mv.refl b wr).setCell (p := ⟨b, 2, none⟩) (.inl rfl) HOB.out.lt _).setCell (p := ⟨b, 3, none⟩) (.inl rfl) HOB.out.lt _
       have HC9 : Hid (Cr ((wr.setCell ⟨b, 2, none⟩ (.int .i64 0)).setCell ⟨b, 3, none⟩ (.int .i64 0)) b A1 c1 l1 e (none)) := HOB.out.mv HM9.out ((HOB.out.at_.put 2 (.int .i64 0)).put 3 (.int .i64 0)) HOB.out.trs HOB.out.len HOB.out.cap
       have HW9 : Hid (Mv b w ((wr.setCell ⟨b, 2, none⟩ (.int .i64 0)).setCell ⟨b, 3, none⟩ (.int .i64 0))) := (HOM.out.setCell (p := ⟨b, 2, none⟩) (.inl rfl) hbw _).setCell (p := ⟨b, 3, none⟩) (.inl rfl) hbw _
       have HCAP := zh (own_cap_le HW.out)
       have HSC : Hid (SlC ((wr.setCell ⟨b, 2, none⟩ (.int .i64 0)).setCell ⟨b, 3, none⟩ (.int .i64 0)) (fun k => w.heap.size ≤ k) X (pwcs xs)) := (((SlC.of_own (ok := fun k => w2.heap.size + 1 ≤ k) HW.out fun k hk _ => hk).setCell9 (p := ⟨b, 2, none⟩) (fun k hk => by show k ≠ b; omega) (.int .i64 0)).setCell9 (p := ⟨b, 3, none⟩) (fun k hk => by show k ≠ b; omega) (.int .i64 0)).weak fun k _ hk => by omega
       clear HC HO HW HOB HOM HON HM9
       generalize hxn : xs.length = xn at *
       have HXN := zh hxn; clear hxn
       go_wp2_with fail
       go_quiet (fail)
       go_wp2
       exact HQ.out _ _ ⟨.tuple #[.slice X xn d, .int .i64 p], (xs, p), A1, c1, l1, _, rfl, ⟨X, d, by rw [HXN.out], by rw [HXN.out]; exact HCAP.out, HSC.out.keep9 fun _ _ _ => rfl⟩, HC9.out.drewN _, HW9.out.drewN _, HE.out _ rfl⟩
     | cons y r =>
       have hd1 : decide (0 < (y :: r).length) = true := by simp
       have hd2 : (0 : Int) < ((y :: r).length : Int) := by simp only [zA8]; omega
       have HT4 := zh (ctake_any HC.out 44)
       generalize hyn : (y :: r).length = yn at *
       have HYN := zh hyn; clear hyn
       clear HOB HOM HON
       go_wp2_with fail
       refine HT4.out.mono ?_
       rintro e' w4 ⟨x3, A3, c3, l3, f3, rfl, hs3, hm3, hst3, _⟩
       have HST3 := zh (take_of_tree hst3)
       have HC3 := zh hs3
       have HM3 := zh hm3
       have HO4 := zh (HKP.out _ _ HO.out hm3.low)
       clear hs3 hm3 hst3 i0 i2 i3 HT4
       unfold trv
       have HC4 := zh (cpair_any _ _ _ _ _ _ _ HC3.out)
       go_wp2_with fail
       refine HC4.out.mono ?_
       rintro e' w5 ⟨v4, x4, A4, c4, l4, f4, rfl, rfl, hs4, hm4, hst4⟩
       have HLN := zh (HLI2.out _ _ _ _ _ _ _ _ _ HL.out HST3.out hst4)
       have HO5 := zh (HKP.out _ _ HO4.out hm4.low)
       have hMR := HM3.out.trans hm4
       have HOWN := zh (own_like9 HW.out (fun k hk e => hMR.block k hk (by have := (HW.out.lt k e).1; omega)))
       have HC5 := zh hs4
       have hbase : w2.heap.size + 1 ≤ w5.heap.size := hs4.lt
       have hfew : xs.length ≤ n + 1 := by
           have h1 := HXS.out xs _ HL.out
           omega
       have hn41 := HFEW.out
       clear hs4 hm4 hst4 hMR HC3 HM3 HO4 HC4 HC HW HO hd1 hd2
       generalize hxn : xs.length = xn at *
       have HXN := zh hxn; clear hxn
       unfold pwv
       go_wp2_with (at_builtin; refine wpList_moreB _ rfl _ _ 25 rfl 65 (.agg #[.string ⟨#[]⟩, .int .i64 0, .string ⟨#[]⟩, .int .i64 0]) 4 48 Tryz.underlying25 infoPair rfl (by decide) (w2.heap.size + 1) X xn d (pwcs xs) rfl ?c1 w5.heap.size (pwcells x4) rfl rfl ?c2 (pc_one x4) ?c3 ?c4 ?c5 ?_)
       case c1 => exact HOWN.out.alloc _
       case c2 => intro j u hu; have h := (RowAt.new w5 65 (pwcells x4).toArray).cell j; exact h.trans (by simpa using hu)
       case c3 => simp only [maxLen]; omega
       case c4 => omega
       case c5 => simp; omega
       intro X5 d5 w6 hown5 hb5 hg5 hat5
       have hb56 : Below (w2.heap.size + 1) w5 w6 := ((zB _ w5).alloc hbase _).trans hb5
       have HO6 := zh (HKP.out _ _ HO5.out (hb56.mono (Nat.le_succ _)))
       have HC6 := zh (HC5.out.low hb56 (zS _))
       have HW6 : Hid (w6.ownsRow (w2.heap.size + 1) 65 4 (.slice X5 (xs ++ [x4]).length d5) (xs ++ [x4]).length (pwcs (xs ++ [x4]))) := by
           rw [zA7, List.length_singleton, HXN.out, pwcs_append, pwcs_one]; exact zh hown5
       have HME2 : Hid (1 ≤ gk ∧ (f4 = none → l4.length < gk - 1)) := by
           have h1 : yn < gk := by first | exact HME.out rfl | exact HME.out trivial
           have h2 := HYN.out
           simp only [zA8] at h2
           refine zh ⟨by omega, fun hf => ?_⟩
           have h3 := HLN.out.2 hf
           omega
       clear hown5 hb5 hg5 hat5 hb56 HO5 HC5 HOWN
       go_wp2
       go_roundg (gk - 1)
       case measure => have h1 := HME2.out.1; omega
       case rel => exact ⟨xs ++ [x4], X5, d5, A4, c4, l4, f4, by omega, by rw [zA7, List.length_singleton, HXN.out], HME2.out.2, HLN.out.1, HC6.out, HO6.out, HW6.out⟩
end
section
open Go.RowKit LX TR TM DT CM
namespace DT
def HdG {α : Type} (rd : Rdr α) (l : List Tr) (e : Int) (acc : List α) (a : Nat) : Prop := (acc = [] ∧ a = 0) ∨ ∃ i2 : Nat, LSt rd l 0 e none acc (i2 : Int) none ∧ kindOf (rest l (i2 : Int)) none = 44 ∧ a = i2 + 1 ∧ i2 < l.length
section
variable {α : Type} {rd : Rdr α} {l : List Tr} {e : Int} {acc : List α} {a : Nat} {x : α} {i3 : Int}
theorem HdG.more (h : HdG rd l e acc a) (h2 : Step rd l (a : Int) e none x i3 none) : LSt rd l 0 e none (acc ++ [x]) i3 none := by
 rcases h with ⟨rfl, rfl⟩ | ⟨i2, hL, hk, rfl, h1⟩
 ·exact LSt.start h2
 ·have hr := rest_cons (l := l) (i := (i2 : Int)) (by omega) (by omega)
  have h9 : (l.getD i2 r0).t.k = 44 := by rw [hr, Int.toNat_natCast] at hk; exact hk
  have ht : Step (takeR 44) l (i2 : Int) e none (l.getD i2 r0).t ((i2 : Int) + 1) none := Step.ok ⟨1, rfl, by rw [hr]; simp⟩ (by rw [hr, Int.toNat_natCast]; exact takeR_hit h9)
  exact (hL.next hk ht (by rw [show ((i2 : Int) + 1) = ((i2 + 1 : Nat) : Int) by omega]; exact h2)).1
end
end DT
end
section
open Go.RowKit LX TR TM CM
theorem handedW_form {s : Nat} {l : List Tr} {i e : Int} {v : Value} {w : World} (h : HandedW s l i e v w) : ∃ X n cc fx fy, v = .tuple #[.slice X n cc, .agg #[.int .i64 fx, .int .i64 fy]] := by
 unfold HandedW at h
 split at h
 ·exact ⟨none, 0, 0, 2, _, h⟩
 ·obtain ⟨A, c, h, _⟩ := h
  exact ⟨A, _, c, 0, 0, h⟩
def HandO (ok : Nat → Prop) (l : List Tr) (e : Int) (v : Value) (w : World) : Prop := match namesR l e with
 | .error p => v = .tuple #[.slice none 0 0, .agg #[.int .i64 2, .int .i64 p]]
 | .ok (ws, _) => ∃ A c, v = .tuple #[.slice A ws.length c, .agg #[.int .i64 0, .int .i64 0]] ∧ ws.length ≤ c ∧ SlC w ok A (wcs ws)
theorem HandedW.o {s : Nat} {l : List Tr} {e : Int} {v : Value} {w : World} {ok : Nat → Prop} (h : HandedW s l 0 e v w) (hk : ∀ k, k < w.heap.size → s ≤ k → ok k) : HandO ok l e v w := by
 unfold HandedW at h
 unfold HandO
 rw [rest_zero] at h
 cases hr : namesR l e with
 | error p => rw [hr] at h; exact h
 | ok yr =>
   rw [hr] at h
   obtain ⟨A, c, h1, h2, h3⟩ := h
   exact ⟨A, c, h1, h2, h3.weak hk⟩
theorem HandO.weak {ok ok2 : Nat → Prop} {l : List Tr} {e : Int} {v : Value} {w : World} (h : HandO ok l e v w) (hk : ∀ k, k < w.heap.size → ok k → ok2 k) : HandO ok2 l e v w := by
 unfold HandO at h ⊢
 split at h
 ·exact h
 ·obtain ⟨A, c, h1, h2, h3⟩ := h
  exact ⟨A, c, h1, h2, h3.weak hk⟩
theorem HandO.keep {ok : Nat → Prop} {l : List Tr} {e : Int} {v : Value} {w w2 : World} (h : HandO ok l e v w) (hk : ∀ k, k < w.heap.size → ok k → w2.heap[k]? = w.heap[k]?) : HandO ok l e v w2 := by
 unfold HandO at h ⊢
 split at h
 ·exact h
 ·obtain ⟨A, c, h1, h2, h3⟩ := h
  exact ⟨A, c, h1, h2, h3.keep9 hk⟩
theorem HandO.put {ok : Nat → Prop} {l : List Tr} {e : Int} {v : Value} {w : World} (h : HandO ok l e v w) {p : Addr} (hk : ∀ k, ok k → k ≠ p.block) (u : Value) : HandO ok l e v (w.setCell p u) :=
 h.keep fun k _ ho => World.setCell_other9 (Ne.symm (hk k ho))
theorem HandO.form {ok : Nat → Prop} {l : List Tr} {e : Int} {X : Option Addr} {n cc : Nat} {fx fy : Int} {w : World} (h : HandO ok l e (.tuple #[.slice X n cc, .agg #[.int .i64 fx, .int .i64 fy]]) w) :
 ∃ f4 ws, fx = fc f4 ∧ fy = fa f4 ∧ n = ws.length ∧ ws.length ≤ cc ∧ SlC w ok X (wcs ws) ∧ ((∃ p, f4 = some p ∧ namesR l e = .error p) ∨ (f4 = none ∧ ∃ r, namesR l e = .ok (ws, r))) := by
 unfold HandO at h
 cases hr : namesR l e with
 | error p =>
   rw [hr] at h
   injection h with h
   simp only [Array.mk.injEq, List.cons.injEq, Value.slice.injEq, Value.agg.injEq, Value.int.injEq, true_and, and_true] at h
   obtain ⟨⟨rfl, rfl, rfl⟩, rfl, rfl⟩ := h
   exact ⟨some fy, [], rfl, rfl, rfl, zL _, SlC.nil _ _ _, .inl ⟨fy, rfl, rfl⟩⟩
 | ok yr =>
   obtain ⟨ws, r⟩ := yr
   rw [hr] at h
   obtain ⟨A, c, h1, h2, h3⟩ := h
   injection h1 with h1
   simp only [Array.mk.injEq, List.cons.injEq, Value.slice.injEq, Value.agg.injEq, Value.int.injEq, true_and, and_true] at h1
   obtain ⟨⟨rfl, rfl, rfl⟩, rfl, rfl⟩ := h1
   exact ⟨none, ws, rfl, rfl, rfl, h2, h3, .inr ⟨rfl, r, rfl⟩⟩
theorem within_tree {α : Type} {k : Nat} {rd : Rdr α} {l r : List Tr} {e : Int} {a : α} (h : withinR k rd l e = .ok (a, r)) : ∃ x, l = x :: r ∧ x.t.k = k := by
 cases l with
 | nil => cases h
 | cons x q =>
   simp only [withinR] at h
   split at h
   ·rename_i hk
    cases hr : rd x.ks x.e with
    | error p => rw [hr] at h; cases h
    | ok br =>
      obtain ⟨b, r2⟩ := br
      rw [hr] at h
      cases r2 with
      | nil =>
        injection h with h
        injection h with _ h
        exact ⟨x, by rw [h], hk⟩
      | cons y r3 => cases h
   ·cases h
theorem words_step {l l2 : List Tr} {e : Int} {f4 f2 : Option Int} {ws : List Wd} {x : Tr} (h : (∃ p, f4 = some p ∧ namesR l e = .error p) ∨ (f4 = none ∧ ∃ r, namesR l e = .ok (ws, r))) (h2 : StepL (treeR 123) l e f4 x l2 f2) : StepL namesR l e none ws l2 f2 := by
 rcases h with ⟨p, rfl, hr⟩ | ⟨rfl, r, hr⟩
 ·obtain rfl := h2.bad p rfl
  exact .err h2.suf (.inr ⟨rfl, hr⟩)
 ·obtain ⟨y, rfl, hk⟩ := within_tree hr
  have h3 := h2.good rfl
  rw [tree_hit hk] at h3
  obtain ⟨rfl, _, rfl⟩ := h3
  exact .ok h2.suf hr
theorem cwords_any : ReadsL 113 WordsV namesR := by
 intro w b A c l e f h
 have hbw := h.lt
 obtain ⟨c0, c1, c2, c3⟩ := cr_cells h.at_
 refine calls_hid fun Q' hQ => ?_
 have HQ := zh hQ; clear hQ
 cases f with
 | some p =>
   have HCR := zh h
   simp only [fc, Option.isSome_some, if_true] at c2
   clear h
   go_enter Tryz.func113, Tryz.ntmps113
   go_wp2_with fail
   exact HQ.out _ _ ⟨.slice none 0 0, [], A, c, l, some p, rfl, ⟨none, 0, rfl, zL _, SlC.nil _ _ _⟩, HCR.out, Mv.refl _ _, .err (suf_refl _) (.inl rfl)⟩
 | none =>
   simp only [fc, Option.isSome_none, Bool.false_eq_true, if_false] at c2
   have HC : Hid (∀ W, Below w.heap.size w W → Calls Tryz.prog 122 #[.slice A l.length c, .int .i64 0, .int .i64 e] W fun e' w' => ∃ v, (e' = .returned v ∧ HandedW W.heap.size l 0 e v w') ∧ Below W.heap.size W w') := zh fun W hW =>
    (words_call A c l 0 e W ((h.trs.below (hW.mono (Nat.le_of_lt hbw))).mono (by have := hW.size; omega)) h.len).mono fun e' w' ⟨v, h1, h2, h3⟩ => ⟨v, ⟨h1, h2⟩, h3⟩
   have HCR := zh h
   have C0 : ∀ W, Below w.heap.size w W → W.cell? ⟨b, 0, none⟩ = some (.slice A l.length c) := fun W hW => (hW.cell (p := ⟨b, 0, none⟩) hbw).trans c0
   have C1 : ∀ W, Below w.heap.size w W → W.cell? ⟨b, 1, none⟩ = some (.int .i64 e) := fun W hW => (hW.cell (p := ⟨b, 1, none⟩) hbw).trans c1
   clear h
   generalize hln : l.length = ln at *
   have HLN := zh hln; clear hln
   go_enter Tryz.func113, Tryz.ntmps113
   go_upto_region 3 with fail
   clear c0 c1 c2 c3
   go_cut [3, 4] from 11 to 22 (fun p3 p4 wx => ∃ (X : Option Addr) (n cc : Nat) (fx fy : Int) (g4 : Nat), p3 = .slice X n cc ∧ p4 = .pointer (some ⟨g4, 0, none⟩) ∧ Hid (RowAt wx g4 39 #[.int .i64 fx, .int .i64 fy]) ∧ Hid (HandO (fun k => w.heap.size ≤ k ∧ k ≠ g4) l e (.tuple #[.slice X n cc, .agg #[.int .i64 fx, .int .i64 fy]]) wx) ∧ Hid (Below w.heap.size w wx) ∧ Hid (w.heap.size ≤ g4))
   case first =>
    have HS0 : Hid (Below w.heap.size w w.drew) := (zB _ _).drew
    refine wp_region_ot (fun w' => Below w.heap.size w w') ((.take 0 (.take 1 (.take 2 (.take 3 (.take 4 (.take 5 (.take 6 (.take 7 (.two 8 (.take 9 (.take 10 (.take 11 (.solo 12 (.take 13 (.solo 14 .nil)))))) 12 (.solo 8 (.take 9 (.take 10 (.take 11 (.take 13 (.solo 14 .nil)))))))))))))))) (by kernel_rfl) (by kernel_rfl) rfl (by kernel_rfl) HS0.out ?_
    generalize w.drew = v0 at HS0 ⊢
    have HSv0 := HS0
    iterate 8
        (refine wpOT_step (zO rfl) ?_)
        (first
         | (refine wpOT_skip (by rfl) ?_)
         | (refine wpOT_take (v := ?_) (by rfl) ?_ ?_; rotate_left 1; (intro wx hSx; have hc_0 := C0 wx hSx; have hc_1 := C1 wx hSx; go_simp; try with_reducible rfl)))
        (try simp only [Act.put, zA4, zA5, zA6])
    refine wpOT_two ?_ ?_
    ·(refine wpOT_solo (zO rfl) ?_)
     intro K hK
     go_simp
     go_at_call 122
     refine (HC.out v0 HSv0.out).mono ?_
     rintro e' v1 ⟨v, hh, hb⟩
     obtain ⟨rfl, hh⟩ := hh
     have HSv1 := zh (HSv0.out.trans (hb.mono HSv0.out.size))
     obtain ⟨X, n, cc, fx, fy, rfl⟩ := handedW_form hh
     have hzv1 : w.heap.size ≤ v0.heap.size := HSv0.out.size
     have HHv1 : Hid (HandO (fun k => w.heap.size ≤ k) l e (.tuple #[.slice X n cc, .agg #[.int .i64 fx, .int .i64 fy]]) v1) := zh (hh.o fun k hk h => by omega)
     clear hh hb
     refine hK.out _ _ HSv1.out ?_
     clear hK K
     (try simp only [Act.put, zA4, zA5, zA6])
     iterate 3
      (refine wpOT_step (zO rfl) ?_)
      (first
       | (refine wpOT_skip (by rfl) ?_)
       | (refine wpOT_take (v := ?_) (by rfl) ?_ ?_; rotate_left 1; (intro wx hSx; have hc_0 := C0 wx hSx; have hc_1 := C1 wx hSx; go_simp; try with_reducible rfl)))
      (try simp only [Act.put, zA4, zA5, zA6])
     (refine wpOT_solo (zO rfl) ?_)
     intro K hK
     go_simp
     have hb : Below v1.heap.size v1 (v1.alloc (.cells #[.int .i64 0, .int .i64 0] 39)) := (zB _ _).alloc (zL _) _
     have HSv2 := zh (HSv1.out.trans (hb.mono HSv1.out.size))
     have HRv2 := zh (RowAt.new v1 39 #[.int .i64 0, .int .i64 0])
     have HZ := zh HSv1.out.size
     have HHv2 := zh ((HHv1.out.weak (ok2 := fun k => w.heap.size ≤ k ∧ k ≠ v1.heap.size) fun k hk h => ⟨h, by omega⟩).keep fun k hk _ => hb.block k hk)
     clear hb
     refine hK.out _ _ HSv2.out ?_
     clear hK K
     (try simp only [Act.put, zA4, zA5, zA6])
     generalize hgb : v1.heap.size = gb at *
     generalize (v1.alloc (.cells #[.int .i64 0, .int .i64 0] 39)) = v2 at *
     clear hgb
     iterate 1
      (refine wpOT_step (zO rfl) ?_)
      (first
       | (refine wpOT_skip (by rfl) ?_)
       | (refine wpOT_take (v := ?_) (by rfl) ?_ ?_; rotate_left 1; (intro wx hSx; have hc_0 := C0 wx hSx; have hc_1 := C1 wx hSx; go_simp; try with_reducible rfl)))
      (try simp only [Act.put, zA4, zA5, zA6])
     (refine wpOT_solo (zO rfl) ?_)
     intro K hK
     obtain ⟨r0, r1, z0, z1⟩ := row2 HRv2.out
     go_simp
     have hz := HZ.out
     have HSz : Hid (Below w.heap.size w ((v2.setCell ⟨gb, 0, none⟩ (.int .i64 fx)).setCell ⟨gb, 1, none⟩ (.int .i64 fy))) := (HSv2.out.setCell (p := ⟨gb, 0, none⟩) hz _).setCell (p := ⟨gb, 1, none⟩) hz _
     have HRz : Hid (RowAt ((v2.setCell ⟨gb, 0, none⟩ (.int .i64 fx)).setCell ⟨gb, 1, none⟩ (.int .i64 fy)) gb 39 #[.int .i64 fx, .int .i64 fy]) := (HRv2.out.put 0 (.int .i64 fx)).put 1 (.int .i64 fy)
     have HHz := zh ((HHv2.out.put (p := ⟨gb, 0, none⟩) (fun k h => h.2) (.int .i64 fx)).put (p := ⟨gb, 1, none⟩) (fun k h => h.2) (.int .i64 fy))
     refine hK.out _ _ HSz.out ?_
     clear hK K
     (try simp only [Act.put, zA4, zA5, zA6])
     refine wpOT_done ?_
     go_wp2
     go_meet
     case rel => exact ⟨X, n, cc, fx, fy, gb, rfl, rfl, HRz.out, HHz.out, HSz.out, HZ.out⟩
    ·(refine wpOT_solo (zO rfl) ?_)
     intro K hK
     go_simp
     have hb : Below v0.heap.size v0 (v0.alloc (.cells #[.int .i64 0, .int .i64 0] 39)) := (zB _ _).alloc (zL _) _
     have HSv1 := zh (HSv0.out.trans (hb.mono HSv0.out.size))
     have HRv1 := zh (RowAt.new v0 39 #[.int .i64 0, .int .i64 0])
     have HZ := zh HSv0.out.size
     clear hb
     refine hK.out _ _ HSv1.out ?_
     clear hK K
     (try simp only [Act.put, zA4, zA5, zA6])
     generalize hgb : v0.heap.size = gb at *
     generalize (v0.alloc (.cells #[.int .i64 0, .int .i64 0] 39)) = v1 at *
     clear hgb
     (refine wpOT_solo (zO rfl) ?_)
     intro K hK
     go_simp
     go_at_call 122
     refine (HC.out v1 HSv1.out).mono ?_
     rintro e' v2 ⟨v, hh, hb⟩
     obtain ⟨rfl, hh⟩ := hh
     have HSv2 := zh (HSv1.out.trans (hb.mono HSv1.out.size))
     obtain ⟨X, n, cc, fx, fy, rfl⟩ := handedW_form hh
     have hzv2 : w.heap.size ≤ v1.heap.size := HSv1.out.size
     have hzz := HRv1.out.lt
     have HHv2 : Hid (HandO (fun k => w.heap.size ≤ k ∧ k ≠ gb) l e (.tuple #[.slice X n cc, .agg #[.int .i64 fx, .int .i64 fy]]) v2) := zh (hh.o fun k hk h => ⟨by omega, by omega⟩)
     have HRv2 := zh (HRv1.out.below hb HRv1.out.lt)
     clear hh hb
     refine hK.out _ _ HSv2.out ?_
     clear hK K
     (try simp only [Act.put, zA4, zA5, zA6])
     iterate 4
      (refine wpOT_step (zO rfl) ?_)
      (first
       | (refine wpOT_skip (by rfl) ?_)
       | (refine wpOT_take (v := ?_) (by rfl) ?_ ?_; rotate_left 1; (intro wx hSx; have hc_0 := C0 wx hSx; have hc_1 := C1 wx hSx; go_simp; try with_reducible rfl)))
      (try simp only [Act.put, zA4, zA5, zA6])
     (refine wpOT_solo (zO rfl) ?_)
     intro K hK
     obtain ⟨r0, r1, z0, z1⟩ := row2 HRv2.out
     go_simp
     have hz := HZ.out
     have HSz : Hid (Below w.heap.size w ((v2.setCell ⟨gb, 0, none⟩ (.int .i64 fx)).setCell ⟨gb, 1, none⟩ (.int .i64 fy))) := (HSv2.out.setCell (p := ⟨gb, 0, none⟩) hz _).setCell (p := ⟨gb, 1, none⟩) hz _
     have HRz : Hid (RowAt ((v2.setCell ⟨gb, 0, none⟩ (.int .i64 fx)).setCell ⟨gb, 1, none⟩ (.int .i64 fy)) gb 39 #[.int .i64 fx, .int .i64 fy]) := (HRv2.out.put 0 (.int .i64 fx)).put 1 (.int .i64 fy)
     have HHz := zh ((HHv2.out.put (p := ⟨gb, 0, none⟩) (fun k h => h.2) (.int .i64 fx)).put (p := ⟨gb, 1, none⟩) (fun k h => h.2) (.int .i64 fy))
     refine hK.out _ _ HSz.out ?_
     clear hK K
     (try simp only [Act.put, zA4, zA5, zA6])
     refine wpOT_done ?_
     go_wp2
     go_meet
     case rel => exact ⟨X, n, cc, fx, fy, gb, rfl, rfl, HRz.out, HHz.out, HSz.out, HZ.out⟩
   case rest =>
    obtain ⟨X, n, cc, fx, fy, g4, rfl, rfl, HR, HH, HB, HZ⟩ := hcut
    obtain ⟨f4, ws, rfl, rfl, rfl, hcap, hsl, hst⟩ := HH.out.form
    have HCW := zh (HCR.out.low HB.out hbw)
    have hz := HZ.out
    obtain ⟨r0, r1, _, _⟩ := row2 HR.out
    obtain ⟨_, _, b2, b3⟩ := cr_cells HCW.out.at_
    have f2c := HCW.out.at_.free 2
    have f3c := HCW.out.at_.free 3
    have hne : ¬ g4 = b := by omega
    have HM1 : Hid (Mv b wc ((wc.setCell ⟨b, 2, none⟩ (.int .i64 (fc f4))).setCell ⟨b, 3, none⟩ (.int .i64 (fa f4)))) := ((Mv.refl b wc).setCell (p := ⟨b, 2, none⟩) (.inl rfl) HCW.out.lt _).setCell (p := ⟨b, 3, none⟩) (.inl rfl) HCW.out.lt _
    have HC1 : Hid (Cr ((wc.setCell ⟨b, 2, none⟩ (.int .i64 (fc f4))).setCell ⟨b, 3, none⟩ (.int .i64 (fa f4))) b A c l e f4) := HCW.out.mv HM1.out (by have h := (HCW.out.at_.put 2 (.int .i64 (fc f4))).put 3 (.int .i64 (fa f4)); exact h) HCW.out.trs HCW.out.len HCW.out.cap
    have HMW : Hid (Mv b w ((wc.setCell ⟨b, 2, none⟩ (.int .i64 (fc f4))).setCell ⟨b, 3, none⟩ (.int .i64 (fa f4)))) := (Mv.below hbw HB.out).trans HM1.out
    have HSL : Hid (SlC ((wc.setCell ⟨b, 2, none⟩ (.int .i64 (fc f4))).setCell ⟨b, 3, none⟩ (.int .i64 (fa f4))) (fun k => w.heap.size ≤ k) X (wcs ws)) := ((hsl.weak (ok' := fun k => w.heap.size ≤ k) fun k _ h => h.1).setCell9 (p := ⟨b, 2, none⟩) (fun k hk => by show k ≠ b; omega) (.int .i64 (fc f4))).setCell9 (p := ⟨b, 3, none⟩) (fun k hk => by show k ≠ b; omega) (.int .i64 (fa f4))
    have HT := zh (ctake_any HC1.out 123)
    have HST := zh hst
    clear hst hsl HH HCW HB HM1 HC1 HCR HC C0 C1
    generalize hwn : ws.length = wn at *
    have HWN := zh hwn; clear hwn
    go_wp2_with fail
    refine HT.out.mono ?_
    rintro e' w9 ⟨x, A2, c2, l2, f2, rfl, hs, hm, hst, _⟩
    have HE := zh (words_step HST.out hst)
    have HS9 := zh hs
    have HM9 := zh (HMW.out.trans hm)
    have HSL9 : Hid (SlC w9 (fun k => w.heap.size ≤ k) X (wcs ws)) := HSL.out.keep9 fun k hk h => hm.block k hk (by omega)
    clear hs hm hst
    unfold trv
    go_wp2_with fail
    exact HQ.out _ _ ⟨.slice X wn cc, ws, A2, c2, l2, f2, rfl, ⟨X, cc, by rw [HWN.out], by rw [HWN.out]; exact hcap, HSL9.out⟩, HS9.out, HM9.out, HE.out⟩
end
section
open Go.RowKit LX TR TM CM
def HandN (rd : Rdr Nd) (l : List Tr) (e : Int) (z : Nd) (m : Nat) (fx fy : Int) : Prop :=
 (∃ p, rd l e = .error p ∧ fx = 2 ∧ fy = p ∧ m = 0) ∨ (rd l e = .ok (er1 z, l.drop m) ∧ fx = 0 ∧ fy = 0 ∧ m ≤ l.length)
theorem deep_n0' (w : World) (ok : Nat → Prop) : DeepN w ok [n0] := fun y hy => by
 obtain rfl : y = n0 := by simpa [TM.all, n0, nd] using hy
 exact ⟨⟨SlC.nil _ _ _, zL _⟩, SlC.nil _ _ _, zL _⟩
theorem Handed.n {s : Nat} {rd : Rdr Nd} {l : List Tr} {e : Int} {v : Value} {w : World} (h : Handed s rd l 0 e v w) :
 ∃ z m fx fy, v = .tuple #[.agg (nv z), .int .i64 ((m : Nat) : Int), .agg #[.int .i64 fx, .int .i64 fy]] ∧ DeepN w (fun k => s ≤ k) [z] ∧ HandN rd l e z m fx fy := by
 unfold Handed at h
 rw [rest_zero] at h
 cases hr : rd l e with
 | error p => rw [hr] at h; exact ⟨n0, 0, 2, p, h, deep_n0' _ _, .inl ⟨p, hr, rfl, rfl, rfl⟩⟩
 | ok xr =>
   obtain ⟨x, r⟩ := xr
   rw [hr] at h
   obtain ⟨z, i2, rfl, rfl, hd, ha, rfl⟩ := h
   obtain ⟨m, rfl, hm, hd2⟩ := ha.drop
   rw [rest_zero] at hm hd2
   exact ⟨z, m, 0, 0, by simp, hd, .inr ⟨by rw [hr, hd2], rfl, rfl, hm⟩⟩
theorem HandN.step {rd : Rdr Nd} {l : List Tr} {e : Int} {z : Nd} {m : Nat} {fx fy : Int} (h : HandN rd l e z m fx fy) : m ≤ l.length ∧ ∃ f2, fx = fc f2 ∧ fy = fa f2 ∧ StepL rd l e none (er1 z) (l.drop m) f2 := by
 rcases h with ⟨p, h1, rfl, rfl, rfl⟩ | ⟨h1, rfl, rfl, h4⟩
 ·exact ⟨Nat.zero_le _, some _, rfl, rfl, .err ⟨0, rfl⟩ (.inr ⟨rfl, h1⟩)⟩
 ·exact ⟨h4, none, rfl, rfl, .ok ⟨m, rfl⟩ h1⟩
theorem cterm_any {F : FuncId} {rd : Rdr Nd} {N : Nat} (hf : ∀ args w, (callFunc F args).run Tryz.prog w = .ok (.enter F args) w)
 (HF : ∀ (A : Option Addr) (c : Nat) (l : List Tr) (i e : Int) (w : World), Trs w w.heap.size A l → Few l → (nodes (rest l i)).length ≤ N →
  Calls Tryz.prog F #[.slice A l.length c, .int .i64 i, .int .i64 e] w fun e' w' => ∃ v, e' = .returned v ∧ Handed w.heap.size rd l i e v w' ∧ Below w.heap.size w w')
 {w : World} {b : Nat} {A : Option Addr} {c : Nat} {l : List Tr} {e : Int} {f : Option Int} (h : Cr w b A c l e f) (hN : (nodes l).length ≤ N) :
 Calls Tryz.prog 115 #[.pointer (some ⟨b, 0, none⟩), .func (.func F) #[] #[]] w fun e' w' => ∃ z A2 c2 l2 f2, e' = .returned (.agg (nv z)) ∧ DeepN w' (fun k => w.heap.size ≤ k) [z] ∧ Cr w' b A2 c2 l2 e f2 ∧ Mv b w w' ∧ StepL rd l e f (er1 z) l2 f2 := by
 have hbw := h.lt
 have hb1 : Below w.heap.size w (w.alloc (.cells #[.int .i64 0, .int .i64 0, .string ⟨#[]⟩, .slice none 0 0, .slice none 0 0] 28)) := (zB _ _).alloc (zL _) _
 have HG1 := zh (RowAt.new w 28 #[.int .i64 0, .int .i64 0, .string ⟨#[]⟩, .slice none 0 0, .slice none 0 0])
 have HM1 := zh (Mv.below hbw hb1)
 have HC1 := zh (h.below hb1)
 clear hb1
 refine calls_hid fun Q' hQ => ?_
 have HQ := zh hQ; clear hQ
 have HLEN := zh h.len
 clear h
 go_enter Tryz.func115, Tryz.ntmps115
 go_upto_region 1 with fail
 generalize w.alloc (.cells #[.int .i64 0, .int .i64 0, .string ⟨#[]⟩, .slice none 0 0, .slice none 0 0] 28) = w1 at *
 have hz1 : w.heap.size < w1.heap.size := HG1.out.lt
 have hb1w : b < w1.heap.size := by omega
 obtain ⟨c0, c1, c2, c3⟩ := cr_cells HC1.out.at_
 cases f with
 | some p =>
   simp only [fc, fa, Option.isSome_some, if_true, Option.getD_some] at c2 c3
   obtain ⟨g0, g1, g2, g3, g4, u0, u1, u2, u3, u4⟩ := row5 HG1.out
   go_wp2_with fail
   have hb2 : Below w.heap.size w1 (set5 w1 w.heap.size (.int .i64 0) (.int .i64 0) (.string ⟨#[]⟩) (.slice none 0 0) (.slice none 0 0)) := set5_below (zL _)
   exact bodyPost_ret (ret_cell rfl _ _ w.heap.size _ _ (0, 0) _ rfl (set5_row HG1.out) Tryz.underlying28 rfl (node_info _ _ _ _ _)) rfl (HQ.out _ _ ⟨n0, A, c, l, some p, rfl, deep_n0' _ _, HC1.out.low hb2 hbw, HM1.out.onBelow hbw hb2 (zL _), .err (suf_refl _) (.inl rfl)⟩)
 | none =>
   simp only [fc, fa, Option.isSome_none, Bool.false_eq_true, if_false, Option.getD_none] at c2 c3
   have HC : Hid (∀ W, Below w1.heap.size w1 W → Calls Tryz.prog F #[.slice A l.length c, .int .i64 0, .int .i64 e] W fun e' w' => ∃ z m fx fy, e' = .returned (.tuple #[.agg (nv z), .int .i64 ((m : Nat) : Int), .agg #[.int .i64 fx, .int .i64 fy]]) ∧ DeepN w' (fun k => W.heap.size ≤ k) [z] ∧ HandN rd l e z m fx fy ∧ Below W.heap.size W w') := zh fun W hW =>
    (HF A c l 0 e W ((HC1.out.trs.below (hW.mono (Nat.le_of_lt hb1w))).mono (by have := hW.size; omega)) HLEN.out (by rw [rest_zero]; exact hN)).mono fun e' w' ⟨v, h1, h2, h3⟩ => by
        obtain ⟨z, m, fx, fy, rfl, h4, h5⟩ := h2.n
        exact ⟨z, m, fx, fy, h1, h4, h5, h3⟩
   have C0 : ∀ W, Below w1.heap.size w1 W → W.cell? ⟨b, 0, none⟩ = some (.slice A l.length c) := fun W hW => (hW.cell (p := ⟨b, 0, none⟩) hb1w).trans c0
   have C1 : ∀ W, Below w1.heap.size w1 W → W.cell? ⟨b, 1, none⟩ = some (.int .i64 e) := fun W hW => (hW.cell (p := ⟨b, 1, none⟩) hb1w).trans c1
   clear HF HLEN
   generalize hln : l.length = ln at *
   have HLN := zh hln; clear hln
   go_upto_region 3 with fail
   clear c0 c1 c2 c3
   go_cut [5, 6, 7] from 15 to 28 (fun p5 p6 p7 wx => ∃ (z : Nd) (m : Nat) (fx fy : Int) (g5 g7 : Nat), p5 = .pointer (some ⟨g5, 0, none⟩) ∧ p6 = .int .i64 (m : Int) ∧ p7 = .pointer (some ⟨g7, 0, none⟩) ∧ Hid (RowAt wx g5 28 (nv z)) ∧ Hid (RowAt wx g7 39 #[.int .i64 fx, .int .i64 fy]) ∧ Hid (DeepN wx (fun k => w1.heap.size ≤ k ∧ k ≠ g5 ∧ k ≠ g7) [z]) ∧ Hid (HandN rd l e z m fx fy) ∧ Hid (Below w1.heap.size w1 wx) ∧ w1.heap.size ≤ g5 ∧ w1.heap.size ≤ g7)
   case first =>
    have HS0 : Hid (Below w1.heap.size w1 w1.drew) := (zB _ _).drew
    refine wp_region_ou (fun w' => Below w1.heap.size w1 w') ((.take 0 (.take 1 (.take 2 (.take 3 (.take 4 (.take 5 (.take 6 (.take 7 (.take 8 (.three 9 (.take 10 (.take 11 (.take 12 (.take 13 (.two 14 (.solo 15 (.solo 16 (.take 17 (.solo 18 .nil)))) 15 (.solo 14 (.solo 16 (.take 17 (.solo 18 .nil))))))))) 14 (.two 9 (.take 10 (.take 11 (.take 12 (.take 13 (.solo 15 (.solo 16 (.take 17 (.solo 18 .nil)))))))) 15 (.solo 9 (.take 10 (.take 11 (.take 12 (.take 13 (.solo 16 (.take 17 (.solo 18 .nil))))))))) 15 (.two 9 (.take 10 (.take 11 (.take 12 (.take 13 (.solo 14 (.solo 16 (.take 17 (.solo 18 .nil)))))))) 14 (.solo 9 (.take 10 (.take 11 (.take 12 (.take 13 (.solo 16 (.take 17 (.solo 18 .nil)))))))))))))))))))) (by kernel_rfl) (by kernel_rfl) rfl (by kernel_rfl) HS0.out ?_
    generalize w1.drew = v0 at HS0 ⊢
    have HSv0 := HS0
    iterate 9
        (refine wpOU_step (zO rfl) ?_)
        (first
         | (refine wpOU_skip (by rfl) ?_)
         | (refine wpOU_take (v := ?_) (by rfl) ?_ ?_; rotate_left 1; (intro wx hSx; have hc_0 := C0 wx hSx; have hc_1 := C1 wx hSx; go_simp; try with_reducible rfl)))
        (try simp only [Act.put, zA4, zA5, zA6])
    refine wpOU_three ?_ ?_ ?_
    ·(refine wpOU_solo (zO rfl) ?_)
     intro K hK
     go_simp
     refine (HC.out v0 HSv0.out).mono ?_
     rintro e' v1 ⟨z, m, fx, fy, rfl, hdn, hhn, hb⟩
     have HSv1 := zh (HSv0.out.trans (hb.mono HSv0.out.size))
     have hzv1 : w1.heap.size ≤ v0.heap.size := HSv0.out.size
     have HHN := zh hhn
     have HDv1 : Hid (DeepN v1 (fun k => w1.heap.size ≤ k) [z]) := zh (hdn.weak fun k hk h => by omega)
     clear hb hdn hhn
     refine hK.out _ _ HSv1.out ?_
     clear hK K
     (try simp only [Act.put, zA4, zA5, zA6])
     iterate 4
      (refine wpOU_step (zO rfl) ?_)
      (first
       | (refine wpOU_skip (by rfl) ?_)
       | (refine wpOU_take (v := ?_) (by rfl) ?_ ?_; rotate_left 1; (intro wx hSx; have hc_0 := C0 wx hSx; have hc_1 := C1 wx hSx; go_simp; try with_reducible rfl)))
      (try simp only [Act.put, zA4, zA5, zA6])
     refine wpOU_two ?_ ?_
     ·(refine wpOU_solo (zO rfl) ?_)
      intro K hK
      go_simp
      have hb : Below v1.heap.size v1 (v1.alloc (.cells #[.int .i64 0, .int .i64 0, .string ⟨#[]⟩, .slice none 0 0, .slice none 0 0] 28)) := (zB _ _).alloc (zL _) _
      have HSv2 := zh (HSv1.out.trans (hb.mono HSv1.out.size))
      have Hg5v2 := zh (RowAt.new v1 28 #[.int .i64 0, .int .i64 0, .string ⟨#[]⟩, .slice none 0 0, .slice none 0 0])
      have HZg5 := zh HSv1.out.size
      have HDv2 : Hid (DeepN (v1.alloc (.cells #[.int .i64 0, .int .i64 0, .string ⟨#[]⟩, .slice none 0 0, .slice none 0 0] 28)) (fun k => w1.heap.size ≤ k ∧ k ≠ v1.heap.size) [z]) := zh ((HDv1.out.weak (ok' := fun k => w1.heap.size ≤ k ∧ k ≠ v1.heap.size) fun k hk h => ⟨h, by omega⟩).keep9 fun k hk _ => hb.block k hk)
      clear hb
      refine hK.out _ _ HSv2.out ?_
      clear hK K
      (try simp only [Act.put, zA4, zA5, zA6])
      generalize hgb : v1.heap.size = g5 at *
      generalize (v1.alloc (.cells #[.int .i64 0, .int .i64 0, .string ⟨#[]⟩, .slice none 0 0, .slice none 0 0] 28)) = v2 at *
      clear hgb
      (refine wpOU_solo (zO rfl) ?_)
      intro K hK
      go_simp
      have hb : Below v2.heap.size v2 (v2.alloc (.cells #[.int .i64 0, .int .i64 0] 39)) := (zB _ _).alloc (zL _) _
      have HSv3 := zh (HSv2.out.trans (hb.mono HSv2.out.size))
      have Hg7v3 := zh (RowAt.new v2 39 #[.int .i64 0, .int .i64 0])
      have HZg7 := zh HSv2.out.size
      have Hg5v3 := zh (Hg5v2.out.below hb Hg5v2.out.lt)
      have HNE : Hid (g5 < v2.heap.size) := zh Hg5v2.out.lt
      have HDv3 : Hid (DeepN (v2.alloc (.cells #[.int .i64 0, .int .i64 0] 39)) (fun k => w1.heap.size ≤ k ∧ k ≠ g5 ∧ k ≠ v2.heap.size) [z]) := zh ((HDv2.out.weak (ok' := fun k => w1.heap.size ≤ k ∧ k ≠ g5 ∧ k ≠ v2.heap.size) fun k hk h => ⟨h.1, h.2, by omega⟩).keep9 fun k hk _ => hb.block k hk)
      clear hb
      refine hK.out _ _ HSv3.out ?_
      clear hK K
      (try simp only [Act.put, zA4, zA5, zA6])
      generalize hgb : v2.heap.size = g7 at *
      generalize (v2.alloc (.cells #[.int .i64 0, .int .i64 0] 39)) = v3 at *
      clear hgb
      (refine wpOU_solo (zO rfl) ?_)
      intro K hK
      have hne : g5 ≠ g7 := by have := HNE.out; omega
      have hz5 := HZg5.out
      have hz7 := HZg7.out
      rw [if_pos (by rfl)]
      refine wp_store_row _ _ _ rfl g5 (nv z) rfl rfl _ _ Hg5v3.out (node_info _ _ _ _ _) rfl (by simp [nv, Value.oneCell']) ?_
      have HSv9 : Hid (Below w1.heap.size w1 (v3.setRow g5 (nv z))) := zh (HSv3.out.trans (below_setRow hz5 _))
      have Hg5v9 := zh (Hg5v3.out.setRow (nv z))
      have Hg7v9 : Hid (RowAt (v3.setRow g5 (nv z)) g7 39 #[.int .i64 0, .int .i64 0]) := zh ((setRow_other v3 g5 g7 _ (Ne.symm hne)).trans Hg7v3.out)
      have HDv9 : Hid (DeepN (v3.setRow g5 (nv z)) (fun k => w1.heap.size ≤ k ∧ k ≠ g5 ∧ k ≠ g7) [z]) := zh (HDv3.out.keep9 fun k _ h => setRow_other v3 g5 k _ h.2.1)
      refine hK.out _ _ HSv9.out ?_
      clear hK K
      (try simp only [Act.put, zA4, zA5, zA6])
      generalize v3.setRow g5 (nv z) = v9 at *
      iterate 1
       (refine wpOU_step (zO rfl) ?_)
       (first
             | (refine wpOU_skip (by rfl) ?_)
             | (refine wpOU_take (v := ?_) (by rfl) ?_ ?_; rotate_left 1; (intro wx hSx; have hc_0 := C0 wx hSx; have hc_1 := C1 wx hSx; go_simp; try with_reducible rfl)))
       (try simp only [Act.put, zA4, zA5, zA6])
      (refine wpOU_solo (zO rfl) ?_)
      intro K hK
      rw [if_pos (by rfl)]
      refine wp_store_row _ _ _ rfl g7 #[.int .i64 fx, .int .i64 fy] rfl rfl _ _ Hg7v9.out (fault_info _ _) rfl (by simp [Value.oneCell']) ?_
      have HSz : Hid (Below w1.heap.size w1 (v9.setRow g7 #[.int .i64 fx, .int .i64 fy])) := zh (HSv9.out.trans (below_setRow hz7 _))
      have Hg7z := zh (Hg7v9.out.setRow #[.int .i64 fx, .int .i64 fy])
      have Hg5z : Hid (RowAt (v9.setRow g7 #[.int .i64 fx, .int .i64 fy]) g5 28 (nv z)) := zh ((setRow_other v9 g7 g5 _ hne).trans Hg5v9.out)
      have HDz : Hid (DeepN (v9.setRow g7 #[.int .i64 fx, .int .i64 fy]) (fun k => w1.heap.size ≤ k ∧ k ≠ g5 ∧ k ≠ g7) [z]) := zh (HDv9.out.keep9 fun k _ h => setRow_other v9 g7 k _ h.2.2)
      refine hK.out _ _ HSz.out ?_
      clear hK K
      (try simp only [Act.put, zA4, zA5, zA6])
      refine wpOU_done ?_
      go_wp2
      go_meet
      case rel => exact ⟨z, m, fx, fy, g5, g7, rfl, rfl, rfl, Hg5z.out, Hg7z.out, HDz.out, HHN.out, HSz.out, hz5, hz7⟩
     ·(refine wpOU_solo (zO rfl) ?_)
      intro K hK
      go_simp
      have hb : Below v1.heap.size v1 (v1.alloc (.cells #[.int .i64 0, .int .i64 0] 39)) := (zB _ _).alloc (zL _) _
      have HSv2 := zh (HSv1.out.trans (hb.mono HSv1.out.size))
      have Hg7v2 := zh (RowAt.new v1 39 #[.int .i64 0, .int .i64 0])
      have HZg7 := zh HSv1.out.size
      have HDv2 : Hid (DeepN (v1.alloc (.cells #[.int .i64 0, .int .i64 0] 39)) (fun k => w1.heap.size ≤ k ∧ k ≠ v1.heap.size) [z]) := zh ((HDv1.out.weak (ok' := fun k => w1.heap.size ≤ k ∧ k ≠ v1.heap.size) fun k hk h => ⟨h, by omega⟩).keep9 fun k hk _ => hb.block k hk)
      clear hb
      refine hK.out _ _ HSv2.out ?_
      clear hK K
      (try simp only [Act.put, zA4, zA5, zA6])
      generalize hgb : v1.heap.size = g7 at *
      generalize (v1.alloc (.cells #[.int .i64 0, .int .i64 0] 39)) = v2 at *
      clear hgb
      (refine wpOU_solo (zO rfl) ?_)
      intro K hK
      go_simp
      have hb : Below v2.heap.size v2 (v2.alloc (.cells #[.int .i64 0, .int .i64 0, .string ⟨#[]⟩, .slice none 0 0, .slice none 0 0] 28)) := (zB _ _).alloc (zL _) _
      have HSv3 := zh (HSv2.out.trans (hb.mono HSv2.out.size))
      have Hg5v3 := zh (RowAt.new v2 28 #[.int .i64 0, .int .i64 0, .string ⟨#[]⟩, .slice none 0 0, .slice none 0 0])
      have HZg5 := zh HSv2.out.size
      have Hg7v3 := zh (Hg7v2.out.below hb Hg7v2.out.lt)
      have HNE : Hid (g7 < v2.heap.size) := zh Hg7v2.out.lt
      have HDv3 : Hid (DeepN (v2.alloc (.cells #[.int .i64 0, .int .i64 0, .string ⟨#[]⟩, .slice none 0 0, .slice none 0 0] 28)) (fun k => w1.heap.size ≤ k ∧ k ≠ v2.heap.size ∧ k ≠ g7) [z]) := zh ((HDv2.out.weak (ok' := fun k => w1.heap.size ≤ k ∧ k ≠ v2.heap.size ∧ k ≠ g7) fun k hk h => ⟨h.1, by omega, h.2⟩).keep9 fun k hk _ => hb.block k hk)
      clear hb
      refine hK.out _ _ HSv3.out ?_
      clear hK K
      (try simp only [Act.put, zA4, zA5, zA6])
      generalize hgb : v2.heap.size = g5 at *
      generalize (v2.alloc (.cells #[.int .i64 0, .int .i64 0, .string ⟨#[]⟩, .slice none 0 0, .slice none 0 0] 28)) = v3 at *
      clear hgb
      (refine wpOU_solo (zO rfl) ?_)
      intro K hK
      have hne : g5 ≠ g7 := by have := HNE.out; omega
      have hz5 := HZg5.out
      have hz7 := HZg7.out
      rw [if_pos (by rfl)]
      refine wp_store_row _ _ _ rfl g5 (nv z) rfl rfl _ _ Hg5v3.out (node_info _ _ _ _ _) rfl (by simp [nv, Value.oneCell']) ?_
      have HSv9 : Hid (Below w1.heap.size w1 (v3.setRow g5 (nv z))) := zh (HSv3.out.trans (below_setRow hz5 _))
      have Hg5v9 := zh (Hg5v3.out.setRow (nv z))
      have Hg7v9 : Hid (RowAt (v3.setRow g5 (nv z)) g7 39 #[.int .i64 0, .int .i64 0]) := zh ((setRow_other v3 g5 g7 _ (Ne.symm hne)).trans Hg7v3.out)
      have HDv9 : Hid (DeepN (v3.setRow g5 (nv z)) (fun k => w1.heap.size ≤ k ∧ k ≠ g5 ∧ k ≠ g7) [z]) := zh (HDv3.out.keep9 fun k _ h => setRow_other v3 g5 k _ h.2.1)
      refine hK.out _ _ HSv9.out ?_
      clear hK K
      (try simp only [Act.put, zA4, zA5, zA6])
      generalize v3.setRow g5 (nv z) = v9 at *
      iterate 1
       (refine wpOU_step (zO rfl) ?_)
       (first
             | (refine wpOU_skip (by rfl) ?_)
             | (refine wpOU_take (v := ?_) (by rfl) ?_ ?_; rotate_left 1; (intro wx hSx; have hc_0 := C0 wx hSx; have hc_1 := C1 wx hSx; go_simp; try with_reducible rfl)))
       (try simp only [Act.put, zA4, zA5, zA6])
      (refine wpOU_solo (zO rfl) ?_)
      intro K hK
      rw [if_pos (by rfl)]
      refine wp_store_row _ _ _ rfl g7 #[.int .i64 fx, .int .i64 fy] rfl rfl _ _ Hg7v9.out (fault_info _ _) rfl (by simp [Value.oneCell']) ?_
      have HSz : Hid (Below w1.heap.size w1 (v9.setRow g7 #[.int .i64 fx, .int .i64 fy])) := zh (HSv9.out.trans (below_setRow hz7 _))
      have Hg7z := zh (Hg7v9.out.setRow #[.int .i64 fx, .int .i64 fy])
      have Hg5z : Hid (RowAt (v9.setRow g7 #[.int .i64 fx, .int .i64 fy]) g5 28 (nv z)) := zh ((setRow_other v9 g7 g5 _ hne).trans Hg5v9.out)
      have HDz : Hid (DeepN (v9.setRow g7 #[.int .i64 fx, .int .i64 fy]) (fun k => w1.heap.size ≤ k ∧ k ≠ g5 ∧ k ≠ g7) [z]) := zh (HDv9.out.keep9 fun k _ h => setRow_other v9 g7 k _ h.2.2)
      refine hK.out _ _ HSz.out ?_
      clear hK K
      (try simp only [Act.put, zA4, zA5, zA6])
      refine wpOU_done ?_
      go_wp2
      go_meet
      case rel => exact ⟨z, m, fx, fy, g5, g7, rfl, rfl, rfl, Hg5z.out, Hg7z.out, HDz.out, HHN.out, HSz.out, hz5, hz7⟩
    ·(refine wpOU_solo (zO rfl) ?_)
     intro K hK
     go_simp
     have hb : Below v0.heap.size v0 (v0.alloc (.cells #[.int .i64 0, .int .i64 0, .string ⟨#[]⟩, .slice none 0 0, .slice none 0 0] 28)) := (zB _ _).alloc (zL _) _
     have HSv1 := zh (HSv0.out.trans (hb.mono HSv0.out.size))
     have Hg5v1 := zh (RowAt.new v0 28 #[.int .i64 0, .int .i64 0, .string ⟨#[]⟩, .slice none 0 0, .slice none 0 0])
     have HZg5 := zh HSv0.out.size
     clear hb
     refine hK.out _ _ HSv1.out ?_
     clear hK K
     (try simp only [Act.put, zA4, zA5, zA6])
     generalize hgb : v0.heap.size = g5 at *
     generalize (v0.alloc (.cells #[.int .i64 0, .int .i64 0, .string ⟨#[]⟩, .slice none 0 0, .slice none 0 0] 28)) = v1 at *
     clear hgb
     refine wpOU_two ?_ ?_
     ·(refine wpOU_solo (zO rfl) ?_)
      intro K hK
      go_simp
      refine (HC.out v1 HSv1.out).mono ?_
      rintro e' v2 ⟨z, m, fx, fy, rfl, hdn, hhn, hb⟩
      have HSv2 := zh (HSv1.out.trans (hb.mono HSv1.out.size))
      have hzv2 : w1.heap.size ≤ v1.heap.size := HSv1.out.size
      have HHN := zh hhn
      have hzzg5 := Hg5v1.out.lt
      have Hg5v2 := zh (Hg5v1.out.below hb Hg5v1.out.lt)
      have HDv2 : Hid (DeepN v2 (fun k => w1.heap.size ≤ k ∧ k ≠ g5) [z]) := zh (hdn.weak fun k hk h => ⟨by omega, by omega⟩)
      clear hb hdn hhn
      refine hK.out _ _ HSv2.out ?_
      clear hK K
      (try simp only [Act.put, zA4, zA5, zA6])
      iterate 4
       (refine wpOU_step (zO rfl) ?_)
       (first
             | (refine wpOU_skip (by rfl) ?_)
             | (refine wpOU_take (v := ?_) (by rfl) ?_ ?_; rotate_left 1; (intro wx hSx; have hc_0 := C0 wx hSx; have hc_1 := C1 wx hSx; go_simp; try with_reducible rfl)))
       (try simp only [Act.put, zA4, zA5, zA6])
      (refine wpOU_solo (zO rfl) ?_)
      intro K hK
      go_simp
      have hb : Below v2.heap.size v2 (v2.alloc (.cells #[.int .i64 0, .int .i64 0] 39)) := (zB _ _).alloc (zL _) _
      have HSv3 := zh (HSv2.out.trans (hb.mono HSv2.out.size))
      have Hg7v3 := zh (RowAt.new v2 39 #[.int .i64 0, .int .i64 0])
      have HZg7 := zh HSv2.out.size
      have Hg5v3 := zh (Hg5v2.out.below hb Hg5v2.out.lt)
      have HNE : Hid (g5 < v2.heap.size) := zh Hg5v2.out.lt
      have HDv3 : Hid (DeepN (v2.alloc (.cells #[.int .i64 0, .int .i64 0] 39)) (fun k => w1.heap.size ≤ k ∧ k ≠ g5 ∧ k ≠ v2.heap.size) [z]) := zh ((HDv2.out.weak (ok' := fun k => w1.heap.size ≤ k ∧ k ≠ g5 ∧ k ≠ v2.heap.size) fun k hk h => ⟨h.1, h.2, by omega⟩).keep9 fun k hk _ => hb.block k hk)
      clear hb
      refine hK.out _ _ HSv3.out ?_
      clear hK K
      (try simp only [Act.put, zA4, zA5, zA6])
      generalize hgb : v2.heap.size = g7 at *
      generalize (v2.alloc (.cells #[.int .i64 0, .int .i64 0] 39)) = v3 at *
      clear hgb
      (refine wpOU_solo (zO rfl) ?_)
      intro K hK
      have hne : g5 ≠ g7 := by have := HNE.out; omega
      have hz5 := HZg5.out
      have hz7 := HZg7.out
      rw [if_pos (by rfl)]
      refine wp_store_row _ _ _ rfl g5 (nv z) rfl rfl _ _ Hg5v3.out (node_info _ _ _ _ _) rfl (by simp [nv, Value.oneCell']) ?_
      have HSv9 : Hid (Below w1.heap.size w1 (v3.setRow g5 (nv z))) := zh (HSv3.out.trans (below_setRow hz5 _))
      have Hg5v9 := zh (Hg5v3.out.setRow (nv z))
      have Hg7v9 : Hid (RowAt (v3.setRow g5 (nv z)) g7 39 #[.int .i64 0, .int .i64 0]) := zh ((setRow_other v3 g5 g7 _ (Ne.symm hne)).trans Hg7v3.out)
      have HDv9 : Hid (DeepN (v3.setRow g5 (nv z)) (fun k => w1.heap.size ≤ k ∧ k ≠ g5 ∧ k ≠ g7) [z]) := zh (HDv3.out.keep9 fun k _ h => setRow_other v3 g5 k _ h.2.1)
      refine hK.out _ _ HSv9.out ?_
      clear hK K
      (try simp only [Act.put, zA4, zA5, zA6])
      generalize v3.setRow g5 (nv z) = v9 at *
      iterate 1
       (refine wpOU_step (zO rfl) ?_)
       (first
             | (refine wpOU_skip (by rfl) ?_)
             | (refine wpOU_take (v := ?_) (by rfl) ?_ ?_; rotate_left 1; (intro wx hSx; have hc_0 := C0 wx hSx; have hc_1 := C1 wx hSx; go_simp; try with_reducible rfl)))
       (try simp only [Act.put, zA4, zA5, zA6])
      (refine wpOU_solo (zO rfl) ?_)
      intro K hK
      rw [if_pos (by rfl)]
      refine wp_store_row _ _ _ rfl g7 #[.int .i64 fx, .int .i64 fy] rfl rfl _ _ Hg7v9.out (fault_info _ _) rfl (by simp [Value.oneCell']) ?_
      have HSz : Hid (Below w1.heap.size w1 (v9.setRow g7 #[.int .i64 fx, .int .i64 fy])) := zh (HSv9.out.trans (below_setRow hz7 _))
      have Hg7z := zh (Hg7v9.out.setRow #[.int .i64 fx, .int .i64 fy])
      have Hg5z : Hid (RowAt (v9.setRow g7 #[.int .i64 fx, .int .i64 fy]) g5 28 (nv z)) := zh ((setRow_other v9 g7 g5 _ hne).trans Hg5v9.out)
      have HDz : Hid (DeepN (v9.setRow g7 #[.int .i64 fx, .int .i64 fy]) (fun k => w1.heap.size ≤ k ∧ k ≠ g5 ∧ k ≠ g7) [z]) := zh (HDv9.out.keep9 fun k _ h => setRow_other v9 g7 k _ h.2.2)
      refine hK.out _ _ HSz.out ?_
      clear hK K
      (try simp only [Act.put, zA4, zA5, zA6])
      refine wpOU_done ?_
      go_wp2
      go_meet
      case rel => exact ⟨z, m, fx, fy, g5, g7, rfl, rfl, rfl, Hg5z.out, Hg7z.out, HDz.out, HHN.out, HSz.out, hz5, hz7⟩
     ·(refine wpOU_solo (zO rfl) ?_)
      intro K hK
      go_simp
      have hb : Below v1.heap.size v1 (v1.alloc (.cells #[.int .i64 0, .int .i64 0] 39)) := (zB _ _).alloc (zL _) _
      have HSv2 := zh (HSv1.out.trans (hb.mono HSv1.out.size))
      have Hg7v2 := zh (RowAt.new v1 39 #[.int .i64 0, .int .i64 0])
      have HZg7 := zh HSv1.out.size
      have Hg5v2 := zh (Hg5v1.out.below hb Hg5v1.out.lt)
      have HNE : Hid (g5 < v1.heap.size) := zh Hg5v1.out.lt
      clear hb
      refine hK.out _ _ HSv2.out ?_
      clear hK K
      (try simp only [Act.put, zA4, zA5, zA6])
      generalize hgb : v1.heap.size = g7 at *
      generalize (v1.alloc (.cells #[.int .i64 0, .int .i64 0] 39)) = v2 at *
      clear hgb
      (refine wpOU_solo (zO rfl) ?_)
      intro K hK
      go_simp
      refine (HC.out v2 HSv2.out).mono ?_
      rintro e' v3 ⟨z, m, fx, fy, rfl, hdn, hhn, hb⟩
      have HSv3 := zh (HSv2.out.trans (hb.mono HSv2.out.size))
      have hzv3 : w1.heap.size ≤ v2.heap.size := HSv2.out.size
      have HHN := zh hhn
      have hzzg5 := Hg5v2.out.lt
      have Hg5v3 := zh (Hg5v2.out.below hb Hg5v2.out.lt)
      have hzzg7 := Hg7v2.out.lt
      have Hg7v3 := zh (Hg7v2.out.below hb Hg7v2.out.lt)
      have HDv3 : Hid (DeepN v3 (fun k => w1.heap.size ≤ k ∧ k ≠ g5 ∧ k ≠ g7) [z]) := zh (hdn.weak fun k hk h => ⟨by omega, by omega, by omega⟩)
      clear hb hdn hhn
      refine hK.out _ _ HSv3.out ?_
      clear hK K
      (try simp only [Act.put, zA4, zA5, zA6])
      iterate 4
       (refine wpOU_step (zO rfl) ?_)
       (first
             | (refine wpOU_skip (by rfl) ?_)
             | (refine wpOU_take (v := ?_) (by rfl) ?_ ?_; rotate_left 1; (intro wx hSx; have hc_0 := C0 wx hSx; have hc_1 := C1 wx hSx; go_simp; try with_reducible rfl)))
       (try simp only [Act.put, zA4, zA5, zA6])
      (refine wpOU_solo (zO rfl) ?_)
      intro K hK
      have hne : g5 ≠ g7 := by have := HNE.out; omega
      have hz5 := HZg5.out
      have hz7 := HZg7.out
      rw [if_pos (by rfl)]
      refine wp_store_row _ _ _ rfl g5 (nv z) rfl rfl _ _ Hg5v3.out (node_info _ _ _ _ _) rfl (by simp [nv, Value.oneCell']) ?_
      have HSv9 : Hid (Below w1.heap.size w1 (v3.setRow g5 (nv z))) := zh (HSv3.out.trans (below_setRow hz5 _))
      have Hg5v9 := zh (Hg5v3.out.setRow (nv z))
      have Hg7v9 : Hid (RowAt (v3.setRow g5 (nv z)) g7 39 #[.int .i64 0, .int .i64 0]) := zh ((setRow_other v3 g5 g7 _ (Ne.symm hne)).trans Hg7v3.out)
      have HDv9 : Hid (DeepN (v3.setRow g5 (nv z)) (fun k => w1.heap.size ≤ k ∧ k ≠ g5 ∧ k ≠ g7) [z]) := zh (HDv3.out.keep9 fun k _ h => setRow_other v3 g5 k _ h.2.1)
      refine hK.out _ _ HSv9.out ?_
      clear hK K
      (try simp only [Act.put, zA4, zA5, zA6])
      generalize v3.setRow g5 (nv z) = v9 at *
      iterate 1
       (refine wpOU_step (zO rfl) ?_)
       (first
             | (refine wpOU_skip (by rfl) ?_)
             | (refine wpOU_take (v := ?_) (by rfl) ?_ ?_; rotate_left 1; (intro wx hSx; have hc_0 := C0 wx hSx; have hc_1 := C1 wx hSx; go_simp; try with_reducible rfl)))
       (try simp only [Act.put, zA4, zA5, zA6])
      (refine wpOU_solo (zO rfl) ?_)
      intro K hK
      rw [if_pos (by rfl)]
      refine wp_store_row _ _ _ rfl g7 #[.int .i64 fx, .int .i64 fy] rfl rfl _ _ Hg7v9.out (fault_info _ _) rfl (by simp [Value.oneCell']) ?_
      have HSz : Hid (Below w1.heap.size w1 (v9.setRow g7 #[.int .i64 fx, .int .i64 fy])) := zh (HSv9.out.trans (below_setRow hz7 _))
      have Hg7z := zh (Hg7v9.out.setRow #[.int .i64 fx, .int .i64 fy])
      have Hg5z : Hid (RowAt (v9.setRow g7 #[.int .i64 fx, .int .i64 fy]) g5 28 (nv z)) := zh ((setRow_other v9 g7 g5 _ hne).trans Hg5v9.out)
      have HDz : Hid (DeepN (v9.setRow g7 #[.int .i64 fx, .int .i64 fy]) (fun k => w1.heap.size ≤ k ∧ k ≠ g5 ∧ k ≠ g7) [z]) := zh (HDv9.out.keep9 fun k _ h => setRow_other v9 g7 k _ h.2.2)
      refine hK.out _ _ HSz.out ?_
      clear hK K
      (try simp only [Act.put, zA4, zA5, zA6])
      refine wpOU_done ?_
      go_wp2
      go_meet
      case rel => exact ⟨z, m, fx, fy, g5, g7, rfl, rfl, rfl, Hg5z.out, Hg7z.out, HDz.out, HHN.out, HSz.out, hz5, hz7⟩
    ·(refine wpOU_solo (zO rfl) ?_)
     intro K hK
     go_simp
     have hb : Below v0.heap.size v0 (v0.alloc (.cells #[.int .i64 0, .int .i64 0] 39)) := (zB _ _).alloc (zL _) _
     have HSv1 := zh (HSv0.out.trans (hb.mono HSv0.out.size))
     have Hg7v1 := zh (RowAt.new v0 39 #[.int .i64 0, .int .i64 0])
     have HZg7 := zh HSv0.out.size
     clear hb
     refine hK.out _ _ HSv1.out ?_
     clear hK K
     (try simp only [Act.put, zA4, zA5, zA6])
     generalize hgb : v0.heap.size = g7 at *
     generalize (v0.alloc (.cells #[.int .i64 0, .int .i64 0] 39)) = v1 at *
     clear hgb
     refine wpOU_two ?_ ?_
     ·(refine wpOU_solo (zO rfl) ?_)
      intro K hK
      go_simp
      refine (HC.out v1 HSv1.out).mono ?_
      rintro e' v2 ⟨z, m, fx, fy, rfl, hdn, hhn, hb⟩
      have HSv2 := zh (HSv1.out.trans (hb.mono HSv1.out.size))
      have hzv2 : w1.heap.size ≤ v1.heap.size := HSv1.out.size
      have HHN := zh hhn
      have hzzg7 := Hg7v1.out.lt
      have Hg7v2 := zh (Hg7v1.out.below hb Hg7v1.out.lt)
      have HDv2 : Hid (DeepN v2 (fun k => w1.heap.size ≤ k ∧ k ≠ g7) [z]) := zh (hdn.weak fun k hk h => ⟨by omega, by omega⟩)
      clear hb hdn hhn
      refine hK.out _ _ HSv2.out ?_
      clear hK K
      (try simp only [Act.put, zA4, zA5, zA6])
      iterate 4
       (refine wpOU_step (zO rfl) ?_)
       (first
             | (refine wpOU_skip (by rfl) ?_)
             | (refine wpOU_take (v := ?_) (by rfl) ?_ ?_; rotate_left 1; (intro wx hSx; have hc_0 := C0 wx hSx; have hc_1 := C1 wx hSx; go_simp; try with_reducible rfl)))
       (try simp only [Act.put, zA4, zA5, zA6])
      (refine wpOU_solo (zO rfl) ?_)
      intro K hK
      go_simp
      have hb : Below v2.heap.size v2 (v2.alloc (.cells #[.int .i64 0, .int .i64 0, .string ⟨#[]⟩, .slice none 0 0, .slice none 0 0] 28)) := (zB _ _).alloc (zL _) _
      have HSv3 := zh (HSv2.out.trans (hb.mono HSv2.out.size))
      have Hg5v3 := zh (RowAt.new v2 28 #[.int .i64 0, .int .i64 0, .string ⟨#[]⟩, .slice none 0 0, .slice none 0 0])
      have HZg5 := zh HSv2.out.size
      have Hg7v3 := zh (Hg7v2.out.below hb Hg7v2.out.lt)
      have HNE : Hid (g7 < v2.heap.size) := zh Hg7v2.out.lt
      have HDv3 : Hid (DeepN (v2.alloc (.cells #[.int .i64 0, .int .i64 0, .string ⟨#[]⟩, .slice none 0 0, .slice none 0 0] 28)) (fun k => w1.heap.size ≤ k ∧ k ≠ v2.heap.size ∧ k ≠ g7) [z]) := zh ((HDv2.out.weak (ok' := fun k => w1.heap.size ≤ k ∧ k ≠ v2.heap.size ∧ k ≠ g7) fun k hk h => ⟨h.1, by omega, h.2⟩).keep9 fun k hk _ => hb.block k hk)
      clear hb
      refine hK.out _ _ HSv3.out ?_
      clear hK K
      (try simp only [Act.put, zA4, zA5, zA6])
      generalize hgb : v2.heap.size = g5 at *
      generalize (v2.alloc (.cells #[.int .i64 0, .int .i64 0, .string ⟨#[]⟩, .slice none 0 0, .slice none 0 0] 28)) = v3 at *
      clear hgb
      (refine wpOU_solo (zO rfl) ?_)
      intro K hK
      have hne : g5 ≠ g7 := by have := HNE.out; omega
      have hz5 := HZg5.out
      have hz7 := HZg7.out
      rw [if_pos (by rfl)]
      refine wp_store_row _ _ _ rfl g5 (nv z) rfl rfl _ _ Hg5v3.out (node_info _ _ _ _ _) rfl (by simp [nv, Value.oneCell']) ?_
      have HSv9 : Hid (Below w1.heap.size w1 (v3.setRow g5 (nv z))) := zh (HSv3.out.trans (below_setRow hz5 _))
      have Hg5v9 := zh (Hg5v3.out.setRow (nv z))
      have Hg7v9 : Hid (RowAt (v3.setRow g5 (nv z)) g7 39 #[.int .i64 0, .int .i64 0]) := zh ((setRow_other v3 g5 g7 _ (Ne.symm hne)).trans Hg7v3.out)
      have HDv9 : Hid (DeepN (v3.setRow g5 (nv z)) (fun k => w1.heap.size ≤ k ∧ k ≠ g5 ∧ k ≠ g7) [z]) := zh (HDv3.out.keep9 fun k _ h => setRow_other v3 g5 k _ h.2.1)
      refine hK.out _ _ HSv9.out ?_
      clear hK K
      (try simp only [Act.put, zA4, zA5, zA6])
      generalize v3.setRow g5 (nv z) = v9 at *
      iterate 1
       (refine wpOU_step (zO rfl) ?_)
       (first
             | (refine wpOU_skip (by rfl) ?_)
             | (refine wpOU_take (v := ?_) (by rfl) ?_ ?_; rotate_left 1; (intro wx hSx; have hc_0 := C0 wx hSx; have hc_1 := C1 wx hSx; go_simp; try with_reducible rfl)))
       (try simp only [Act.put, zA4, zA5, zA6])
      (refine wpOU_solo (zO rfl) ?_)
      intro K hK
      rw [if_pos (by rfl)]
      refine wp_store_row _ _ _ rfl g7 #[.int .i64 fx, .int .i64 fy] rfl rfl _ _ Hg7v9.out (fault_info _ _) rfl (by simp [Value.oneCell']) ?_
      have HSz : Hid (Below w1.heap.size w1 (v9.setRow g7 #[.int .i64 fx, .int .i64 fy])) := zh (HSv9.out.trans (below_setRow hz7 _))
      have Hg7z := zh (Hg7v9.out.setRow #[.int .i64 fx, .int .i64 fy])
      have Hg5z : Hid (RowAt (v9.setRow g7 #[.int .i64 fx, .int .i64 fy]) g5 28 (nv z)) := zh ((setRow_other v9 g7 g5 _ hne).trans Hg5v9.out)
      have HDz : Hid (DeepN (v9.setRow g7 #[.int .i64 fx, .int .i64 fy]) (fun k => w1.heap.size ≤ k ∧ k ≠ g5 ∧ k ≠ g7) [z]) := zh (HDv9.out.keep9 fun k _ h => setRow_other v9 g7 k _ h.2.2)
      refine hK.out _ _ HSz.out ?_
      clear hK K
      (try simp only [Act.put, zA4, zA5, zA6])
      refine wpOU_done ?_
      go_wp2
      go_meet
      case rel => exact ⟨z, m, fx, fy, g5, g7, rfl, rfl, rfl, Hg5z.out, Hg7z.out, HDz.out, HHN.out, HSz.out, hz5, hz7⟩
     ·(refine wpOU_solo (zO rfl) ?_)
      intro K hK
      go_simp
      have hb : Below v1.heap.size v1 (v1.alloc (.cells #[.int .i64 0, .int .i64 0, .string ⟨#[]⟩, .slice none 0 0, .slice none 0 0] 28)) := (zB _ _).alloc (zL _) _
      have HSv2 := zh (HSv1.out.trans (hb.mono HSv1.out.size))
      have Hg5v2 := zh (RowAt.new v1 28 #[.int .i64 0, .int .i64 0, .string ⟨#[]⟩, .slice none 0 0, .slice none 0 0])
      have HZg5 := zh HSv1.out.size
      have Hg7v2 := zh (Hg7v1.out.below hb Hg7v1.out.lt)
      have HNE : Hid (g7 < v1.heap.size) := zh Hg7v1.out.lt
      clear hb
      refine hK.out _ _ HSv2.out ?_
      clear hK K
      (try simp only [Act.put, zA4, zA5, zA6])
      generalize hgb : v1.heap.size = g5 at *
      generalize (v1.alloc (.cells #[.int .i64 0, .int .i64 0, .string ⟨#[]⟩, .slice none 0 0, .slice none 0 0] 28)) = v2 at *
      clear hgb
      (refine wpOU_solo (zO rfl) ?_)
      intro K hK
      go_simp
      refine (HC.out v2 HSv2.out).mono ?_
      rintro e' v3 ⟨z, m, fx, fy, rfl, hdn, hhn, hb⟩
      have HSv3 := zh (HSv2.out.trans (hb.mono HSv2.out.size))
      have hzv3 : w1.heap.size ≤ v2.heap.size := HSv2.out.size
      have HHN := zh hhn
      have hzzg7 := Hg7v2.out.lt
      have Hg7v3 := zh (Hg7v2.out.below hb Hg7v2.out.lt)
      have hzzg5 := Hg5v2.out.lt
      have Hg5v3 := zh (Hg5v2.out.below hb Hg5v2.out.lt)
      have HDv3 : Hid (DeepN v3 (fun k => w1.heap.size ≤ k ∧ k ≠ g5 ∧ k ≠ g7) [z]) := zh (hdn.weak fun k hk h => ⟨by omega, by omega, by omega⟩)
      clear hb hdn hhn
      refine hK.out _ _ HSv3.out ?_
      clear hK K
      (try simp only [Act.put, zA4, zA5, zA6])
      iterate 4
       (refine wpOU_step (zO rfl) ?_)
       (first
             | (refine wpOU_skip (by rfl) ?_)
             | (refine wpOU_take (v := ?_) (by rfl) ?_ ?_; rotate_left 1; (intro wx hSx; have hc_0 := C0 wx hSx; have hc_1 := C1 wx hSx; go_simp; try with_reducible rfl)))
       (try simp only [Act.put, zA4, zA5, zA6])
      (refine wpOU_solo (zO rfl) ?_)
      intro K hK
      have hne : g5 ≠ g7 := by have := HNE.out; omega
      have hz5 := HZg5.out
      have hz7 := HZg7.out
      rw [if_pos (by rfl)]
      refine wp_store_row _ _ _ rfl g5 (nv z) rfl rfl _ _ Hg5v3.out (node_info _ _ _ _ _) rfl (by simp [nv, Value.oneCell']) ?_
      have HSv9 : Hid (Below w1.heap.size w1 (v3.setRow g5 (nv z))) := zh (HSv3.out.trans (below_setRow hz5 _))
      have Hg5v9 := zh (Hg5v3.out.setRow (nv z))
      have Hg7v9 : Hid (RowAt (v3.setRow g5 (nv z)) g7 39 #[.int .i64 0, .int .i64 0]) := zh ((setRow_other v3 g5 g7 _ (Ne.symm hne)).trans Hg7v3.out)
      have HDv9 : Hid (DeepN (v3.setRow g5 (nv z)) (fun k => w1.heap.size ≤ k ∧ k ≠ g5 ∧ k ≠ g7) [z]) := zh (HDv3.out.keep9 fun k _ h => setRow_other v3 g5 k _ h.2.1)
      refine hK.out _ _ HSv9.out ?_
      clear hK K
      (try simp only [Act.put, zA4, zA5, zA6])
      generalize v3.setRow g5 (nv z) = v9 at *
      iterate 1
       (refine wpOU_step (zO rfl) ?_)
       (first
             | (refine wpOU_skip (by rfl) ?_)
             | (refine wpOU_take (v := ?_) (by rfl) ?_ ?_; rotate_left 1; (intro wx hSx; have hc_0 := C0 wx hSx; have hc_1 := C1 wx hSx; go_simp; try with_reducible rfl)))
       (try simp only [Act.put, zA4, zA5, zA6])
      (refine wpOU_solo (zO rfl) ?_)
      intro K hK
      rw [if_pos (by rfl)]
      refine wp_store_row _ _ _ rfl g7 #[.int .i64 fx, .int .i64 fy] rfl rfl _ _ Hg7v9.out (fault_info _ _) rfl (by simp [Value.oneCell']) ?_
      have HSz : Hid (Below w1.heap.size w1 (v9.setRow g7 #[.int .i64 fx, .int .i64 fy])) := zh (HSv9.out.trans (below_setRow hz7 _))
      have Hg7z := zh (Hg7v9.out.setRow #[.int .i64 fx, .int .i64 fy])
      have Hg5z : Hid (RowAt (v9.setRow g7 #[.int .i64 fx, .int .i64 fy]) g5 28 (nv z)) := zh ((setRow_other v9 g7 g5 _ hne).trans Hg5v9.out)
      have HDz : Hid (DeepN (v9.setRow g7 #[.int .i64 fx, .int .i64 fy]) (fun k => w1.heap.size ≤ k ∧ k ≠ g5 ∧ k ≠ g7) [z]) := zh (HDv9.out.keep9 fun k _ h => setRow_other v9 g7 k _ h.2.2)
      refine hK.out _ _ HSz.out ?_
      clear hK K
      (try simp only [Act.put, zA4, zA5, zA6])
      refine wpOU_done ?_
      go_wp2
      go_meet
      case rel => exact ⟨z, m, fx, fy, g5, g7, rfl, rfl, rfl, Hg5z.out, Hg7z.out, HDz.out, HHN.out, HSz.out, hz5, hz7⟩
   case rest =>
    obtain ⟨z, m, fx, fy, g5, g7, rfl, rfl, rfl, H5, H7, HD, HHN, HB, hz5, hz7⟩ := hcut
    obtain ⟨hm, f2, rfl, rfl, hst⟩ := HHN.out.step
    rw [HLN.out] at hm
    have HST := zh hst
    have hcr := HC1.out.low HB.out hb1w
    have hcap := hcr.cap
    rw [HLN.out] at hcap
    have f0c := hcr.at_.free 0
    have f2c := hcr.at_.free 2
    have f3c := hcr.at_.free 3
    obtain ⟨b0, _, b2, b3⟩ := cr_cells hcr.at_
    rw [HLN.out] at b0
    obtain ⟨x0, x1, x2, x3, x4, _, _, _, _, _⟩ := row5 H5.out
    obtain ⟨r0', r1', _, _⟩ := row2 H7.out
    have hwc : w1.heap.size ≤ wc.heap.size := HB.out.size
    have hbwc : b < wc.heap.size := by omega
    have HMC : Hid (Mv b w wc) := zh (HM1.out.trans (Mv.below hb1w HB.out))
    have HGC := zh (HG1.out.below HB.out hz1)
    have HEND : Hid (∀ A2 c2, A2 = advA A c m → c2 = c - m → ∀ W, W = (((wc.setCell ⟨b, 0, none⟩ (.slice A2 (ln - m) c2)).setCell ⟨b, 2, none⟩ (.int .i64 (fc f2))).setCell ⟨b, 3, none⟩ (.int .i64 (fa f2))).drew →
     (RowAt W g5 28 (nv z) ∧ RowAt W w.heap.size 28 #[.int .i64 0, .int .i64 0, .string ⟨#[]⟩, .slice none 0 0, .slice none 0 0]) ∧ ∀ V, V = set5 W w.heap.size (.int .i64 z.k) (.int .i64 z.p) (.string z.s) (.slice z.A z.ws.length z.c) (.slice z.B z.ks.length z.d) →
     RowAt V w.heap.size 28 (nv z) ∧ Q' (.returned (.agg (nv z))) V) := zh fun A2 c2 hA hc W hW => by
        subst hA hc
        have hmw : Mv b wc W := by
         rw [hW]
         exact ((((Mv.refl b wc).setCell (p := ⟨b, 0, none⟩) (.inl rfl) hbwc _).setCell (p := ⟨b, 2, none⟩) (.inl rfl) hbwc _).setCell (p := ⟨b, 3, none⟩) (.inl rfl) hbwc _).drew
        have hrow : CrAt W b (advA A c m) (l.drop m).length (c - m) e (fc f2) (fa f2) := by
         rw [List.length_drop, HLN.out, hW]
         exact (((hcr.at_.put 0 (.slice (advA A c m) (ln - m) (c - m))).put 2 (.int .i64 (fc f2))).put 3 (.int .i64 (fa f2))).drew
        have hcr2 := hcr.mv hmw hrow (hcr.trs.drop hcr.cap m) (hcr.len.drop m) (by rw [List.length_drop]; have := hcr.cap; omega)
        have h5 := H5.out.mv hmw (by omega)
        have hg := HGC.out.mv hmw (by omega)
        refine ⟨⟨h5, hg⟩, fun V hV => ?_⟩
        subst hV
        have hb5 : Below w.heap.size W (set5 W w.heap.size (.int .i64 z.k) (.int .i64 z.p) (.string z.s) (.slice z.A z.ws.length z.c) (.slice z.B z.ks.length z.d)) := set5_below (zL _)
        refine ⟨set5_row hg, HQ.out _ _ ⟨z, _, _, _, f2, rfl, ?_, hcr2.low hb5 hbw, (HMC.out.trans hmw).onBelow hbw hb5 (zL _), HST.out⟩⟩
        refine (((HD.out.weak (ok' := fun k => w1.heap.size ≤ k) fun k _ h => h.1).keep9 fun k hk h => hmw.block k hk (by omega)).keep9 fun k _ h => set5_other (by omega)).weak fun k _ h => by omega
    clear hcr HC1 HST HHN HMC HD hst
    have hmi : (m : Int) ≤ (ln : Int) := by omega
    have hne5 : ¬ g5 = b := by omega
    have hne7 : ¬ g7 = b := by omega
    go_upto_region 4 with fail
    by_cases hcm : c = m
    ·have HA : Hid (A = advA A c m) := zh (by unfold advA; rw [if_pos hcm])
     have HCE : Hid (0 = c - m) := zh (by show _ = _; omega)
     subst hcm
     have hlm : ln - c = 0 := by omega
     have HEND := HEND.out
     rw [hlm] at HEND
     have HEND := zh HEND
     clear hlm
     go_region
     obtain ⟨⟨h5, hg⟩, hV⟩ := HEND.out A 0 HA.out HCE.out _ rfl
     have HV := zh (hV _ rfl)
     obtain ⟨zk, zp, zs, zA, zc, zw, zBq, zd, zz⟩ := z
     unfold nv at h5 HV
     simp only [Nd.k, Nd.p, Nd.s, Nd.A, Nd.c, Nd.ws, Nd.B, Nd.d, Nd.ks] at h5 HV
     clear b0 b2 b3 x0 x1 x2 x3 x4 r0' r1' HEND hV
     generalize (((wc.setCell ⟨b, 0, none⟩ (.slice A 0 0)).setCell ⟨b, 2, none⟩ (.int .i64 (fc f2))).setCell ⟨b, 3, none⟩ (.int .i64 (fa f2))).drew = W at *
     obtain ⟨x0, x1, x2, x3, x4, _, _, _, _, _⟩ := row5 h5
     obtain ⟨g0, g1, g2, g3, g4, u0, u1, u2, u3, u4⟩ := row5 hg
     go_wp2_with fail
     exact bodyPost_ret (ret_cell rfl _ _ w.heap.size _ _ (0, 0) _ rfl HV.out.1 Tryz.underlying28 rfl (node_info _ _ _ _ _)) rfl HV.out.2
    ·have HA : Hid (Option.map (fun x => x.add (m * 5)) A = advA A c m) := zh (by unfold advA; rw [if_neg hcm])
     go_region
     obtain ⟨⟨h5, hg⟩, hV⟩ := HEND.out _ (c - m) HA.out rfl _ rfl
     have HV := zh (hV _ rfl)
     obtain ⟨zk, zp, zs, zA, zc, zw, zBq, zd, zz⟩ := z
     unfold nv at h5 HV
     simp only [Nd.k, Nd.p, Nd.s, Nd.A, Nd.c, Nd.ws, Nd.B, Nd.d, Nd.ks] at h5 HV
     clear b0 b2 b3 x0 x1 x2 x3 x4 r0' r1' HEND hV
     generalize (((wc.setCell ⟨b, 0, none⟩ (.slice (Option.map (fun x => x.add (m * 5)) A) (ln - m) (c - m))).setCell ⟨b, 2, none⟩ (.int .i64 (fc f2))).setCell ⟨b, 3, none⟩ (.int .i64 (fa f2))).drew = W at *
     obtain ⟨x0, x1, x2, x3, x4, _, _, _, _, _⟩ := row5 h5
     obtain ⟨g0, g1, g2, g3, g4, u0, u1, u2, u3, u4⟩ := row5 hg
     go_wp2_with fail
     exact bodyPost_ret (ret_cell rfl _ _ w.heap.size _ _ (0, 0) _ rfl HV.out.1 Tryz.underlying28 rfl (node_info _ _ _ _ _)) rfl HV.out.2
end
end Go.Proofs.YtmffnkfohmbbeaaGreatDoor
