/- Texts that all the claims need. Conditions: those that each states. -/

import Derived.Test.YtnfndapgcpdcpaaGreatDoorFa8
import Derived.Test.YtnfndapgcpdcpaaGreatDoorFa13
import Derived.Test.YtnfndapgcpdcpaaGreatDoorFa14
set_option linter.unusedSimpArgs false
set_option linter.unusedVariables false
set_option maxRecDepth 100000
set_option maxHeartbeats 40000000
namespace Go.Proofs.YtnfndapgcpdcpaaGreatDoor
section
open Go.RowKit RM Go.Maps
theorem take_mid {P : Program} {S : World → Prop} {o : Oper} {a : Act} (ty : TypeId) (x : Operand) (ho : o.op = .load ty x) (b k : Nat) (hx : a.eval x = .pointer (some ⟨b, k, none⟩)) (cs : List Value) (d : TypeDesc) (hS : ∀ w, S w → w.rangeAt b k cs)
 (hu : P.underlying ty = some d) (hd : d.isRow = true) (hi : (P.info? ty).map (·.size) = some cs.length) : ∀ w, S w → (execOp a.eval o).run P w = .ok (.value (.agg cs.toArray)) w := fun w hw => by
 unfold execOp
 simp only [ho, hx, Instr.loadAt, Instr.sureAddr, Sem.run_bind, Sem.run_pure, Result.andThen_ok, run_loadVar_mid w b k ty cs d (hS w hw) hu hd hi]
theorem list_same {α : Type} (d : α) {xs ys : List α} (h1 : xs.length = ys.length) (h2 : ∀ j, j < xs.length → xs.getD j d = ys.getD j d) : xs = ys := by
 refine List.ext_getElem h1 fun j a b => ?_
 have := h2 j a
 rwa [getD_lt d a, getD_lt d b] at this
theorem run_part_elV (cs : Array Value) (off : Nat) (w : World) : (part 41 cs off).run Tryz.prog w = .ok (.agg (cs.extract off (off + 8))) w := by
 unfold part
 rw [Sem.run_bind, Tryz.isAgg41]
 simp [Tryz.sizeOf41]
theorem run_part_strV {cs : Array Value} {off : Nat} {v : Value} (h : cs[off]? = some v) (w : World) : (part 9 cs off).run Tryz.prog w = .ok v w := by
 unfold part
 rw [Sem.run_bind, Tryz.isAgg9]
 simp [h]
theorem vlA_0 (x : Vl) : (vlC x).toArray[0]? = some (.string x.s) := rfl
theorem vlA_1 (x : Vl) : (vlC x).toArray.extract 1 9 = uv x.e.1 := by
 have h : (ucells x.e.1).length = 8 := elC_len x.e
 unfold vlC
 apply Array.toList_inj.1
 simp only [Array.toList_extract]
 show List.extract (Value.string x.s :: ucells x.e.1) 1 9 = (uv x.e.1).toList
 simp only [List.extract, List.drop_succ_cons, List.drop_zero]
 rw [List.take_of_length_le (by omega)]
 rfl
theorem run_equalElV {l k : List Nat} (hl : EW l) (hk : EW k) (d : Nat) (w : World) : (Op.equalIn (d + 2) 41 (.agg (uv l)) (.agg (uv k))).run Tryz.prog w = .ok (decide (l = k)) w := by
 obtain ⟨i, hi⟩ : ∃ i, Tryz.prog.info? 39 = some i := Option.isSome_iff_exists.1 (by kernel_rfl)
 rw [run_equalIn_array w (d + 1) (uv l) (uv k) Tryz.underlying41 hi, show Tryz.prog.cellsOf 39 = 1 by kernel_rfl, run_eqItems_elem d hl hk w _ fun j hj => by simpa using hj]
 congr 1
 rw [Bool.eq_iff_iff]
 simp only [List.all_eq_true, decide_eq_true_eq, List.mem_range]
 exact ⟨fun h => EW.ext hl hk h, fun h j _ => by rw [h]⟩
theorem run_equalVl (x y : Vl) (w : World) : (Op.equalIn 10000 43 (.agg (vlC x).toArray) (.agg (vlC y).toArray)).run Tryz.prog w = .ok (decide (x = y)) w := by
 rw [run_equalIn_agg w 9999 _ _ _ (by simp only [Program.fieldsOf, Tryz.underlying43]) Tryz.stoodInHeld43]
 have e : (x.s.toList == y.s.toList) = decide (x.s = y.s) := NM.str_eq x.s y.s
 simp only [Program.fieldsOf, Tryz.underlying43, Op.eqFields, ne_eq, String.reduceEq, not_false_eq_true, if_true, Sem.run_bind,
  run_part_strV (vlA_0 x), run_part_strV (vlA_0 y), Result.andThen_ok, run_equalIn_string w 9998 _ _ _ Tryz.underlying9, e]
 by_cases h1 : x.s = y.s
 ·simp only [h1, decide_true, Bool.not_true, Bool.false_eq_true, if_false, run_part_elV, Nat.reduceAdd, vlA_1, Sem.run_bind, Result.andThen_ok, run_equalElV x.e.2 y.e.2 9997]
  by_cases h2 : x.e.1 = y.e.1
  ·simp [h2, vl_ext h1 h2]
  ·have h3 : ¬ x = y := fun h => h2 (by rw [h])
   simp [h2, h3]
 ·have h3 : ¬ x = y := fun h => h1 (by rw [h])
  simp [h1, h3]
theorem take_neqVl {S : World → Prop} {o : Oper} {a : Act} (x y : Operand) (t : TypeId) (ho : o.op = .binOp .neq 43 x y t) (u v : Vl) (hx : a.eval x = .agg (vlC u).toArray) (hy : a.eval y = .agg (vlC v).toArray) :
 ∀ w, S w → (execOp a.eval o).run Tryz.prog w = .ok (.value (.bool (!decide (u = v)))) w := by
 intro w _
 unfold execOp
 simp only [ho, hx, hy, Sem.run_bind, Sem.run_pure, run_eqGuard_agg w _ _ _ _ _ _ Tryz.eqGuardType43, Result.andThen_ok, run_neq_struct, run_equalVl u v w]
theorem el_ext {x y : El} : x = y ↔ x.1 = y.1 := Subtype.ext_iff
theorem qfields_any (A B : Option Addr) (c e : Nat) (xs ys : List Vl) (w : World) (hl : xs.length ≤ maxLen) (hA : Ls vlC w A xs) (hB : Ls vlC w B ys) :
 Calls Tryz.prog 25 #[.slice A xs.length c, .slice B ys.length e] w fun x w' => x = .returned (.bool (decide (xs = ys))) ∧ Below w.heap.size w w' := by
 have HA := zh hA; clear hA
 have HB := zh hB; clear hB
 have HEQ : Hid (xs.length = ys.length → (∀ j, j < xs.length → xs.getD j vl0 = ys.getD j vl0) → xs = ys) := fun h1 h2 => list_same vl0 h1 h2
 have HNL : Hid (xs.length ≠ ys.length → decide (xs = ys) = false) := fun h => by rw [decide_eq_false_iff_not]; rintro rfl; exact h rfl
 have HNE : Hid (∀ j, xs.getD j vl0 ≠ ys.getD j vl0 → decide (xs = ys) = false) := fun j h => by rw [decide_eq_false_iff_not]; rintro rfl; exact h rfl
 have hl' : xs.length ≤ 9223372036854775807 := hl
 clear hl
 have HD : Hid (decide (xs = ys) = decide (xs = ys)) := rfl
 generalize hn : xs.length = n at *
 generalize hm : ys.length = m at *
 have HN := zh hn; clear hn
 have HM := zh hm; clear hm
 by_cases hnm : n = m
 ·subst hnm
  clear HNL
  have HDV : Hid (xs = ys → decide (xs = ys) = true) := fun h => zE h
  have HEQ2 : Hid ((∀ j, j < n → xs.getD j vl0 = ys.getD j vl0) → decide (xs = ys) = true) := fun h => HDV.out (HEQ.out rfl h)
  clear HEQ HDV
  generalize decide (xs = ys) = q at *
  go_enter Tryz.func25, Tryz.ntmps25
  go_wp2_with fail
  go_loopw [5] (fun iv wr => ∃ i : Nat, i ≤ n ∧ iv = .int .i64 i ∧ Hid (∀ j, j < i → xs.getD j vl0 = ys.getD j vl0) ∧ Hid (Below w.heap.size w wr)) (fun iv _ => n - (intOf iv).toNat)
  case atStart => exact ⟨0, by omega, rfl, fun j hj => by omega, zB _ _⟩
  case round =>
   obtain ⟨i, hi, rfl, HF, HW⟩ := hrel
   by_cases hlt : i < n
   ·obtain ⟨b1, o1, rfl, hb1, hc1⟩ := HA.out.at 9 vlC_len (by omega) vl0 (i := i) (by rw [HN.out]; exact hlt)
    obtain ⟨b2, o2, rfl, hb2, hc2⟩ := HB.out.at 9 vlC_len (by omega) vl0 (i := i) (by rw [HM.out]; exact hlt)
    have R1 : Hid (∀ W, Below w.heap.size w W → W.rangeAt b1 (o1 + i * 9) (vlC (xs.getD i vl0))) := fun W h => range_below (hc1 i (by rw [HN.out]; exact hlt)) h hb1
    have R2 : Hid (∀ W, Below w.heap.size w W → W.rangeAt b2 (o2 + i * 9) (vlC (ys.getD i vl0))) := fun W h => range_below (hc2 i (by rw [HM.out]; exact hlt)) h hb2
    clear hc1 hc2 hb1 hb2
    have HSN := zh (HNE.out i)
    have HIN : Hid (xs.getD i vl0 = ys.getD i vl0 → ∀ j, j < i + 1 → xs.getD j vl0 = ys.getD j vl0) := fun h j hj => by
        by_cases e : j = i
        ·rw [e]; exact h
        ·exact HF.out j (by omega)
    have HS : Hid (Below w.heap.size w wr.drew) := HW.out.drew
    clear HF
    generalize xs.getD i vl0 = x at *
    generalize ys.getD i vl0 = y at *
    have hsx : (Tryz.prog.info? 43).map (·.size) = some (vlC x).length := by rw [vlC_len]; kernel_rfl
    have hsy : (Tryz.prog.info? 43).map (·.size) = some (vlC y).length := by rw [vlC_len]; kernel_rfl
    have HSX := zh hsx
    have HSY := zh hsy
    clear hsx hsy
    go_upto_region 6 with fail
    refine wp_region_ord (fun W => Below w.heap.size w W) [(0, true), (1, true), (2, true), (3, true), (4, true), (5, true), (6, true), (7, true), (8, true)] (by kernel_rfl) (by kernel_rfl) rfl (by kernel_rfl) HS.out ?_
    iterate 9
        (refine wpOrd_step (zO rfl) ?_)
        (first
         | (refine wpOrd_skip (by rfl) ?_)
         | (refine wpOrd_take (by rfl) (take_mid _ _ rfl b1 _ rfl _ _ R1.out Tryz.underlying43 rfl HSX.out) ?_)
         | (refine wpOrd_take (by rfl) (take_mid _ _ rfl b2 _ rfl _ _ R2.out Tryz.underlying43 rfl HSY.out) ?_)
         | (refine wpOrd_take (by rfl) (take_neqVl _ _ _ rfl x y rfl rfl) ?_)
         | (refine wpOrd_take (v := ?_) (by rfl) ?_ ?_; rotate_left 1; (intro wx hSx; go_simp; try with_reducible rfl)))
        (try simp only [Act.put, zA4, zA5, zA6])
    refine wpOrd_done ?_
    by_cases hxy : x = y
    ·have HXY := zh (HIN.out hxy)
     rw [show decide (x = y) = true from zE hxy]
     clear hxy HIN HSN R1 R2 HSX HSY HS
     go_wp2_with fail
     go_roundw
     case rel => exact ⟨i + 1, by omega, by go_num, HXY, HW.out.drew⟩
     case measure => simp [intOf]; omega
    ·have HXY := zh (HSN.out hxy)
     rw [show decide (x = y) = false from zF hxy]
     clear hxy HIN HSN R1 R2 HSX HSY HS
     go_wp2_with fail
     go_ret
     exact ⟨ret_eq (bool_eq HXY.out.symm), HW.out.drew⟩
   ·obtain rfl : i = n := by omega
    go_wp2_with fail
    go_ret
    exact ⟨ret_eq (bool_eq (HEQ2.out HF.out).symm), HW.out⟩
 ·have HQ := zh (HNL.out hnm)
  have hne : ((n : Int) != (m : Int)) = true := by rw [bne_iff_ne]; omega
  clear HNL HNE HEQ
  generalize decide (xs = ys) = q at *
  go_enter Tryz.func25, Tryz.ntmps25
  go_wp2_with fail
  go_ret
  exact ⟨ret_eq (bool_eq HQ.out.symm), zB _ _⟩
end
section
open Go.RowKit RM Go.Maps
theorem indexVl_any {F : FuncId} {cap : Array Value} {p : Vl → Bool} (A : Option Addr) (c : Nat) (xs : List Vl) (w : World) (hl : xs.length ≤ maxLen) (hA : Ls vlC w A xs)
 (hf : ∀ args w, (callFunc F args).run Tryz.prog w = .ok (.enter F args) w)
 (H : ∀ j W, j < xs.length → Below w.heap.size w W → Calls Tryz.prog F (#[.agg (vlC (xs.getD j vl0)).toArray] ++ cap) W fun e W' => e = .returned (.bool (p (xs.getD j vl0))) ∧ Below W.heap.size W W') :
 Calls Tryz.prog 62 #[.slice A xs.length c, .func (.func F) #[] cap] w fun e w' => e = .returned (.int .i64 (NM.fst (fun j => p (xs.getD j vl0)) xs.length)) ∧ Below w.heap.size w w' := by
 have HH := zh H; clear H
 have HA := zh hA; clear hA
 have HIT := zh (fun k => @NM.fst_hit (fun j => p (xs.getD j vl0)) xs.length k)
 have MISS := zh (@NM.fst_miss (fun j => p (xs.getD j vl0)) xs.length)
 have hr : NM.fst (fun j => p (xs.getD j vl0)) xs.length = NM.fst (fun j => p (xs.getD j vl0)) xs.length := rfl
 generalize NM.fst (fun j => p (xs.getD j vl0)) xs.length = r at *
 clear hr
 have hl' : xs.length ≤ 9223372036854775807 := hl
 clear hl
 generalize hn : xs.length = n at *
 have HN := zh hn; clear hn
 go_enter Tryz.func62, Tryz.ntmps62
 go_wp2
 go_loopw [8] (fun iv wr => ∃ i : Nat, i ≤ n ∧ iv = .int .i64 i ∧ Hid (∀ j, j < i → p (xs.getD j vl0) = false) ∧ Hid (Below w.heap.size w wr)) (fun iv _ => n - (intOf iv).toNat)
 case atStart => exact ⟨0, by omega, rfl, fun j hj => by omega, zB _ _⟩
 case round =>
  obtain ⟨i, hi, rfl, HF, HB⟩ := hrel
  by_cases hlt : i < n
  ·obtain ⟨b, o, rfl, _, hc⟩ := (HA.out.below HB.out).at 9 vlC_len (by omega) vl0 (i := i) (by rw [HN.out]; exact hlt)
   have HR := zh (hc i (by rw [HN.out]; exact hlt))
   clear hc
   have HC := zh (HH.out i wr hlt HB.out)
   have HYES := zh (fun h => HIT.out i hlt h HF.out)
   have HNO : Hid (p (xs.getD i vl0) = false → ∀ j, j < i + 1 → p (xs.getD j vl0) = false) := fun h j hj => by
        by_cases e : j = i
        ·rw [e]; exact h
        ·exact HF.out j (by omega)
   clear HF
   generalize hq : p (xs.getD i vl0) = q at *
   clear hq
   generalize xs.getD i vl0 = x at *
   have HZ : Hid ((Tryz.prog.info? 43).map (·.size) = some (vlC x).length) := by
        show _ = _
        rw [vlC_len]; kernel_rfl
   cases q
   ·have HNO2 := zh (HNO.out rfl)
    clear HNO HYES
    go_wp2_with (refine wpList_ldIn (by rfl) _ _ rfl b (o + i * 9) rfl _ _ HR.out Tryz.underlying43 rfl HZ.out ?_)
    refine HC.out.mono ?_
    rintro e W ⟨rfl, hb⟩
    have HBW : Hid (Below w.heap.size w W) := zh (HB.out.trans (hb.mono HB.out.size))
    clear hb
    go_wp2
    go_roundw
    case rel => exact ⟨i + 1, by omega, by go_num, HNO2, HBW⟩
    case measure => simp [intOf]; omega
   ·have HYES2 := zh (HYES.out rfl)
    clear HNO HYES
    go_wp2_with (refine wpList_ldIn (by rfl) _ _ rfl b (o + i * 9) rfl _ _ HR.out Tryz.underlying43 rfl HZ.out ?_)
    refine HC.out.mono ?_
    rintro e W ⟨rfl, hb⟩
    have HBW : Hid (Below w.heap.size w W) := zh (HB.out.trans (hb.mono HB.out.size))
    clear hb
    go_wp2
    go_ret
    exact ⟨ret_eq (int_eq HYES2.out.symm), HBW.out⟩
  ·obtain rfl : i = n := by omega
   go_wp2
   go_ret
   exact ⟨ret_eq (int_eq (MISS.out HF.out).symm), HB.out⟩
theorem index1_any (x : Vl) (g : Nat) (s : ByteArray) (w : World) (hg : RowAt w g 9 #[.string s]) :
 Calls Tryz.prog 92 #[.agg (vlC x).toArray, .pointer (some ⟨g, 0, none⟩)] w fun e w' => e = .returned (.bool (decide (x.s = s))) ∧ Below w.heap.size w w' := by
 have r0 := RowAt.new w 43 (vlC x).toArray
 have hb : Below w.heap.size w (w.alloc (.cells (vlC x).toArray 43)) := (zB _ _).alloc (zL _) _
 refine cHid fun Q' hQ => ?_
 have HQ := zh hQ; clear hQ
 go_enter Tryz.func92, Tryz.ntmps92
 go_upto_region 1 with fail
 change Code.wp _ _ _ _ (w.alloc (.cells (vlC x).toArray 43))
 generalize w.alloc (.cells (vlC x).toArray 43) = w1 at *
 have HB := zh hb
 have c0 : w1.cell? ⟨w.heap.size, 0, none⟩ = some (.string x.s) := r0.cell 0
 have c1 : w1.cell? ⟨g, 0, none⟩ = some (.string s) := (hg.below hb hg.lt).cell 0
 have heq := NM.str_eq x.s s
 generalize x.s = t at *
 clear hb r0 hg
 go_wp2_with fail
 exact HQ.out _ _ ⟨rfl, HB.out⟩
theorem with1_any (x : Vl) (g : Nat) (s : ByteArray) (w : World) (hg : RowAt w g 9 #[.string s]) :
 Calls Tryz.prog 63 #[.agg (vlC x).toArray, .pointer (some ⟨g, 0, none⟩)] w fun e w' => e = .returned (.bool (NM.less s x.s)) ∧ Below w.heap.size w w' := by
 have r0 := RowAt.new w 43 (vlC x).toArray
 have hb : Below w.heap.size w (w.alloc (.cells (vlC x).toArray 43)) := (zB _ _).alloc (zL _) _
 refine cHid fun Q' hQ => ?_
 have HQ := zh hQ; clear hQ
 go_enter Tryz.func63, Tryz.ntmps63
 go_upto_region 1 with fail
 change Code.wp _ _ _ _ (w.alloc (.cells (vlC x).toArray 43))
 generalize w.alloc (.cells (vlC x).toArray 43) = w1 at *
 have HB := zh hb
 have c0 : w1.cell? ⟨w.heap.size, 0, none⟩ = some (.string x.s) := r0.cell 0
 have c1 : w1.cell? ⟨g, 0, none⟩ = some (.string s) := (hg.below hb hg.lt).cell 0
 generalize x.s = t at *
 clear hb r0 hg
 go_wp2_with (go_at_call 64; refine (nless_any _ _ _).mono ?_; rintro e w2 ⟨rfl, rfl⟩)
 exact HQ.out _ _ ⟨rfl, HB.out⟩
theorem box_below (w : World) (v : Value) (t : TypeId) : Below w.heap.size w (w.alloc (.cells #[v] t)) := (zB _ _).alloc (zL _) _
theorem index_any (A : Option Addr) (c : Nat) (xs : List Vl) (s : ByteArray) (w : World) (hl : xs.length ≤ maxLen) (hA : Ls vlC w A xs) :
 Calls Tryz.prog 61 #[.slice A xs.length c, .string s] w fun e w' => e = .returned (.int .i64 (ixV xs s)) ∧ Below w.heap.size w w' := by
 have r0 := RowAt.new w 9 #[.string s]
 have hb := box_below w (.string s) 9
 refine cHid fun Q' hQ => ?_
 have HQ := zh hQ; clear hQ
 have HI := zh (indexVl_any (F := 92) (cap := #[.pointer (some ⟨w.heap.size, 0, none⟩)]) (p := fun x => decide (x.s = s)) A c xs (w.alloc (.cells #[.string s] 9)) hl (hA.below hb) (fun _ _ => by kernel_rfl)
  fun j W hj hW => index1_any _ w.heap.size s W (r0.below hW r0.lt))
 have he : NM.fst (fun j => decide ((xs.getD j vl0).s = s)) xs.length = ixV xs s := rfl
 rw [he] at HI
 generalize ixV xs s = r at *
 clear he
 go_enter Tryz.func61, Tryz.ntmps61
 go_upto_region 1 with fail
 change Code.wp _ _ _ _ (w.alloc (.cells #[.string s] 9))
 generalize w.alloc (.cells #[.string s] 9) = w1 at *
 have HB := zh hb
 clear hb r0 hA
 generalize xs.length = n at *
 go_wp2_with (go_at_call 62; refine HI.out.mono ?_; rintro e w2 ⟨rfl, hb2⟩; have HB2 := zh hb2; clear hb2)
 exact HQ.out _ _ ⟨rfl, HB.out.trans (HB2.out.mono HB.out.size)⟩
theorem less_index (A : Option Addr) (c : Nat) (xs : List Vl) (s : ByteArray) (g : Nat) (w : World) (hl : xs.length ≤ maxLen) (hA : Ls vlC w A xs) (hg : RowAt w g 9 #[.string s]) :
 Calls Tryz.prog 62 #[.slice A xs.length c, .func (.func 63) #[] #[.pointer (some ⟨g, 0, none⟩)]] w fun e w' => e = .returned (.int .i64 (lsV xs s)) ∧ Below w.heap.size w w' :=
 indexVl_any (F := 63) (cap := #[.pointer (some ⟨g, 0, none⟩)]) (p := fun x => NM.less s x.s) A c xs w hl hA (fun _ _ => by kernel_rfl)
  fun j W hj hW => with1_any _ g s W (hg.below hW hg.lt)
theorem ret_cell_slot {P : Program} {fn : Func} {p q : Tmp} {ty : TypeId} (h : fn.results = #[.cell q ty, .tmp p]) (tmps : Array Value) (w : World) (v : Value) (g : Nat) (t : TypeId) (cs : Array Value) (fr : Nat × Nat) (d : TypeDesc)
 (hv : tmps.getD p undef = v) (hp : tmps.getD q undef = .pointer (some ⟨g, 0, none⟩)) (hg : w.heap[g]? = some (.cells cs t fr))
 (hu : P.underlying ty = some d) (hd : (match d with | .struct _ | .array _ _ => true | _ => false) = true) (hi : (P.info? ty).map (·.size) = some cs.size) :
 (results fn tmps).run P w = .ok (.tuple #[.agg cs, v]) w := by
 have hp' : tmps[q]?.getD undef = .pointer (some ⟨g, 0, none⟩) := by simpa using hp
 have hv' : tmps[p]?.getD undef = v := by simpa using hv
 simp [results, h, hp', hv', asAddr, run_loadVar_row w g t ty cs fr d hg hu hd hi]
theorem ew_lit {e : List Nat} (h : EW e) : ∃ e0 e1 e2 e3 e4 e5 e6 e7, e = [e0, e1, e2, e3, e4, e5, e6, e7] := by
 obtain ⟨hl, _⟩ := h
 match e, hl with
 | [e0, e1, e2, e3, e4, e5, e6, e7], _ => exact ⟨_, _, _, _, _, _, _, _, rfl⟩
def elv (e : El) : Array Value := (elC e).toArray
theorem elv_size (e : El) : (elv e).size = 8 := elC_len e
theorem elv_one (e : El) : (elv e).all (·.oneCell') = true := all_oneCell_toArray (elC_one e)
theorem elv_info (e : El) : (Tryz.prog.info? 41).map (·.size) = some (elv e).size := by rw [elv_size]; kernel_rfl
theorem elv_zero : elv el0 = #[.int .u64 0, .int .u64 0, .int .u64 0, .int .u64 0, .int .u64 0, .int .u64 0, .int .u64 0, .int .u64 0] := by kernel_rfl
theorem range_el {w : World} {b k : Nat} {x : Vl} (h : w.rangeAt b k (vlC x)) : w.rangeAt b (k + 1) (elC x.e) := fun j u hu => by
 have := h (j + 1) u (by unfold vlC; rw [zA2]; exact hu)
 rw [← this]
 congr 2
 omega
theorem range_s {w : World} {b k : Nat} {x : Vl} (h : w.rangeAt b k (vlC x)) : w.cell? ⟨b, k, none⟩ = some (.string x.s) := h 0 _ rfl
def getR (p : El × Bool) : Value := .tuple #[.agg (elv p.1), .bool p.2]
end
end Go.Proofs.YtnfndapgcpdcpaaGreatDoor
