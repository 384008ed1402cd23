/- Texts that all the claims need. Conditions: those that each states. -/
import Derived.Lib.AppendStr
import Derived.Lib.OthersKept
import Derived.WalkMore
import Derived.Test.YtmffnkfohmbbeaaGreatDoorCi4
set_option linter.unusedSimpArgs false
set_option linter.unusedVariables false
set_option maxRecDepth 100000
set_option maxHeartbeats 40000000
namespace Go.Proofs.YtmffnkfohmbbeaaGreatDoor
section
open Go.RowKit LX
end
section
open Go.RowKit LX
namespace LX
end LX
end
section
open Go.RowKit LX
theorem str_cells (x : List UInt8) (s : ByteArray) : Lib.byteCells x ++ Lib.strCells s = Lib.byteCells (x ++ lst s) := by rw [Lib.strCells_eq, Lib.byteCells_append]; rfl
theorem byte_cells (x : List UInt8) (c : UInt8) : Lib.byteCells x ++ [.int .u8 (c.toNat : Int)] = Lib.byteCells (x ++ [c]) := by rw [Lib.byteCells_append]; rfl
end
section
open Go.RowKit LX
theorem clone_any (s : ByteArray) (w : World) (hl : s.size ≤ 4294967296) :
 Calls Tryz.prog 89 #[.string s] w fun e w' => e = .returned (.string s) ∧ Below w.heap.size w w' := by
 go_enter Tryz.func89, Tryz.ntmps89
 go_wp2_with fail
 refine (Tryz.stringslite_Clone s _ (by omega)).mono ?_
 rintro e w1 ⟨rfl, hb⟩
 have HB := zh hb; clear hb
 go_wp2
 go_ret
 exact ⟨rfl, HB.out⟩
theorem hasPrefix_dash (s : ByteArray) (i : Nat) (hi : i < s.size) : Lib.hasPrefix (s.extract i s.size).data.toList [45, 45] = dash s i := by
 have e : (s.extract i s.size).data.toList = (lst s).drop i := by
  show lst (sub s i s.size) = _
  rw [lst_sub, List.take_of_length_le]
  rw [List.length_drop, lst_length]; omega
 rw [e]
 obtain ⟨c, e1, hc⟩ := drop_at hi
 rw [e1]
 unfold dash
 rw [← hc, Lib.hasPrefix]
 by_cases hi2 : i + 1 < s.size
 ·obtain ⟨d, e2, hd⟩ := drop_at hi2
  rw [e2, zE hi2, ← hd, Bool.eq_iff_iff]
  simp only [List.isPrefixOf, Bool.and_eq_true, beq_iff_eq, decide_eq_true_eq, Bool.and_true, true_and]
  constructor
  ·rintro ⟨rfl, rfl⟩; exact ⟨rfl, rfl⟩
  ·rintro ⟨h1, h2⟩; exact ⟨(UInt8.toNat_inj.1 h1).symm, (UInt8.toNat_inj.1 h2).symm⟩
 ·rw [List.drop_eq_nil_of_le (by rw [lst_length]; omega), zF hi2]
  simp [List.isPrefixOf]
theorem prefix_any (s : ByteArray) (i : Nat) (hi : i < s.size) (w : World) :
 Calls Tryz.prog 87 #[.string (s.extract i s.size), .string ⟨#[45, 45]⟩] w fun e w' => e = .returned (.bool (dash s i)) ∧ w = w' := by
 refine (Tryz.strings_HasPrefix _ _ _).mono ?_
 rintro e w' ⟨rfl, rfl⟩
 refine ⟨ret_eq (bool_eq ?_), rfl⟩
 exact hasPrefix_dash s i hi
def Rd (B : Nat) (R : Except Nat (List Tk)) (e : Ending) (w w' : World) : Prop := Below B w w' ∧
 match R with
 | .ok l => ∃ A c, e = .returned (.tuple #[.slice A l.length c, .agg #[.int .i64 0, .int .i64 0]]) ∧ w'.ownsRow B 78 3 (.slice A l.length c) l.length (tkcells l)
 | .error f => e = .returned (.tuple #[.slice none 0 0, .agg #[.int .i64 1, .int .i64 (f : Int)]])
theorem infoTok : (Tryz.prog.info? 78).map (fun i => (i.zero, i.size, i.bytes)) = some (some (.agg #[.int .u8 0, .string ⟨#[]⟩, .int .i64 0]), 3, 32) := by kernel_rfl
theorem own_cell {w : World} {base size n : Nat} {e : TypeId} {x : Value} {cs : List Value} (h : w.ownsRow base e size x n cs) {p : Addr} (hp : p.block < base) (u : Value) : (w.setCell p u).ownsRow base e size x n cs := by
 refine ⟨h.1, ?_⟩
 rcases h.2 with hn | ⟨g', cap, cur, rfl, hg, hh, rest⟩
 ·exact .inl hn
 ·refine .inr ⟨g', cap, cur, rfl, hg, ?_, rest⟩
  have : p.block ≠ g' := by omega
  simp only [World.setCell, Array.getElem?_modify, if_neg this]
  exact hh
theorem ret_slot_cell {P : Program} {fn : Func} {p q : Tmp} {ty : TypeId} (h : fn.results = #[.tmp p, .cell q ty]) (tmps : Array Value) (w : World) (v : Value) (g : Nat) (t : TypeId) (cs : Array Value) (fr : Nat × Nat) (d : TypeDesc)
 (hv : tmps.getD p undef = v) (hp : tmps.getD q undef = .pointer (some ⟨g, 0, none⟩)) (hg : w.heap[g]? = some (.cells cs t fr))
 (hu : P.underlying ty = some d) (hd : (match d with | .struct _ | .array _ _ => true | _ => false) = true) (hi : (P.info? ty).map (·.size) = some cs.size) :
 (results fn tmps).run P w = .ok (.tuple #[v, .agg cs]) w := by
 have hp' : tmps[q]?.getD undef = .pointer (some ⟨g, 0, none⟩) := by simpa using hp
 have hv' : tmps[p]?.getD undef = v := by simpa using hv
 simp [results, h, hp', hv', asAddr, run_loadVar_row w g t ty cs fr d hg hu hd hi]
theorem fault_info (a b : Value) : (Tryz.prog.info? 39).map (·.size) = some (#[a, b] : Array Value).size := by kernel_rfl
theorem lexRead_any (s : ByteArray) (w : World) (hl : s.size ≤ 2147483648) :
 Calls Tryz.prog 51 #[.string s] w fun e w' => Rd w.heap.size (scan s 0 []) e w w' := by
 have hmf : ∀ (fn : Fn) (first cap : Array Value) (w : World), (Instr.makeFunc fn first cap).run Tryz.prog w = .ok (.func fn first cap) w := fun _ _ _ _ => rfl
 have hg0 := RowAt.new w 9 #[.string s]
 have hg1 := RowAt.new (w.alloc (.cells #[.string s] 9)) 39 #[.int .i64 0, .int .i64 0]
 rw [show (w.alloc (.cells #[.string s] 9)).heap.size = w.heap.size + 1 by simp] at hg1
 have HG0 := zh (hg0.alloc (.cells #[.int .i64 0, .int .i64 0] 39))
 have HG1 := zh hg1
 have HGB : Hid (Below w.heap.size w ((w.alloc (.cells #[.string s] 9)).alloc (.cells #[.int .i64 0, .int .i64 0] 39))) := ((zB _ _).alloc (zL _) _).alloc (by simp) _
 have HGS : Hid (w.heap.size + 2 ≤ ((w.alloc (.cells #[.string s] 9)).alloc (.cells #[.int .i64 0, .int .i64 0] 39)).heap.size) := by
  show w.heap.size + 2 ≤ _
  simp
 clear hg0 hg1
 generalize hR : scan s 0 [] = R
 have HR := zh hR; clear hR
 go_enter Tryz.func51, Tryz.ntmps51
 go_wp2
 go_step3
 go_wp2
 go_step3
 go_wp2
 go_loopw [5, 7] (fun lv av wr => ∃ (i : Nat) (acc : List Tk) (A : Option Addr) (c : Nat), i ≤ s.size ∧ acc.length ≤ i ∧ lv = .slice A acc.length c ∧ av = .int .i64 i ∧ Hid (wr.ownsRow (w.heap.size + 2) 78 3 (.slice A acc.length c) acc.length (tkcells acc)) ∧ Hid (scan s i acc = R)
  ∧ Hid (RowAt wr w.heap.size 9 #[.string s]) ∧ Hid (RowAt wr (w.heap.size + 1) 39 #[.int .i64 0, .int .i64 0]) ∧ Hid (Below w.heap.size w wr) ∧ Hid (w.heap.size + 2 ≤ wr.heap.size)) (fun _ av _ => s.size - (intOf av).toNat)
 case atStart => exact ⟨0, [], none, 0, by omega, by simp, rfl, rfl, World.ownsRow_nil _ _ _ _, HR.out, HG0.out, HG1.out, HGB.out, HGS.out⟩
 case round =>
  obtain ⟨i, acc, A, c, hi, hacc, rfl, rfl, HO, HSC, HR0, HR1, HW, HSZ⟩ := hrel
  by_cases hlt : i < s.size
  ·have hb := bt_at hlt
   have hline := (HR0.out.cell 0).trans rfl
   cases hbl : blankB (bt s i)
   ·cases hda : dash s i
    ·cases hin : NM.innr (bt s i)
     ·cases hsg : signB (bt s i)
      ·have HST := zh (scan_bad acc hlt (st_else hbl hda hin hsg))
       have hrt : rightT (Tk.mk (bt s i) (sub s i (i + 1)) (i : Int)) = false := by
           by_cases h97 : bt s i = 97
           ·rw [h97] at hin; cases hin
           ·rw [rightT_sign h97]
            show (signB (bt s i) && _) = false
            rw [hsg]; rfl
       have HRT : Hid (∀ W : World, Calls Tryz.prog 88 #[.agg #[.int .u8 (s[i].toNat : Int), .string (s.extract i (i + 1)), .int .i64 i]] W fun e w' => e = .returned (.bool false) ∧ Below W.heap.size W w') := fun W => by
           have h := lexRight_any (Tk.mk (bt s i) (sub s i (i + 1)) (i : Int)) W (byte_lt s i)
           rw [hrt] at h
           unfold tv at h
           rw [hb] at h
           exact h
       rw [hb] at hbl hin
       have HBL := zh hbl
       have HDA := zh hda
       have HIN := zh hin
       clear hbl hda hin hsg hb hrt
       go_wp2_with (first
           | (go_at_call 86; refine (blank_any _ _).mono ?_; rintro e w' ⟨rfl, rfl⟩; rw [HBL.out])
           | (go_at_call 87; refine (prefix_any s i hlt _).mono ?_; rintro e w' ⟨rfl, rfl⟩; rw [HDA.out])
           | (go_at_call 85; refine (running_any _ _).mono ?_; rintro e w' ⟨rfl, rfl⟩; rw [HIN.out]))
       refine (HRT.out _).mono ?_
       rintro e w1 ⟨rfl, hb1⟩
       have hr9 : RowAt w1 wr.heap.size 78 #[.int .u8 (s[i].toNat : Int), .string (s.extract i (i + 1)), .int .i64 i] := (RowAt.new wr _ _).below hb1 (by simp)
       have HB1 : Hid (Below wr.heap.size wr w1) := ((zB _ _).alloc (zL _) _).trans (hb1.mono (by simp))
       clear hb1
       have hg1 := HR1.out.below HB1.out (by have := HSZ.out; omega)
       have h10 := (hg1.cell 0).trans rfl
       have h11 := (hg1.cell 1).trans rfl
       have f10 := hg1.free 0
       have f11 := hg1.free 1
       have HW1 := zh (HW.out.trans (HB1.out.mono HW.out.size))
       clear hr9 hg1
       go_wp2
       rw [Exit.noGoto_ret]
       have hgf := ((HR1.out.below HB1.out (by have := HSZ.out; omega)).put 0 (.int .i64 1)).put 1 (.int .i64 i)
       obtain rfl : R = .error i := HSC.out.symm.trans HST.out
       exact bodyPost_ret (ret_slot_cell rfl _ _ _ (w.heap.size + 1) _ _ (0, 0) _ rfl rfl hgf Tryz.underlying39 rfl (fault_info _ _)) rfl ⟨(HW1.out.setCell (p := ⟨w.heap.size + 1, 0, none⟩) (by show w.heap.size ≤ w.heap.size + 1; omega) _).setCell (p := ⟨w.heap.size + 1, 1, none⟩) (by show w.heap.size ≤ w.heap.size + 1; omega) _, rfl⟩
      ·have HST := zh (scan_tok acc hlt (st_sign hsg))
       have hrt := right_tok hlt (st_sign hsg)
       have HRT : Hid (∀ W : World, Calls Tryz.prog 88 #[.agg #[.int .u8 (s[i].toNat : Int), .string (s.extract i (i + 1)), .int .i64 i]] W fun e w' => e = .returned (.bool true) ∧ Below W.heap.size W w') := fun W => by
           have h := lexRight_any (Tk.mk (bt s i) (sub s i (i + 1)) (i : Int)) W (byte_lt s i)
           rw [hrt] at h
           unfold tv at h
           rw [hb] at h
           exact h
       rw [hb] at hbl hin HST
       have HBL := zh hbl
       have HDA := zh hda
       have HIN := zh hin
       clear hbl hda hin hsg hb hrt
       go_wp2_with (first
           | (go_at_call 86; refine (blank_any _ _).mono ?_; rintro e w' ⟨rfl, rfl⟩; rw [HBL.out])
           | (go_at_call 87; refine (prefix_any s i hlt _).mono ?_; rintro e w' ⟨rfl, rfl⟩; rw [HDA.out])
           | (go_at_call 85; refine (running_any _ _).mono ?_; rintro e w' ⟨rfl, rfl⟩; rw [HIN.out]))
       refine (HRT.out _).mono ?_
       rintro e w1 ⟨rfl, hb1⟩
       have hr9 : RowAt w1 wr.heap.size 78 #[.int .u8 (s[i].toNat : Int), .string (s.extract i (i + 1)), .int .i64 i] := (RowAt.new wr _ _).below hb1 (by simp)
       have HB1 : Hid (Below wr.heap.size wr w1) := ((zB _ _).alloc (zL _) _).trans (hb1.mono (by simp))
       clear hb1
       have h91 := (hr9.cell 1).trans rfl
       have HR9 := zh hr9; clear hr9
       have hez := sub_size (s := s) (i := i) (e := (i + 1)) (by omega) (by omega)
       have HCL := zh (fun W => clone_any (s.extract i (i + 1)) W (by rw [show (s.extract i (i + 1)).size = (i + 1) - i from hez]; omega))
       clear hez
       go_wp2_with fail
       refine (HCL.out _).mono ?_
       rintro e w2 ⟨rfl, hb2⟩
       have hr9 := HR9.out.below hb2 HR9.out.lt
       have HB2 := zh (HB1.out.trans (hb2.mono HB1.out.size)); clear hb2
       have h90 := (hr9.cell 0).trans rfl
       have h91 := (hr9.cell 1).trans rfl
       have h92 := (hr9.cell 2).trans rfl
       have f91 := hr9.free 1
       clear hr9
       have HB3 := zh (HB2.out.setCell (p := ⟨wr.heap.size, 1, none⟩) (zL _) (.string (s.extract i (i + 1))))
       have hown3 := own_below HO.out HB3.out (zL _)
       have HO3 := zh hown3; clear hown3
       have HG03 := zh (HR0.out.below HB3.out (by have := HSZ.out; omega))
       have HG13 := zh (HR1.out.below HB3.out (by have := HSZ.out; omega))
       have HW3 := zh (HW.out.trans (HB3.out.mono HW.out.size))
       have hz3 : w.heap.size + 2 ≤ (w2.setCell ⟨wr.heap.size, 1, none⟩ (.string (s.extract i (i + 1)))).heap.size := by have h1 := HSZ.out; have h2 := HB3.out.size; omega
       have hgz : (w2.setCell ⟨wr.heap.size, 1, none⟩ (.string (s.extract i (i + 1)))).heap.size = w2.heap.size := by simp [World.setCell]
       have hnew := RowAt.new (w2.setCell ⟨wr.heap.size, 1, none⟩ (.string (s.extract i (i + 1)))) 78 #[.int .u8 (s[i].toNat : Int), .string (s.extract i (i + 1)), .int .i64 i]
       rw [hgz] at hnew hz3
       have HNEW := zh hnew
       have HGZ := zh hgz
       clear hnew hgz
       go_wp2_with (at_builtin; refine wpList_more _ rfl _ _ 37 rfl 78 (.agg #[.int .u8 0, .string ⟨#[]⟩, .int .i64 0]) 3 32 Tryz.underlying37 infoTok rfl (by decide) (by decide) (w.heap.size + 2) A acc.length c (tkcells acc) rfl (own_below HO3.out ((zB _ _).alloc (zL _) _) (zL _)) w2.heap.size 1 1 [.int .u8 (s[i].toNat : Int), .string (s.extract i (i + 1)), .int .i64 i] rfl rfl (by decide) ?c0 ?c1 ?c2 ?c3 ?_)
       case c0 => exact fun j u hj => (HNEW.out.cell j).trans (by simpa using hj)
       case c1 => simp [Value.oneCell']
       case c2 => omega
       case c3 => rw [World.size_alloc, HGZ.out]; omega
       intro A' c' w4 hown4 hb4 _
       have HO4 : Hid (w4.ownsRow (w.heap.size + 2) 78 3 (.slice A' (acc ++ [Tk.mk s[i].toNat (sub s i ((i + 1))) (i : Int)]).length c') (acc ++ [Tk.mk s[i].toNat (sub s i ((i + 1))) (i : Int)]).length (tkcells (acc ++ [Tk.mk s[i].toNat (sub s i ((i + 1))) (i : Int)]))) := by
           rw [tkcells_append, tkcells_one, zA7]
           exact hown4
       have HB4 : Hid (Below (w.heap.size + 2) (w2.setCell ⟨wr.heap.size, 1, none⟩ (.string (s.extract i (i + 1)))) w4) := ((zB _ _).alloc (by rw [HGZ.out]; omega) _).trans hb4
       have HG04 := zh (HG03.out.below HB4.out (by omega))
       have HG14 := zh (HG13.out.below HB4.out (by omega))
       have HW4 := zh (HW3.out.trans (HB4.out.mono (by omega)))
       have HZ4 : Hid (w.heap.size + 2 ≤ w4.heap.size) := by
           show w.heap.size + 2 ≤ w4.heap.size
           have := HB4.out.size
           rw [HGZ.out] at this
           omega
       clear hown4 hb4 hz3
       go_wp2
       go_roundw
       case rel => exact ⟨(i + 1), acc ++ [Tk.mk s[i].toNat (sub s i ((i + 1))) (i : Int)], A', c', by omega, by rw [zA7, List.length_singleton]; omega, by rw [zA7, List.length_singleton], by go_num, HO4, by rw [← HST.out]; exact HSC, HG04, HG14, HW4, HZ4⟩
       case measure => simp [intOf]; omega
     ·cases hri : NM.right (sub s i (runE s i))
      ·have HST := zh (scan_bad acc hlt (st_wrong hin hri))
       have hge := runE_gt hlt hin
       rw [hb] at hbl hin
       have HRT : Hid (∀ W : World, Calls Tryz.prog 88 #[.agg #[.int .u8 97, .string (s.extract i (runE s i)), .int .i64 i]] W fun e w' => e = .returned (.bool false) ∧ Below W.heap.size W w') := fun W => by
           have h := lexRight_word (s.extract i (runE s i)) i W
           rw [show NM.right (s.extract i (runE s i)) = false from hri] at h
           exact h
       have HBL := zh hbl
       have HDA := zh hda
       have HIN := zh hin
       clear hbl hda hin hri hb
       have hle := runE_le hi
       have HRE := zh (runEnd_any s w.heap.size wr hline i hi (by omega))
       generalize runE s i = en at *
       go_wp2_with (first
           | (go_at_call 86; refine (blank_any _ _).mono ?_; rintro e w' ⟨rfl, rfl⟩; rw [HBL.out])
           | (go_at_call 87; refine (prefix_any s i hlt _).mono ?_; rintro e w' ⟨rfl, rfl⟩; rw [HDA.out])
           | (go_at_call 85; refine (running_any _ _).mono ?_; rintro e w' ⟨rfl, rfl⟩; rw [HIN.out])
           | (go_at_call 84; refine HRE.out.mono ?_; rintro e w' ⟨rfl, rfl⟩))
       refine (HRT.out _).mono ?_
       rintro e w1 ⟨rfl, hb1⟩
       have hr9 : RowAt w1 wr.heap.size 78 #[.int .u8 97, .string (s.extract i en), .int .i64 i] := (RowAt.new wr _ _).below hb1 (by simp)
       have HB1 : Hid (Below wr.heap.size wr w1) := ((zB _ _).alloc (zL _) _).trans (hb1.mono (by simp))
       clear hb1
       have hg1 := HR1.out.below HB1.out (by have := HSZ.out; omega)
       have h10 := (hg1.cell 0).trans rfl
       have h11 := (hg1.cell 1).trans rfl
       have f10 := hg1.free 0
       have f11 := hg1.free 1
       have HW1 := zh (HW.out.trans (HB1.out.mono HW.out.size))
       clear hr9 hg1
       go_wp2
       rw [Exit.noGoto_ret]
       have hgf := ((HR1.out.below HB1.out (by have := HSZ.out; omega)).put 0 (.int .i64 1)).put 1 (.int .i64 i)
       obtain rfl : R = .error i := HSC.out.symm.trans HST.out
       exact bodyPost_ret (ret_slot_cell rfl _ _ _ (w.heap.size + 1) _ _ (0, 0) _ rfl rfl hgf Tryz.underlying39 rfl (fault_info _ _)) rfl ⟨(HW1.out.setCell (p := ⟨w.heap.size + 1, 0, none⟩) (by show w.heap.size ≤ w.heap.size + 1; omega) _).setCell (p := ⟨w.heap.size + 1, 1, none⟩) (by show w.heap.size ≤ w.heap.size + 1; omega) _, rfl⟩
      ·have HST := zh (scan_tok acc hlt (st_word hin hri))
       have hge := runE_gt hlt hin
       rw [hb] at hbl hin
       have HRT : Hid (∀ W : World, Calls Tryz.prog 88 #[.agg #[.int .u8 97, .string (s.extract i (runE s i)), .int .i64 i]] W fun e w' => e = .returned (.bool true) ∧ Below W.heap.size W w') := fun W => by
           have h := lexRight_word (s.extract i (runE s i)) i W
           rw [show NM.right (s.extract i (runE s i)) = true from hri] at h
           exact h
       have HBL := zh hbl
       have HDA := zh hda
       have HIN := zh hin
       clear hbl hda hin hri hb
       have hle := runE_le hi
       have HRE := zh (runEnd_any s w.heap.size wr hline i hi (by omega))
       generalize runE s i = en at *
       go_wp2_with (first
           | (go_at_call 86; refine (blank_any _ _).mono ?_; rintro e w' ⟨rfl, rfl⟩; rw [HBL.out])
           | (go_at_call 87; refine (prefix_any s i hlt _).mono ?_; rintro e w' ⟨rfl, rfl⟩; rw [HDA.out])
           | (go_at_call 85; refine (running_any _ _).mono ?_; rintro e w' ⟨rfl, rfl⟩; rw [HIN.out])
           | (go_at_call 84; refine HRE.out.mono ?_; rintro e w' ⟨rfl, rfl⟩))
       refine (HRT.out _).mono ?_
       rintro e w1 ⟨rfl, hb1⟩
       have hr9 : RowAt w1 wr.heap.size 78 #[.int .u8 97, .string (s.extract i en), .int .i64 i] := (RowAt.new wr _ _).below hb1 (by simp)
       have HB1 : Hid (Below wr.heap.size wr w1) := ((zB _ _).alloc (zL _) _).trans (hb1.mono (by simp))
       clear hb1
       have h91 := (hr9.cell 1).trans rfl
       have HR9 := zh hr9; clear hr9
       have hez := sub_size (s := s) (i := i) (e := en) (by omega) (by omega)
       have HCL := zh (fun W => clone_any (s.extract i en) W (by rw [show (s.extract i en).size = en - i from hez]; omega))
       clear hez
       go_wp2_with fail
       refine (HCL.out _).mono ?_
       rintro e w2 ⟨rfl, hb2⟩
       have hr9 := HR9.out.below hb2 HR9.out.lt
       have HB2 := zh (HB1.out.trans (hb2.mono HB1.out.size)); clear hb2
       have h90 := (hr9.cell 0).trans rfl
       have h91 := (hr9.cell 1).trans rfl
       have h92 := (hr9.cell 2).trans rfl
       have f91 := hr9.free 1
       clear hr9
       have HB3 := zh (HB2.out.setCell (p := ⟨wr.heap.size, 1, none⟩) (zL _) (.string (s.extract i en)))
       have hown3 := own_below HO.out HB3.out (zL _)
       have HO3 := zh hown3; clear hown3
       have HG03 := zh (HR0.out.below HB3.out (by have := HSZ.out; omega))
       have HG13 := zh (HR1.out.below HB3.out (by have := HSZ.out; omega))
       have HW3 := zh (HW.out.trans (HB3.out.mono HW.out.size))
       have hz3 : w.heap.size + 2 ≤ (w2.setCell ⟨wr.heap.size, 1, none⟩ (.string (s.extract i en))).heap.size := by have h1 := HSZ.out; have h2 := HB3.out.size; omega
       have hgz : (w2.setCell ⟨wr.heap.size, 1, none⟩ (.string (s.extract i en))).heap.size = w2.heap.size := by simp [World.setCell]
       have hnew := RowAt.new (w2.setCell ⟨wr.heap.size, 1, none⟩ (.string (s.extract i en))) 78 #[.int .u8 97, .string (s.extract i en), .int .i64 i]
       rw [hgz] at hnew hz3
       have HNEW := zh hnew
       have HGZ := zh hgz
       clear hnew hgz
       go_wp2_with (at_builtin; refine wpList_more _ rfl _ _ 37 rfl 78 (.agg #[.int .u8 0, .string ⟨#[]⟩, .int .i64 0]) 3 32 Tryz.underlying37 infoTok rfl (by decide) (by decide) (w.heap.size + 2) A acc.length c (tkcells acc) rfl (own_below HO3.out ((zB _ _).alloc (zL _) _) (zL _)) w2.heap.size 1 1 [.int .u8 97, .string (s.extract i en), .int .i64 i] rfl rfl (by decide) ?c0 ?c1 ?c2 ?c3 ?_)
       case c0 => exact fun j u hj => (HNEW.out.cell j).trans (by simpa using hj)
       case c1 => simp [Value.oneCell']
       case c2 => omega
       case c3 => rw [World.size_alloc, HGZ.out]; omega
       intro A' c' w4 hown4 hb4 _
       have HO4 : Hid (w4.ownsRow (w.heap.size + 2) 78 3 (.slice A' (acc ++ [Tk.mk 97 (sub s i (en)) (i : Int)]).length c') (acc ++ [Tk.mk 97 (sub s i (en)) (i : Int)]).length (tkcells (acc ++ [Tk.mk 97 (sub s i (en)) (i : Int)]))) := by
           rw [tkcells_append, tkcells_one, zA7]
           exact hown4
       have HB4 : Hid (Below (w.heap.size + 2) (w2.setCell ⟨wr.heap.size, 1, none⟩ (.string (s.extract i en))) w4) := ((zB _ _).alloc (by rw [HGZ.out]; omega) _).trans hb4
       have HG04 := zh (HG03.out.below HB4.out (by omega))
       have HG14 := zh (HG13.out.below HB4.out (by omega))
       have HW4 := zh (HW3.out.trans (HB4.out.mono (by omega)))
       have HZ4 : Hid (w.heap.size + 2 ≤ w4.heap.size) := by
           show w.heap.size + 2 ≤ w4.heap.size
           have := HB4.out.size
           rw [HGZ.out] at this
           omega
       clear hown4 hb4 hz3
       go_wp2
       go_roundw
       case rel => exact ⟨en, acc ++ [Tk.mk 97 (sub s i (en)) (i : Int)], A', c', by omega, by rw [zA7, List.length_singleton]; omega, by rw [zA7, List.length_singleton], by go_num, HO4, by rw [← HST.out]; exact HSC, HG04, HG14, HW4, HZ4⟩
       case measure => simp [intOf]; omega
    ·have HST := zh (scan_stop acc hlt (st_stop hda))
     rw [hb] at hbl
     have HBL := zh hbl
     have HDA := zh hda
     clear hbl hda hb
     have h10 := (HR1.out.cell 0).trans rfl
     have h11 := (HR1.out.cell 1).trans rfl
     have f10 := HR1.out.free 0
     have f11 := HR1.out.free 1
     go_wp2_with (first
      | (go_at_call 86; refine (blank_any _ _).mono ?_; rintro e w' ⟨rfl, rfl⟩; rw [HBL.out])
      | (go_at_call 87; refine (prefix_any s i hlt _).mono ?_; rintro e w' ⟨rfl, rfl⟩; rw [HDA.out]))
     rw [Exit.noGoto_ret]
     have hgf := (HR1.out.put 0 (.int .i64 0)).put 1 (.int .i64 0)
     obtain rfl : R = .ok acc := HSC.out.symm.trans HST.out
     have hown := own_cell (own_cell HO.out (p := ⟨w.heap.size + 1, 0, none⟩) (by show w.heap.size + 1 < w.heap.size + 2; omega) (.int .i64 0)) (p := ⟨w.heap.size + 1, 1, none⟩) (by show w.heap.size + 1 < w.heap.size + 2; omega) (.int .i64 0)
     exact bodyPost_ret (ret_slot_cell rfl _ _ _ (w.heap.size + 1) _ _ (0, 0) _ rfl rfl hgf Tryz.underlying39 rfl (fault_info _ _)) rfl ⟨(HW.out.setCell (p := ⟨w.heap.size + 1, 0, none⟩) (by show w.heap.size ≤ w.heap.size + 1; omega) _).setCell (p := ⟨w.heap.size + 1, 1, none⟩) (by show w.heap.size ≤ w.heap.size + 1; omega) _, A, c, rfl, own_mono hown (by omega)⟩
   ·have HST := zh (scan_skip acc hlt (st_skip hbl))
    rw [hb] at hbl
    have HBL := zh hbl
    clear hbl hb
    go_wp2_with (first
     | (go_at_call 86; refine (blank_any _ _).mono ?_; rintro e w' ⟨rfl, rfl⟩; rw [HBL.out]))
    go_roundw
    case rel => exact ⟨i + 1, acc, A, c, by omega, by omega, rfl, by go_num, HO, by rw [← HST.out]; exact HSC, HR0, HR1, HW, HSZ⟩
    case measure => simp [intOf]; omega
  ·have HST := zh (scan_end acc hlt)
   have h10 := (HR1.out.cell 0).trans rfl
   have h11 := (HR1.out.cell 1).trans rfl
   have f10 := HR1.out.free 0
   have f11 := HR1.out.free 1
   have hline := (HR0.out.cell 0).trans rfl
   obtain rfl : i = s.size := by omega
   go_wp2
   rw [Exit.noGoto_ret]
   have hgf := (HR1.out.put 0 (.int .i64 0)).put 1 (.int .i64 0)
   obtain rfl : R = .ok acc := HSC.out.symm.trans HST.out
   have hown := own_cell (own_cell HO.out (p := ⟨w.heap.size + 1, 0, none⟩) (by show w.heap.size + 1 < w.heap.size + 2; omega) (.int .i64 0)) (p := ⟨w.heap.size + 1, 1, none⟩) (by show w.heap.size + 1 < w.heap.size + 2; omega) (.int .i64 0)
   exact bodyPost_ret (ret_slot_cell rfl _ _ _ (w.heap.size + 1) _ _ (0, 0) _ rfl rfl hgf Tryz.underlying39 rfl (fault_info _ _)) rfl ⟨(HW.out.setCell (p := ⟨w.heap.size + 1, 0, none⟩) (by show w.heap.size ≤ w.heap.size + 1; omega) _).setCell (p := ⟨w.heap.size + 1, 1, none⟩) (by show w.heap.size ≤ w.heap.size + 1; omega) _, A, c, rfl, own_mono hown (by omega)⟩
end
section
open Go.RowKit LX
end
end Go.Proofs.YtmffnkfohmbbeaaGreatDoor
