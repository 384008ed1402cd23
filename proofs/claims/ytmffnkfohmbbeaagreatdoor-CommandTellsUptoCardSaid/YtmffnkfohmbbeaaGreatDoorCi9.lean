/- Texts that all the claims need. Conditions: those that each states. -/
import Derived.Lib.BufferKept
import Derived.Test.YtmffnkfohmbbeaaGreatDoorCi5
import Derived.Test.YtmffnkfohmbbeaaGreatDoorCi8
set_option linter.unusedSimpArgs false
set_option linter.unusedVariables false
set_option maxRecDepth 100000
set_option maxHeartbeats 40000000
namespace Go.Proofs.YtmffnkfohmbbeaaGreatDoor
section
namespace TM
open LX TR
def jt : List (List UInt8) → List UInt8
 | [] => []
 | x :: r => 44 :: (x ++ jt r)
def jc : List (List UInt8) → List UInt8
 | [] => []
 | x :: r => x ++ jt r
theorem jt_append (a b : List (List UInt8)) : jt (a ++ b) = jt a ++ jt b := by
 induction a with
 | nil => rfl
 | cons x a ih => simp [jt, ih]
theorem jc_take {l : List (List UInt8)} {i : Nat} (h : i < l.length) : jc (l.take (i + 1)) = jc (l.take i) ++ (if 0 < i then 44 :: l.getD i [] else l.getD i []) := by
 cases l with
 | nil => simp at h
 | cons x r =>
   cases i with
   | zero => simp [jc, jt]
   | succ i =>
     have hi : i < r.length := by simpa using h
     rw [if_pos (Nat.succ_pos i), List.take_succ_cons, List.take_succ_cons, jc, jc]
     have h2 : r.take (i + 1) = r.take i ++ [r.getD i []] := by
        rw [List.getD_eq_getElem?_getD, List.getElem?_eq_getElem hi, Option.getD_some]
        exact List.take_succ_eq_append_getElem hi
     rw [h2, jt_append]
     simp [jt]
theorem jc_le (l : List (List UInt8)) (i : Nat) : (jc (l.take i)).length ≤ (jc l).length := by
 have ht : ∀ (r : List (List UInt8)) (i : Nat), (jt (r.take i)).length ≤ (jt r).length := fun r i => by
  have h := congrArg List.length (jt_append (r.take i) (r.drop i))
  rw [List.take_append_drop, zA7] at h
  omega
 cases l with
 | nil => simp [jc]
 | cons x r =>
   cases i with
   | zero => simp [jc]
   | succ i =>
     rw [List.take_succ_cons, jc, jc, zA7, zA7]
     have := ht r i
     omega
def tx1 (k : Int) (s : List UInt8) (ws ks : List (List UInt8)) : List UInt8 :=
 if k = 1 ∨ k = 2 then s
 else if k = 7 then 35 :: ks.headD []
 else if k = 11 then s ++ 61 :: ks.headD []
 else if k = 4 then 40 :: (jc ks ++ [41])
 else if k = 8 then 43 :: 40 :: (jc ks ++ [41])
 else if k = 9 then 38 :: 40 :: (jc ks ++ [41])
 else if k = 5 then 91 :: (jc ks ++ [93])
 else if k = 3 then 123 :: (jc ws ++ [125])
 else if k = 6 then s ++ 58 :: 123 :: (jc ws ++ [125])
 else if k = 10 then 91 :: (jc ks ++ (if ws = [] then [93] else 124 :: (jc ws ++ [93])))
 else []
def wtx (ws : List Wd) : List (List UInt8) := ws.map fun x => lst x.s
def txs : List Nd → List (List UInt8)
 | [] => []
 | .mk k _ s _ _ ws _ _ ks :: r => tx1 k (lst s) (wtx ws) (txs ks) :: txs r
def tx (x : Nd) : List UInt8 := tx1 x.k (lst x.s) (wtx x.ws) (txs x.ks)
theorem txs_cons (x : Nd) (r : List Nd) : txs (x :: r) = tx x :: txs r := by cases x; rw [txs]; rfl
theorem txs_map (l : List Nd) : txs l = l.map tx := by
 induction l with
 | nil => simp [txs]
 | cons x r ih => rw [txs_cons, ih]; rfl
theorem txs_length (l : List Nd) : (txs l).length = l.length := by rw [txs_map, List.length_map]
def cnt : List Nd → Nat
 | [] => 0
 | .mk _ _ _ _ _ ws _ _ ks :: r => 1 + ws.length + cnt ks + cnt r
theorem cnt_cons (x : Nd) (r : List Nd) : cnt (x :: r) = 1 + x.ws.length + cnt x.ks + cnt r := by cases x; rw [cnt]; rfl
theorem cnt_append (a b : List Nd) : cnt (a ++ b) = cnt a + cnt b := by
 induction a with
 | nil => simp [cnt]
 | cons x a ih => rw [List.cons_append, cnt_cons, cnt_cons, ih]; omega
theorem cnt_mem {l : List Nd} {x : Nd} (h : x ∈ l) : 1 + x.ws.length + cnt x.ks ≤ cnt l := by
 induction l with
 | nil => cases h
 | cons y l ih =>
   rw [cnt_cons]
   rcases List.mem_cons.1 h with rfl | h
   ·omega
   ·have := ih h; omega
theorem length_cnt (l : List Nd) : l.length ≤ cnt l := by
 induction l with
 | nil => simp
 | cons x l ih => rw [cnt_cons, zA8]; omega
theorem cnt_er : ∀ l, cnt (TM.er l) = cnt l := by
 refine ind (by simp [TM.er]) fun k p s A c ws B d ks r h1 h2 => ?_
 rw [TM.er_cons, cnt_cons, cnt_cons, h2]
 show 1 + ws.length + cnt (TM.er ks) + _ = _
 rw [h1]; rfl
end TM
open Go.RowKit LX TR TM
abbrev Bld (w : World) (B b : Nat) (t : List UInt8) : Prop := Lib.IsBuilder 52 5 B b (Lib.byteCells t) w
def Writes (F : FuncId) (v : Value) (t : List UInt8) (K : World → Nat → Prop) : Prop :=
 ∀ (w : World) (B b : Nat) (acc : List UInt8), Bld w B b acc → B ≤ w.heap.size → acc.length + t.length ≤ 140737488355328 → K w B →
   Calls Tryz.prog F #[.pointer (some ⟨b, 0, none⟩), v] w fun e w' => e = .returned (.tuple #[]) ∧ Bld w' B b (acc ++ t) ∧ Below B w w' ∧ Lib.OthersKept 5 (some b) w w'
theorem wstr_any {w : World} {B b : Nat} {acc : List UInt8} (s : ByteArray) (h : Bld w B b acc) (hB : B ≤ w.heap.size) (hl : acc.length + s.size ≤ 140737488355328) :
 Calls Tryz.prog 20 #[.pointer (some ⟨b, 0, none⟩), .string s] w fun e w' => e = .returned (.tuple #[.int .i64 s.size, .nilIface]) ∧ Bld w' B b (acc ++ lst s) ∧ Below B w w' ∧ Lib.OthersKept 5 (some b) w w' :=
 (writeString_any B b _ s w h (by rw [Lib.byteCells_length]; exact hl) hB).mono fun e w' ⟨h1, h2, h3, h4⟩ => ⟨h1, by show Lib.IsBuilder _ _ _ _ (Lib.byteCells (acc ++ lst s)) _; rw [← str_cells]; exact .inr h2, h3, h4⟩
theorem wbyte_any {w : World} {B b : Nat} {acc : List UInt8} (c : UInt8) (h : Bld w B b acc) (hB : B ≤ w.heap.size) (hl : acc.length + 1 ≤ 140737488355328) :
 Calls Tryz.prog 22 #[.pointer (some ⟨b, 0, none⟩), .int .u8 (c.toNat : Int)] w fun e w' => e = .returned .nilIface ∧ Bld w' B b (acc ++ [c]) ∧ Below B w w' ∧ Lib.OthersKept 5 (some b) w w' :=
 (writeByte_any B b _ _ w h (by rw [Lib.byteCells_length]; exact hl) hB).mono fun e w' ⟨h1, h2, h3, h4⟩ => ⟨h1, by show Lib.IsBuilder _ _ _ _ (Lib.byteCells (acc ++ [c])) _; rw [← byte_cells]; exact .inr h2, h3, h4⟩
theorem writeName_any (x : Wd) (K : World → Nat → Prop) : Writes 101 (.agg (wv x)) (lst x.s) K := by
 intro w B b acc h hB hl _
 have hb := bld_lt h
 have HB1 := zh (bld_below h ((zB _ _).alloc (zL _) (.cells (wv x) 23)))
 have HL : Hid (acc.length + x.s.size ≤ 140737488355328) := by rw [← lst_length]; exact zh hl
 have hn := RowAt.new w 23 #[.string x.s, .int .i64 x.p]
 obtain ⟨m0, m1, _, _⟩ := row2 hn
 clear h hn
 unfold wv at HB1 ⊢
 go_enter Tryz.func101, Tryz.ntmps101
 go_wp2_with fail
 refine (wstr_any x.s HB1.out (by simp; omega) HL.out).mono ?_
 rintro e w1 ⟨rfl, h1, h2, h3⟩
 have H1 := zh h1
 have H2 : Hid (Below B w w1) := ((zB B w).alloc hB _).trans h2
 have H3 : Hid (Lib.OthersKept 5 (some b) w w1) := ((Lib.OthersKept.refl _ _ w).alloc _).trans h3
 clear h1 h2 h3
 go_wp2_with fail
 go_end0
 exact ⟨rfl, H1.out, H2.out, H3.out⟩
end
section
open Go.RowKit LX TR TM
theorem wlistW_any {F : FuncId} {f : Wd → List UInt8} {KK : World → Nat → Prop} (hf : ∀ args w, (callFunc F args).run Tryz.prog w = .ok (.enter F args) w) (A : Option Addr) (c : Nat) (zs : List Wd) (hn : zs.length ≤ 1099511627776)
 (HF : ∀ z ∈ zs, Writes F (.agg (wv z)) (f z) KK) (hKK : ∀ wa wb B, KK wa B → Below B wa wb → KK wb B) (before after : ByteArray)
 (w : World) (B b : Nat) (acc : List UInt8) (h : Bld w B b acc) (hB : B ≤ w.heap.size) (hl : acc.length + (lst before ++ (jc (zs.map f) ++ lst after)).length ≤ 140737488355328) (hk : KK w B) (hA : Sl w B A (wcs zs)) :
 Calls Tryz.prog 100 #[.pointer (some ⟨b, 0, none⟩), .string before, .slice A zs.length c, .func (.func F) #[] #[], .string after] w fun e w' => e = .returned (.tuple #[]) ∧ Bld w' B b (acc ++ (lst before ++ (jc (zs.map f) ++ lst after))) ∧ Below B w w' ∧ Lib.OthersKept 5 (some b) w w' := by
 rw [zA7, zA7, lst_length, lst_length] at hl
 have HC0 := zh (wstr_any before h hB (by omega))
 have HA := zh hA; clear hA
 have HKW := zh hk; clear hk
 have HKK := zh hKK; clear hKK
 have HFF : Hid (∀ i, i < zs.length → Writes F (.agg (wv (zs.getD i w0))) (f (zs.getD i w0)) KK) := fun i hi => HF _ (by
  rw [List.getD_eq_getElem?_getD, List.getElem?_eq_getElem hi]
  exact List.getElem_mem hi)
 clear HF
 have HTK : Hid (∀ i, i < zs.length → jc ((zs.map f).take (i + 1)) = jc ((zs.map f).take i) ++ (if 0 < i then 44 :: f (zs.getD i w0) else f (zs.getD i w0))) := fun i hi => by
  have h1 := jc_take (l := zs.map f) (i := i) (by simpa using hi)
  rw [show (zs.map f).getD i [] = f (zs.getD i w0) by
   rw [List.getD_eq_getElem?_getD, List.getD_eq_getElem?_getD, List.getElem?_map, List.getElem?_eq_getElem hi]; rfl] at h1
  exact h1
 have HLE : Hid (∀ i, (jc ((zs.map f).take i)).length ≤ (jc (zs.map f)).length) := jc_le _
 have HEN : Hid (jc ((zs.map f).take zs.length) = jc (zs.map f)) := by
  show jc _ = _
  rw [List.take_of_length_le (by simp)]
 have HJ0 : Hid (jc ((zs.map f).take 0) = []) := by rw [List.take_zero]; exact zh rfl
 have hb := bld_lt h
 generalize hJ : jc (zs.map f) = J at *
 clear hJ h
 generalize hm : zs.length = n at *
 have HN := zh hm; clear hm
 go_enter Tryz.func100, Tryz.ntmps100
 go_wp2_with fail
 refine HC0.out.mono ?_
 rintro e w1 ⟨rfl, h1, h2, h3⟩
 have H1 : Hid (Bld w1 B b (acc ++ (lst before ++ jc ((zs.map f).take 0)))) := by rw [HJ0.out, List.append_nil]; exact zh h1
 have H2 := zh h2
 have H3 := zh h3
 clear h1 h2 h3 HC0
 go_wp2_with fail
 go_loopw [17] (fun iv wr => ∃ i : Nat, i ≤ n ∧ iv = .int .i64 i ∧ Hid (Bld wr B b (acc ++ (lst before ++ jc ((zs.map f).take i)))) ∧ Hid (Below B w wr) ∧ Hid (Lib.OthersKept 5 (some b) w wr)) (fun iv _ => n - (intOf iv).toNat)
 case atStart => exact ⟨0, by omega, rfl, H1.out, H2.out, H3.out⟩
 case round =>
  obtain ⟨i, hi, rfl, HBU, HW, HO⟩ := hrel
  have hBr : B ≤ wr.heap.size := zM hB HW.out.size
  by_cases hlt : i < n
  ·obtain ⟨bb, o, rfl, hbb, hc⟩ := sl_at (z := w0) wcells_length (HA.out.below HW.out) (k := i) (by rw [HN.out]; exact hlt) (by omega)
   have q0 := hc i 0 _ (by rw [HN.out]; exact hlt) (by omega) rfl
   have q1 := hc i 1 _ (by rw [HN.out]; exact hlt) (by omega) rfl
   rw [Nat.add_zero] at q0
   rw [← Nat.add_assoc] at q1
   have HT := zh (HTK.out i hlt)
   have HLN : Hid (acc.length + (before.size + (jc ((zs.map f).take (i + 1))).length) ≤ 140737488355328) := by
        have h1 := HLE.out (i + 1)
        show _ ≤ _
        omega
   have HFI := zh (HFF.out i hlt)
   generalize zs.getD i w0 = z at *
   have hrow := RowAt.new wr 23 (wv z)
   have HROW := zh hrow
   have hb2 := bld_lt HBU.out
   have HB2 := zh (bld_below HBU.out ((zB _ wr).alloc (zL _) (.cells (wv z) 23)))
   have HW2 := zh (HW.out.alloc hBr (.cells (wv z) 23))
   have HO2 := zh (HO.out.alloc (.cells (wv z) 23))
   clear hc hrow
   obtain ⟨s9, p9⟩ := z
   by_cases h0 : 0 < i
   ·rw [if_pos h0] at HT
    have HL1 : Hid ((acc ++ (lst before ++ jc ((zs.map f).take i))).length + 1 ≤ 140737488355328) := by
     have h1 := HLN.out
     rw [HT.out] at h1
     simp only [zA7, zA8, lst_length] at h1 ⊢
     show _ ≤ _
     omega
    have HC1 := zh (wbyte_any 44 HB2.out (by simp; omega) HL1.out)
    go_wp2_with fail
    refine HC1.out.mono ?_
    rintro e w3 ⟨rfl, k1, k2, k3⟩
    have HR3 := zh (others_row k3 HROW.out (by omega) (by decide))
    have HK1 := zh k1
    have HW3 := zh (HW2.out.trans k2)
    have HO3 := zh (HO2.out.trans k3)
    obtain ⟨m0, m1, _, _⟩ := row2 HR3.out
    clear k1 k2 k3 HC1
    have HCF := zh (HFI.out w3 B b _ HK1.out (zM hB HW3.out.size) (by
     have h1 := HLN.out
     rw [HT.out] at h1
     simp only [zA7, zA8, zA9, lst_length] at h1 ⊢
     omega) (HKK.out _ _ _ HKW.out HW3.out))
    skip
    go_wp2_with fail
    refine HCF.out.mono ?_
    rintro e w4 ⟨rfl, k1, k2, k3⟩
    have HN4 : Hid (Bld w4 B b (acc ++ (lst before ++ jc ((zs.map f).take (i + 1))))) := by
     rw [HT.out]
     have e1 : acc ++ (lst before ++ (jc ((zs.map f).take i) ++ 44 :: f ⟨s9, p9⟩)) = ((acc ++ (lst before ++ jc ((zs.map f).take i))) ++ [44]) ++ f ⟨s9, p9⟩ := by simp
     rw [e1]; exact zh k1
    have HW4 := zh (HW3.out.trans k2)
    have HO4 := zh (HO3.out.trans k3)
    clear k1 k2 k3 HCF
    go_wp2
    go_roundw
    case rel => exact ⟨i + 1, by omega, by go_num, HN4, HW4, HO4⟩
    case measure => simp [intOf]; omega
   ·rw [if_neg h0] at HT
    obtain rfl : i = 0 := by omega
    simp only [Nat.zero_mul, Nat.add_zero] at q0 q1
    have HCF := zh (HFI.out _ B b _ HB2.out (by simp; omega) (by
     have h1 := HLN.out
     rw [HT.out] at h1
     simp only [zA7, lst_length] at h1 ⊢
     omega) (HKK.out _ _ _ HKW.out HW2.out))
    obtain ⟨m0, m1, _, _⟩ := row2 HROW.out
    skip
    go_wp2_with fail
    refine HCF.out.mono ?_
    rintro e w4 ⟨rfl, k1, k2, k3⟩
    have HN4 : Hid (Bld w4 B b (acc ++ (lst before ++ jc ((zs.map f).take (0 + 1))))) := by
     rw [HT.out]
     have e1 : acc ++ (lst before ++ (jc ((zs.map f).take 0) ++ f ⟨s9, p9⟩)) = (acc ++ (lst before ++ jc ((zs.map f).take 0))) ++ f ⟨s9, p9⟩ := by simp
     rw [e1]; exact zh k1
    have HW4 := zh (HW2.out.trans k2)
    have HO4 := zh (HO2.out.trans k3)
    clear k1 k2 k3 HCF
    go_wp2
    go_roundw
    case rel => exact ⟨1, by omega, rfl, HN4, HW4, HO4⟩
    case measure => simp [intOf]; omega
  ·obtain rfl : i = n := by omega
   rw [HEN.out] at HBU
   have HC9 := zh (wstr_any after HBU.out hBr (by
        simp only [zA7, lst_length]
        omega))
   go_wp2_with fail
   refine HC9.out.mono ?_
   rintro e w4 ⟨rfl, k1, k2, k3⟩
   have HN4 : Hid (Bld w4 B b (acc ++ (lst before ++ (J ++ lst after)))) := by
        have e1 : acc ++ (lst before ++ (J ++ lst after)) = (acc ++ (lst before ++ J)) ++ lst after := by simp
        rw [e1]; exact zh k1
   have HW4 := zh (HW.out.trans k2)
   have HO4 := zh (HO.out.trans k3)
   clear k1 k2 k3 HC9
   go_wp2_with fail
   go_end0
   exact ⟨rfl, HN4.out, HW4.out, HO4.out⟩
theorem wlistN_any {F : FuncId} {f : Nd → List UInt8} {KK : World → Nat → Prop} (hf : ∀ args w, (callFunc F args).run Tryz.prog w = .ok (.enter F args) w) (A : Option Addr) (c : Nat) (zs : List Nd) (hn : zs.length ≤ 1099511627776)
 (HF : ∀ z ∈ zs, Writes F (.agg (nv z)) (f z) KK) (hKK : ∀ wa wb B, KK wa B → Below B wa wb → KK wb B) (before after : ByteArray)
 (w : World) (B b : Nat) (acc : List UInt8) (h : Bld w B b acc) (hB : B ≤ w.heap.size) (hl : acc.length + (lst before ++ (jc (zs.map f) ++ lst after)).length ≤ 140737488355328) (hk : KK w B) (hA : Sl w B A (ncs zs)) :
 Calls Tryz.prog 99 #[.pointer (some ⟨b, 0, none⟩), .string before, .slice A zs.length c, .func (.func F) #[] #[], .string after] w fun e w' => e = .returned (.tuple #[]) ∧ Bld w' B b (acc ++ (lst before ++ (jc (zs.map f) ++ lst after))) ∧ Below B w w' ∧ Lib.OthersKept 5 (some b) w w' := by
 rw [zA7, zA7, lst_length, lst_length] at hl
 have HC0 := zh (wstr_any before h hB (by omega))
 have HA := zh hA; clear hA
 have HKW := zh hk; clear hk
 have HKK := zh hKK; clear hKK
 have HFF : Hid (∀ i, i < zs.length → Writes F (.agg (nv (zs.getD i n0))) (f (zs.getD i n0)) KK) := fun i hi => HF _ (by
  rw [List.getD_eq_getElem?_getD, List.getElem?_eq_getElem hi]
  exact List.getElem_mem hi)
 clear HF
 have HTK : Hid (∀ i, i < zs.length → jc ((zs.map f).take (i + 1)) = jc ((zs.map f).take i) ++ (if 0 < i then 44 :: f (zs.getD i n0) else f (zs.getD i n0))) := fun i hi => by
  have h1 := jc_take (l := zs.map f) (i := i) (by simpa using hi)
  rw [show (zs.map f).getD i [] = f (zs.getD i n0) by
   rw [List.getD_eq_getElem?_getD, List.getD_eq_getElem?_getD, List.getElem?_map, List.getElem?_eq_getElem hi]; rfl] at h1
  exact h1
 have HLE : Hid (∀ i, (jc ((zs.map f).take i)).length ≤ (jc (zs.map f)).length) := jc_le _
 have HEN : Hid (jc ((zs.map f).take zs.length) = jc (zs.map f)) := by
  show jc _ = _
  rw [List.take_of_length_le (by simp)]
 have HJ0 : Hid (jc ((zs.map f).take 0) = []) := by rw [List.take_zero]; exact zh rfl
 have hb := bld_lt h
 generalize hJ : jc (zs.map f) = J at *
 clear hJ h
 generalize hm : zs.length = n at *
 have HN := zh hm; clear hm
 go_enter Tryz.func99, Tryz.ntmps99
 go_wp2_with fail
 refine HC0.out.mono ?_
 rintro e w1 ⟨rfl, h1, h2, h3⟩
 have H1 : Hid (Bld w1 B b (acc ++ (lst before ++ jc ((zs.map f).take 0)))) := by rw [HJ0.out, List.append_nil]; exact zh h1
 have H2 := zh h2
 have H3 := zh h3
 clear h1 h2 h3 HC0
 go_wp2_with fail
 go_loopw [17] (fun iv wr => ∃ i : Nat, i ≤ n ∧ iv = .int .i64 i ∧ Hid (Bld wr B b (acc ++ (lst before ++ jc ((zs.map f).take i)))) ∧ Hid (Below B w wr) ∧ Hid (Lib.OthersKept 5 (some b) w wr)) (fun iv _ => n - (intOf iv).toNat)
 case atStart => exact ⟨0, by omega, rfl, H1.out, H2.out, H3.out⟩
 case round =>
  obtain ⟨i, hi, rfl, HBU, HW, HO⟩ := hrel
  have hBr : B ≤ wr.heap.size := zM hB HW.out.size
  by_cases hlt : i < n
  ·obtain ⟨bb, o, rfl, hbb, hc⟩ := sl_at (z := n0) ncells_length (HA.out.below HW.out) (k := i) (by rw [HN.out]; exact hlt) (by omega)
   have q0 := hc i 0 _ (by rw [HN.out]; exact hlt) (by omega) rfl
   have q1 := hc i 1 _ (by rw [HN.out]; exact hlt) (by omega) rfl
   have q2 := hc i 2 _ (by rw [HN.out]; exact hlt) (by omega) rfl
   have q3 := hc i 3 _ (by rw [HN.out]; exact hlt) (by omega) rfl
   have q4 := hc i 4 _ (by rw [HN.out]; exact hlt) (by omega) rfl
   rw [Nat.add_zero] at q0
   rw [← Nat.add_assoc] at q1 q2 q3 q4
   have HT := zh (HTK.out i hlt)
   have HLN : Hid (acc.length + (before.size + (jc ((zs.map f).take (i + 1))).length) ≤ 140737488355328) := by
        have h1 := HLE.out (i + 1)
        show _ ≤ _
        omega
   have HFI := zh (HFF.out i hlt)
   generalize zs.getD i n0 = z at *
   have hrow := RowAt.new wr 28 (nv z)
   have HROW := zh hrow
   have hb2 := bld_lt HBU.out
   have HB2 := zh (bld_below HBU.out ((zB _ wr).alloc (zL _) (.cells (nv z) 28)))
   have HW2 := zh (HW.out.alloc hBr (.cells (nv z) 28))
   have HO2 := zh (HO.out.alloc (.cells (nv z) 28))
   clear hc hrow
   obtain ⟨zk, zp, zs9, zA, zc, zw, zBq, zd, zz⟩ := z
   simp only [Nd.k, Nd.p, Nd.s, Nd.A, Nd.c, Nd.ws, Nd.B, Nd.d, Nd.ks] at q0 q1 q2 q3 q4
   by_cases h0 : 0 < i
   ·rw [if_pos h0] at HT
    have HL1 : Hid ((acc ++ (lst before ++ jc ((zs.map f).take i))).length + 1 ≤ 140737488355328) := by
     have h1 := HLN.out
     rw [HT.out] at h1
     simp only [zA7, zA8, lst_length] at h1 ⊢
     show _ ≤ _
     omega
    have HC1 := zh (wbyte_any 44 HB2.out (by simp; omega) HL1.out)
    go_wp2_with fail
    refine HC1.out.mono ?_
    rintro e w3 ⟨rfl, k1, k2, k3⟩
    have HR3 := zh (others_row k3 HROW.out (by omega) (by decide))
    have HK1 := zh k1
    have HW3 := zh (HW2.out.trans k2)
    have HO3 := zh (HO2.out.trans k3)
    have hr3 := HR3.out
    unfold nv at hr3
    simp only [Nd.k, Nd.p, Nd.s, Nd.A, Nd.c, Nd.ws, Nd.B, Nd.d, Nd.ks] at hr3
    obtain ⟨m0, m1, m2, m3, m4, _, _, _, _, _⟩ := row5 hr3
    clear hr3
    clear k1 k2 k3 HC1
    have HCF := zh (HFI.out w3 B b _ HK1.out (zM hB HW3.out.size) (by
     have h1 := HLN.out
     rw [HT.out] at h1
     simp only [zA7, zA8, zA9, lst_length] at h1 ⊢
     omega) (HKK.out _ _ _ HKW.out HW3.out))
    skip
    go_wp2_with fail
    refine HCF.out.mono ?_
    rintro e w4 ⟨rfl, k1, k2, k3⟩
    have HN4 : Hid (Bld w4 B b (acc ++ (lst before ++ jc ((zs.map f).take (i + 1))))) := by
     rw [HT.out]
     have e1 : acc ++ (lst before ++ (jc ((zs.map f).take i) ++ 44 :: f (Nd.mk zk zp zs9 zA zc zw zBq zd zz))) = ((acc ++ (lst before ++ jc ((zs.map f).take i))) ++ [44]) ++ f (Nd.mk zk zp zs9 zA zc zw zBq zd zz) := by simp
     rw [e1]; exact zh k1
    have HW4 := zh (HW3.out.trans k2)
    have HO4 := zh (HO3.out.trans k3)
    clear k1 k2 k3 HCF
    go_wp2
    go_roundw
    case rel => exact ⟨i + 1, by omega, by go_num, HN4, HW4, HO4⟩
    case measure => simp [intOf]; omega
   ·rw [if_neg h0] at HT
    obtain rfl : i = 0 := by omega
    simp only [Nat.zero_mul, Nat.add_zero] at q0 q1 q2 q3 q4
    have HCF := zh (HFI.out _ B b _ HB2.out (by simp; omega) (by
     have h1 := HLN.out
     rw [HT.out] at h1
     simp only [zA7, lst_length] at h1 ⊢
     omega) (HKK.out _ _ _ HKW.out HW2.out))
    have hr3 := HROW.out
    unfold nv at hr3
    simp only [Nd.k, Nd.p, Nd.s, Nd.A, Nd.c, Nd.ws, Nd.B, Nd.d, Nd.ks] at hr3
    obtain ⟨m0, m1, m2, m3, m4, _, _, _, _, _⟩ := row5 hr3
    clear hr3
    skip
    go_wp2_with fail
    refine HCF.out.mono ?_
    rintro e w4 ⟨rfl, k1, k2, k3⟩
    have HN4 : Hid (Bld w4 B b (acc ++ (lst before ++ jc ((zs.map f).take (0 + 1))))) := by
     rw [HT.out]
     have e1 : acc ++ (lst before ++ (jc ((zs.map f).take 0) ++ f (Nd.mk zk zp zs9 zA zc zw zBq zd zz))) = (acc ++ (lst before ++ jc ((zs.map f).take 0))) ++ f (Nd.mk zk zp zs9 zA zc zw zBq zd zz) := by simp
     rw [e1]; exact zh k1
    have HW4 := zh (HW2.out.trans k2)
    have HO4 := zh (HO2.out.trans k3)
    clear k1 k2 k3 HCF
    go_wp2
    go_roundw
    case rel => exact ⟨1, by omega, rfl, HN4, HW4, HO4⟩
    case measure => simp [intOf]; omega
  ·obtain rfl : i = n := by omega
   rw [HEN.out] at HBU
   have HC9 := zh (wstr_any after HBU.out hBr (by
        simp only [zA7, lst_length]
        omega))
   go_wp2_with fail
   refine HC9.out.mono ?_
   rintro e w4 ⟨rfl, k1, k2, k3⟩
   have HN4 : Hid (Bld w4 B b (acc ++ (lst before ++ (J ++ lst after)))) := by
        have e1 : acc ++ (lst before ++ (J ++ lst after)) = (acc ++ (lst before ++ J)) ++ lst after := by simp
        rw [e1]; exact zh k1
   have HW4 := zh (HW.out.trans k2)
   have HO4 := zh (HO.out.trans k3)
   clear k1 k2 k3 HC9
   go_wp2_with fail
   go_end0
   exact ⟨rfl, HN4.out, HW4.out, HO4.out⟩
def Nods (w : World) (B : Nat) (l : List Nd) : Prop := ∀ x ∈ TM.all l, (Sl w B x.A (wcs x.ws) ∧ x.ws.length ≤ x.c) ∧ Sl w B x.B (ncs x.ks) ∧ x.ks.length ≤ x.d
section
variable {w w' : World} {B B' : Nat} {l : List Nd} {x : Nd}
theorem Nods.below (h : Nods w B l) (hb : Below B w w') : Nods w' B l := fun x hx => ⟨⟨(h x hx).1.1.below hb, (h x hx).1.2⟩, (h x hx).2.1.below hb, (h x hx).2.2⟩
theorem Nods.mono (h : Nods w B l) (hB : B ≤ B') : Nods w B' l := fun x hx => ⟨⟨(h x hx).1.1.mono hB, (h x hx).1.2⟩, (h x hx).2.1.mono hB, (h x hx).2.2⟩
theorem Nods.mem (h : Nods w B l) (hx : x ∈ l) : Nods w B [x] := fun y hy => by
 rw [all_cons] at hy
 simp only [TM.all, List.append_nil, List.mem_cons] at hy
 rcases hy with rfl | hy
 ·exact h _ (mem_all hx)
 ·exact h _ (TM.mem_kids hx hy)
theorem Nods.kids (h : Nods w B [x]) : Nods w B x.ks := fun y hy => h y (TM.mem_kids (List.mem_singleton.2 rfl) hy)
theorem Nods.at (h : Nods w B [x]) : (Sl w B x.A (wcs x.ws) ∧ x.ws.length ≤ x.c) ∧ Sl w B x.B (ncs x.ks) ∧ x.ks.length ≤ x.d := h x (mem_all (List.mem_singleton.2 rfl))
theorem DeepN.nods {ok : Nat → Prop} (h : DeepN w ok l) : Nods w w.heap.size l := fun x hx => ⟨⟨(h x hx).1.1.sl, (h x hx).1.2⟩, (h x hx).2.1.sl, (h x hx).2.2⟩
end
end
section
open Go.RowKit LX TR TM
section
variable (s : List UInt8) (ws ks : List (List UInt8))
theorem tx1_1 : tx1 1 s ws ks = s := by simp [tx1]
theorem tx1_2 : tx1 2 s ws ks = s := by simp [tx1]
theorem tx1_7 : tx1 7 s ws ks = 35 :: ks.headD [] := by simp [tx1]
theorem tx1_11 : tx1 11 s ws ks = s ++ 61 :: ks.headD [] := by simp [tx1]
theorem tx1_4 : tx1 4 s ws ks = 40 :: (jc ks ++ [41]) := by simp [tx1]
theorem tx1_8 : tx1 8 s ws ks = 43 :: 40 :: (jc ks ++ [41]) := by simp [tx1]
theorem tx1_9 : tx1 9 s ws ks = 38 :: 40 :: (jc ks ++ [41]) := by simp [tx1]
theorem tx1_5 : tx1 5 s ws ks = 91 :: (jc ks ++ [93]) := by simp [tx1]
theorem tx1_3 : tx1 3 s ws ks = 123 :: (jc ws ++ [125]) := by simp [tx1]
theorem tx1_6 : tx1 6 s ws ks = s ++ 58 :: 123 :: (jc ws ++ [125]) := by simp [tx1]
theorem tx1_10 : tx1 10 s ws ks = 91 :: (jc ks ++ (if ws = [] then [93] else 124 :: (jc ws ++ [93]))) := by simp [tx1]
theorem tx1_else {k : Int} (h1 : ¬ k = 1) (h2 : ¬ k = 2) (h7 : ¬ k = 7) (h11 : ¬ k = 11) (h4 : ¬ k = 4) (h8 : ¬ k = 8) (h9 : ¬ k = 9) (h5 : ¬ k = 5) (h3 : ¬ k = 3) (h6 : ¬ k = 6) (h10 : ¬ k = 10) : tx1 k s ws ks = [] := by
 simp [tx1, h1, h2, h7, h11, h4, h8, h9, h5, h3, h6, h10]
end
theorem lst_app (a b : ByteArray) : lst (a ++ b) = lst a ++ lst b := by simp [lst]
theorem bsz0 : (⟨#[]⟩ : ByteArray).size = 0 := rfl
theorem bsz1 (c : UInt8) : (⟨#[c]⟩ : ByteArray).size = 1 := rfl
theorem bsz2 (c d : UInt8) : (⟨#[c, d]⟩ : ByteArray).size = 2 := rfl
theorem lst_one (c : UInt8) : lst ⟨#[c]⟩ = [c] := rfl
theorem lst_two (c d : UInt8) : lst ⟨#[c, d]⟩ = [c, d] := rfl
theorem lst_none : lst ⟨#[]⟩ = [] := rfl
theorem Writes.weak {F : FuncId} {v : Value} {t : List UInt8} {K K' : World → Nat → Prop} (h : Writes F v t K) (hk : ∀ w B, K' w B → K w B) : Writes F v t K' := fun w B b acc h1 h2 h3 h4 => h w B b acc h1 h2 h3 (hk w B h4)
theorem wfirst_any {K : World → Nat → Prop} (A : Option Addr) (c : Nat) (zs : List Nd) (HF : ∀ z ∈ zs, Writes 57 (.agg (nv z)) (tx z) K)
 (w : World) (B b : Nat) (acc : List UInt8) (h : Bld w B b acc) (hB : B ≤ w.heap.size) (hl : acc.length + ((txs zs).headD []).length ≤ 140737488355328) (hk : K w B) (hA : Sl w B A (ncs zs)) :
 Calls Tryz.prog 98 #[.pointer (some ⟨b, 0, none⟩), .slice A zs.length c] w fun e w' => e = .returned (.tuple #[]) ∧ Bld w' B b (acc ++ (txs zs).headD []) ∧ Below B w w' ∧ Lib.OthersKept 5 (some b) w w' := by
 cases zs with
 | nil =>
   have HH := zh h
   rw [show (txs []).headD [] = [] by simp [txs], List.append_nil]
   simp only [zA9]
   clear h hA hl HF
   go_enter Tryz.func98, Tryz.ntmps98
   go_wp2_with fail
   go_end0
   exact ⟨rfl, HH.out, zB _ _, Lib.OthersKept.refl _ _ _⟩
 | cons z zs =>
   rw [txs_cons, List.headD_cons] at hl ⊢
   have HC := zh (HF z (by simp) w B b acc h hB hl hk)
   obtain ⟨bb, o, rfl, hbb, hc⟩ := sl_at (z := n0) ncells_length hA (k := 0) (by simp) (by omega)
   have q0 := hc 0 0 _ (by simp) (by omega) rfl
   have q1 := hc 0 1 _ (by simp) (by omega) rfl
   have q2 := hc 0 2 _ (by simp) (by omega) rfl
   have q3 := hc 0 3 _ (by simp) (by omega) rfl
   have q4 := hc 0 4 _ (by simp) (by omega) rfl
   simp only [Nat.zero_mul, Nat.add_zero, Nat.zero_add, List.getD_cons_zero] at q0 q1 q2 q3 q4
   simp only [zA8]
   have hlen : (0 : Int) < ((zs.length + 1 : Nat) : Int) := by omega
   generalize zs.length + 1 = n at *
   unfold nv at HC
   clear h hA hl HF hc
   obtain ⟨zk, zp, zs9, zA, zc, zw, zBq, zd, zz⟩ := z
   simp only [Nd.k, Nd.p, Nd.s, Nd.A, Nd.c, Nd.ws, Nd.B, Nd.d, Nd.ks] at q0 q1 q2 q3 q4 HC
   go_enter Tryz.func98, Tryz.ntmps98
   go_wp2_with fail
   refine HC.out.mono ?_
   rintro e w1 ⟨rfl, k1, k2, k3⟩
   have HBU := zh k1
   have HW := zh k2
   have HO := zh k3
   clear k1 k2 k3
   go_wp2_with fail
   go_end0
   exact ⟨rfl, HBU.out, HW.out, HO.out⟩
theorem write_step (N : Nat) (hN : N ≤ 4294967296) (ih : ∀ y, cnt [y] ≤ N → Writes 57 (.agg (nv y)) (tx y) (fun w B => Nods w B [y])) (z : Nd) (hz : cnt [z] ≤ N + 1) :
 Writes 57 (.agg (nv z)) (tx z) (fun w B => Nods w B [z]) := by
 intro w B b acc h hB hl hnd
 obtain ⟨zk, zp, zs, zA, zc, zw, zBq, zd, zz⟩ := z
 have hcz : 1 + zw.length + cnt zz ≤ N + 1 := by rw [cnt_cons] at hz; simp only [cnt, Nat.add_zero] at hz; exact hz
 have hzl := length_cnt zz
 have HKF : Hid (∀ y ∈ zz, Writes 57 (.agg (nv y)) (tx y) (fun w B => Nods w B zz)) := fun y hy => (ih y (by
  have h1 := cnt_mem hy
  rw [cnt_cons]
  simp only [cnt, Nat.add_zero]
  omega)).weak fun w B h => h.mem hy
 have HNK : Hid (Nods w B zz) := hnd.kids
 have HSW : Hid (Sl w B zA (wcs zw)) := hnd.at.1.1
 have HSK : Hid (Sl w B zBq (ncs zz)) := hnd.at.2.1
 have hgb : w.heap.size ≠ b := Nat.ne_of_gt (bld_lt h)
 have HBUw0 := zh (bld_below h ((zB _ _).alloc (zL _) (.cells (nv (.mk zk zp zs zA zc zw zBq zd zz)) 28)))
 have HWw0 : Hid (Below B w (w.alloc (.cells (nv (.mk zk zp zs zA zc zw zBq zd zz)) 28))) := (zB B w).alloc hB _
 have HOw0 : Hid (Lib.OthersKept 5 (some b) w (w.alloc (.cells (nv (.mk zk zp zs zA zc zw zBq zd zz)) 28))) := (Lib.OthersKept.refl _ _ w).alloc _
 have HRw0 := zh (RowAt.new w 28 (nv (.mk zk zp zs zA zc zw zBq zd zz)))
 have hzw0 : B ≤ (w.alloc (.cells (nv (.mk zk zp zs zA zc zw zBq zd zz)) 28)).heap.size := by simp; omega
 unfold nv at HBUw0 HWw0 HOw0 HRw0 hzw0 ⊢
 simp only [Nd.k, Nd.p, Nd.s, Nd.A, Nd.c, Nd.ws, Nd.B, Nd.d, Nd.ks] at HBUw0 HWw0 HOw0 HRw0 hzw0 ⊢
 obtain ⟨m0, m1, m2, m3, m4, _, _, _, _, _⟩ := row5 HRw0.out
 clear h hnd ih
 by_cases h1 : zk = 1
 ·subst h1
  have HTX : Hid (tx (.mk 1 zp zs zA zc zw zBq zd zz) = tx1 1 (lst zs) (wtx zw) (txs zz)) := rfl
  rw [tx1_1] at HTX
  go_enter Tryz.func57, Tryz.ntmps57
  go_wp2_with fail
  have C1 := zh (wstr_any zs HBUw0.out hzw0 (by rw [HTX.out] at hl; (try simp only [wtx, txs_map] at hl); (try simp only [lst_length] at hl); (try simp only [zA7, zA8, zA9, lst_length, lst_app, lst_one, lst_two, lst_none, ByteArray.size_append, bsz0, bsz1, bsz2]); (try simp only [txs_map]); first | omega | (simp [ByteArray.size] at hl ⊢; omega)))
  go_wp2_with fail
  refine C1.out.mono ?_
  rintro e w1 ⟨rfl, k1, k2, k3⟩
  have HBUw1 := zh k1
  have HWw1 : Hid (Below B w w1) := HWw0.out.trans k2
  have HOw1 : Hid (Lib.OthersKept 5 (some b) w w1) := HOw0.out.trans k3
  have HRw1 := zh (others_row k3 HRw0.out hgb (by decide))
  obtain ⟨m0, m1, m2, m3, m4, _, _, _, _, _⟩ := row5 HRw1.out
  have hzw1 : B ≤ w1.heap.size := zM hB HWw1.out.size
  clear k1 k2 k3
  clear C1
  go_wp2_with fail
  go_end0
  exact ⟨rfl, (by have h := HBUw1.out; rw [HTX.out]; simpa [wtx, txs_map, lst_one, lst_two, lst_none, lst_app] using h), HWw1.out, HOw1.out⟩
 ·by_cases h2 : zk = 2
  ·subst h2
   have HTX : Hid (tx (.mk 2 zp zs zA zc zw zBq zd zz) = tx1 2 (lst zs) (wtx zw) (txs zz)) := rfl
   rw [tx1_2] at HTX
   go_enter Tryz.func57, Tryz.ntmps57
   go_wp2_with fail
   have C1 := zh (wstr_any zs HBUw0.out hzw0 (by rw [HTX.out] at hl; (try simp only [wtx, txs_map] at hl); (try simp only [lst_length] at hl); (try simp only [zA7, zA8, zA9, lst_length, lst_app, lst_one, lst_two, lst_none, ByteArray.size_append, bsz0, bsz1, bsz2]); (try simp only [txs_map]); first | omega | (simp [ByteArray.size] at hl ⊢; omega)))
   go_wp2_with fail
   refine C1.out.mono ?_
   rintro e w1 ⟨rfl, k1, k2, k3⟩
   have HBUw1 := zh k1
   have HWw1 : Hid (Below B w w1) := HWw0.out.trans k2
   have HOw1 : Hid (Lib.OthersKept 5 (some b) w w1) := HOw0.out.trans k3
   have HRw1 := zh (others_row k3 HRw0.out hgb (by decide))
   obtain ⟨m0, m1, m2, m3, m4, _, _, _, _, _⟩ := row5 HRw1.out
   have hzw1 : B ≤ w1.heap.size := zM hB HWw1.out.size
   clear k1 k2 k3
   clear C1
   go_wp2_with fail
   go_end0
   exact ⟨rfl, (by have h := HBUw1.out; rw [HTX.out]; simpa [wtx, txs_map, lst_one, lst_two, lst_none, lst_app] using h), HWw1.out, HOw1.out⟩
  ·by_cases h7 : zk = 7
   ·subst h7
    have HTX : Hid (tx (.mk 7 zp zs zA zc zw zBq zd zz) = tx1 7 (lst zs) (wtx zw) (txs zz)) := rfl
    rw [tx1_7] at HTX
    go_enter Tryz.func57, Tryz.ntmps57
    go_wp2_with fail
    have C1 := zh (wbyte_any 35 HBUw0.out hzw0 (by rw [HTX.out] at hl; (try simp only [txs_map] at hl); (try simp only [zA8] at hl); (try simp only [zA7, zA8, zA9, lst_length, lst_app, lst_one, lst_two, lst_none, ByteArray.size_append, bsz0, bsz1, bsz2]); (try simp only [txs_map]); first | omega | (simp [ByteArray.size] at hl ⊢; omega)))
    go_wp2_with fail
    refine C1.out.mono ?_
    rintro e w1 ⟨rfl, k1, k2, k3⟩
    have HBUw1 := zh k1
    have HWw1 : Hid (Below B w w1) := HWw0.out.trans k2
    have HOw1 : Hid (Lib.OthersKept 5 (some b) w w1) := HOw0.out.trans k3
    have HRw1 := zh (others_row k3 HRw0.out hgb (by decide))
    obtain ⟨m0, m1, m2, m3, m4, _, _, _, _, _⟩ := row5 HRw1.out
    have hzw1 : B ≤ w1.heap.size := zM hB HWw1.out.size
    clear k1 k2 k3
    clear C1
    have C2 := zh (wfirst_any (K := fun w B => Nods w B zz) zBq zd zz HKF.out _ _ _ _ HBUw1.out hzw1 (by rw [HTX.out] at hl; (try simp only [txs_map] at hl); (try simp only [zA8] at hl); (try simp only [zA7, zA8, zA9]); (try simp only [txs_map]); first | omega | (simp [ByteArray.size] at hl ⊢; omega)) (HNK.out.below HWw1.out) (HSK.out.below HWw1.out))
    go_wp2_with fail
    refine C2.out.mono ?_
    rintro e w2 ⟨rfl, k1, k2, k3⟩
    have HBUw2 := zh k1
    have HWw2 : Hid (Below B w w2) := HWw1.out.trans k2
    have HOw2 : Hid (Lib.OthersKept 5 (some b) w w2) := HOw1.out.trans k3
    have HRw2 := zh (others_row k3 HRw1.out hgb (by decide))
    obtain ⟨m0, m1, m2, m3, m4, _, _, _, _, _⟩ := row5 HRw2.out
    have hzw2 : B ≤ w2.heap.size := zM hB HWw2.out.size
    clear k1 k2 k3
    clear C2
    go_wp2_with fail
    go_end0
    exact ⟨rfl, (by have h := HBUw2.out; rw [HTX.out]; simpa [wtx, txs_map, lst_one, lst_two, lst_none, lst_app] using h), HWw2.out, HOw2.out⟩
   ·by_cases h11 : zk = 11
    ·subst h11
     have HTX : Hid (tx (.mk 11 zp zs zA zc zw zBq zd zz) = tx1 11 (lst zs) (wtx zw) (txs zz)) := rfl
     rw [tx1_11] at HTX
     have hsz : zs.size ≤ 140737488355327 := by
      rw [HTX.out] at hl
      simp only [zA7, zA8, lst_length] at hl
      omega
     go_enter Tryz.func57, Tryz.ntmps57
     go_wp2_with fail
     have C1 := zh (wstr_any (zs ++ ⟨#[61]⟩) HBUw0.out hzw0 (by rw [HTX.out] at hl; (try simp only [txs_map] at hl); (try simp only [zA7, zA8, lst_length] at hl); (try simp only [ByteArray.size_append, bsz1]); (try simp only [txs_map]); first | omega | (simp [ByteArray.size] at hl ⊢; omega)))
     go_wp2_with fail
     refine C1.out.mono ?_
     rintro e w1 ⟨rfl, k1, k2, k3⟩
     have HBUw1 := zh k1
     have HWw1 : Hid (Below B w w1) := HWw0.out.trans k2
     have HOw1 : Hid (Lib.OthersKept 5 (some b) w w1) := HOw0.out.trans k3
     have HRw1 := zh (others_row k3 HRw0.out hgb (by decide))
     obtain ⟨m0, m1, m2, m3, m4, _, _, _, _, _⟩ := row5 HRw1.out
     have hzw1 : B ≤ w1.heap.size := zM hB HWw1.out.size
     clear k1 k2 k3
     clear C1
     have C2 := zh (wfirst_any (K := fun w B => Nods w B zz) zBq zd zz HKF.out _ _ _ _ HBUw1.out hzw1 (by rw [HTX.out] at hl; (try simp only [txs_map] at hl); (try simp only [zA7, zA8, lst_length] at hl); (try simp only [zA7, zA8, zA9, lst_length, lst_app, lst_one]); (try simp only [txs_map]); first | omega | (simp [ByteArray.size] at hl ⊢; omega)) (HNK.out.below HWw1.out) (HSK.out.below HWw1.out))
     go_wp2_with fail
     refine C2.out.mono ?_
     rintro e w2 ⟨rfl, k1, k2, k3⟩
     have HBUw2 := zh k1
     have HWw2 : Hid (Below B w w2) := HWw1.out.trans k2
     have HOw2 : Hid (Lib.OthersKept 5 (some b) w w2) := HOw1.out.trans k3
     have HRw2 := zh (others_row k3 HRw1.out hgb (by decide))
     obtain ⟨m0, m1, m2, m3, m4, _, _, _, _, _⟩ := row5 HRw2.out
     have hzw2 : B ≤ w2.heap.size := zM hB HWw2.out.size
     clear k1 k2 k3
     clear C2
     go_wp2_with fail
     go_end0
     exact ⟨rfl, (by have h := HBUw2.out; rw [HTX.out]; simpa [wtx, txs_map, lst_one, lst_two, lst_none, lst_app] using h), HWw2.out, HOw2.out⟩
    ·by_cases h4 : zk = 4
     ·subst h4
      have HTX : Hid (tx (.mk 4 zp zs zA zc zw zBq zd zz) = tx1 4 (lst zs) (wtx zw) (txs zz)) := rfl
      rw [tx1_4] at HTX
      go_enter Tryz.func57, Tryz.ntmps57
      go_wp2_with fail
      have C1 := zh ((wlistN_any (fun _ _ => by kernel_rfl) zBq zd zz (by omega) HKF.out (fun wa wb B h hb => h.below hb) ⟨#[40]⟩ ⟨#[41]⟩ _ _ _ _ HBUw0.out hzw0 (by rw [HTX.out] at hl; (try simp only [txs_map] at hl); (try simp only [zA7, zA8, zA9] at hl); (try simp only [zA7, zA8, zA9, lst_one]); (try simp only [txs_map]); first | omega | (simp [ByteArray.size] at hl ⊢; omega)) (HNK.out.below HWw0.out) (HSK.out.below HWw0.out)))
      go_wp2_with fail
      refine C1.out.mono ?_
      rintro e w1 ⟨rfl, k1, k2, k3⟩
      have HBUw1 := zh k1
      have HWw1 : Hid (Below B w w1) := HWw0.out.trans k2
      have HOw1 : Hid (Lib.OthersKept 5 (some b) w w1) := HOw0.out.trans k3
      have HRw1 := zh (others_row k3 HRw0.out hgb (by decide))
      obtain ⟨m0, m1, m2, m3, m4, _, _, _, _, _⟩ := row5 HRw1.out
      have hzw1 : B ≤ w1.heap.size := zM hB HWw1.out.size
      clear k1 k2 k3
      clear C1
      go_wp2_with fail
      go_end0
      exact ⟨rfl, (by have h := HBUw1.out; rw [HTX.out]; simpa [wtx, txs_map, lst_one, lst_two, lst_none, lst_app] using h), HWw1.out, HOw1.out⟩
     ·by_cases h8 : zk = 8
      ·subst h8
       have HTX : Hid (tx (.mk 8 zp zs zA zc zw zBq zd zz) = tx1 8 (lst zs) (wtx zw) (txs zz)) := rfl
       rw [tx1_8] at HTX
       go_enter Tryz.func57, Tryz.ntmps57
       go_wp2_with fail
       have C1 := zh ((wlistN_any (fun _ _ => by kernel_rfl) zBq zd zz (by omega) HKF.out (fun wa wb B h hb => h.below hb) ⟨#[43, 40]⟩ ⟨#[41]⟩ _ _ _ _ HBUw0.out hzw0 (by rw [HTX.out] at hl; (try simp only [txs_map] at hl); (try simp only [zA7, zA8, zA9] at hl); (try simp only [zA7, zA8, zA9, lst_one, lst_two]); (try simp only [txs_map]); first | omega | (simp [ByteArray.size] at hl ⊢; omega)) (HNK.out.below HWw0.out) (HSK.out.below HWw0.out)))
       go_wp2_with fail
       refine C1.out.mono ?_
       rintro e w1 ⟨rfl, k1, k2, k3⟩
       have HBUw1 := zh k1
       have HWw1 : Hid (Below B w w1) := HWw0.out.trans k2
       have HOw1 : Hid (Lib.OthersKept 5 (some b) w w1) := HOw0.out.trans k3
       have HRw1 := zh (others_row k3 HRw0.out hgb (by decide))
       obtain ⟨m0, m1, m2, m3, m4, _, _, _, _, _⟩ := row5 HRw1.out
       have hzw1 : B ≤ w1.heap.size := zM hB HWw1.out.size
       clear k1 k2 k3
       clear C1
       go_wp2_with fail
       go_end0
       exact ⟨rfl, (by have h := HBUw1.out; rw [HTX.out]; simpa [wtx, txs_map, lst_one, lst_two, lst_none, lst_app] using h), HWw1.out, HOw1.out⟩
      ·by_cases h9 : zk = 9
       ·subst h9
        have HTX : Hid (tx (.mk 9 zp zs zA zc zw zBq zd zz) = tx1 9 (lst zs) (wtx zw) (txs zz)) := rfl
        rw [tx1_9] at HTX
        go_enter Tryz.func57, Tryz.ntmps57
        go_wp2_with fail
        have C1 := zh ((wlistN_any (fun _ _ => by kernel_rfl) zBq zd zz (by omega) HKF.out (fun wa wb B h hb => h.below hb) ⟨#[38, 40]⟩ ⟨#[41]⟩ _ _ _ _ HBUw0.out hzw0 (by rw [HTX.out] at hl; (try simp only [txs_map] at hl); (try simp only [zA7, zA8, zA9] at hl); (try simp only [zA7, zA8, zA9, lst_one, lst_two]); (try simp only [txs_map]); first | omega | (simp [ByteArray.size] at hl ⊢; omega)) (HNK.out.below HWw0.out) (HSK.out.below HWw0.out)))
        go_wp2_with fail
        refine C1.out.mono ?_
        rintro e w1 ⟨rfl, k1, k2, k3⟩
        have HBUw1 := zh k1
        have HWw1 : Hid (Below B w w1) := HWw0.out.trans k2
        have HOw1 : Hid (Lib.OthersKept 5 (some b) w w1) := HOw0.out.trans k3
        have HRw1 := zh (others_row k3 HRw0.out hgb (by decide))
        obtain ⟨m0, m1, m2, m3, m4, _, _, _, _, _⟩ := row5 HRw1.out
        have hzw1 : B ≤ w1.heap.size := zM hB HWw1.out.size
        clear k1 k2 k3
        clear C1
        go_wp2_with fail
        go_end0
        exact ⟨rfl, (by have h := HBUw1.out; rw [HTX.out]; simpa [wtx, txs_map, lst_one, lst_two, lst_none, lst_app] using h), HWw1.out, HOw1.out⟩
       ·by_cases h5 : zk = 5
        ·subst h5
         have HTX : Hid (tx (.mk 5 zp zs zA zc zw zBq zd zz) = tx1 5 (lst zs) (wtx zw) (txs zz)) := rfl
         rw [tx1_5] at HTX
         go_enter Tryz.func57, Tryz.ntmps57
         go_wp2_with fail
         have C1 := zh ((wlistN_any (fun _ _ => by kernel_rfl) zBq zd zz (by omega) HKF.out (fun wa wb B h hb => h.below hb) ⟨#[91]⟩ ⟨#[93]⟩ _ _ _ _ HBUw0.out hzw0 (by rw [HTX.out] at hl; (try simp only [txs_map] at hl); (try simp only [zA7, zA8, zA9] at hl); (try simp only [zA7, zA8, zA9, lst_one]); (try simp only [txs_map]); first | omega | (simp [ByteArray.size] at hl ⊢; omega)) (HNK.out.below HWw0.out) (HSK.out.below HWw0.out)))
         go_wp2_with fail
         refine C1.out.mono ?_
         rintro e w1 ⟨rfl, k1, k2, k3⟩
         have HBUw1 := zh k1
         have HWw1 : Hid (Below B w w1) := HWw0.out.trans k2
         have HOw1 : Hid (Lib.OthersKept 5 (some b) w w1) := HOw0.out.trans k3
         have HRw1 := zh (others_row k3 HRw0.out hgb (by decide))
         obtain ⟨m0, m1, m2, m3, m4, _, _, _, _, _⟩ := row5 HRw1.out
         have hzw1 : B ≤ w1.heap.size := zM hB HWw1.out.size
         clear k1 k2 k3
         clear C1
         go_wp2_with fail
         go_end0
         exact ⟨rfl, (by have h := HBUw1.out; rw [HTX.out]; simpa [wtx, txs_map, lst_one, lst_two, lst_none, lst_app] using h), HWw1.out, HOw1.out⟩
        ·by_cases h3 : zk = 3
         ·subst h3
          have HTX : Hid (tx (.mk 3 zp zs zA zc zw zBq zd zz) = tx1 3 (lst zs) (wtx zw) (txs zz)) := rfl
          rw [tx1_3] at HTX
          go_enter Tryz.func57, Tryz.ntmps57
          go_wp2_with fail
          have C1 := zh ((wlistW_any (f := fun x => lst x.s) (KK := fun _ _ => True) (fun _ _ => by kernel_rfl) zA zc zw (by omega) (fun z _ => writeName_any z _) (fun _ _ _ _ _ => trivial) ⟨#[123]⟩ ⟨#[125]⟩ _ _ _ _ HBUw0.out hzw0 (by rw [HTX.out] at hl; (try simp only [wtx] at hl); (try simp only [zA7, zA8, zA9] at hl); (try simp only [zA7, zA8, zA9, lst_one]); (try simp only [txs_map]); first | omega | (simp [ByteArray.size] at hl ⊢; omega)) trivial (HSW.out.below HWw0.out)))
          go_wp2_with fail
          refine C1.out.mono ?_
          rintro e w1 ⟨rfl, k1, k2, k3⟩
          have HBUw1 := zh k1
          have HWw1 : Hid (Below B w w1) := HWw0.out.trans k2
          have HOw1 : Hid (Lib.OthersKept 5 (some b) w w1) := HOw0.out.trans k3
          have HRw1 := zh (others_row k3 HRw0.out hgb (by decide))
          obtain ⟨m0, m1, m2, m3, m4, _, _, _, _, _⟩ := row5 HRw1.out
          have hzw1 : B ≤ w1.heap.size := zM hB HWw1.out.size
          clear k1 k2 k3
          clear C1
          go_wp2_with fail
          go_end0
          exact ⟨rfl, (by have h := HBUw1.out; rw [HTX.out]; simpa [wtx, txs_map, lst_one, lst_two, lst_none, lst_app] using h), HWw1.out, HOw1.out⟩
         ·by_cases h6 : zk = 6
          ·subst h6
           have HTX : Hid (tx (.mk 6 zp zs zA zc zw zBq zd zz) = tx1 6 (lst zs) (wtx zw) (txs zz)) := rfl
           rw [tx1_6] at HTX
           go_enter Tryz.func57, Tryz.ntmps57
           go_wp2_with fail
           have C1 := zh (wstr_any zs HBUw0.out hzw0 (by rw [HTX.out] at hl; (try simp only [wtx] at hl); (try simp only [zA7, zA8, zA9, lst_length] at hl); (try simp only [zA7, zA8, zA9, lst_length, lst_app, lst_one, lst_two, lst_none, ByteArray.size_append, bsz0, bsz1, bsz2]); (try simp only [txs_map]); first | omega | (simp [ByteArray.size] at hl ⊢; omega)))
           go_wp2_with fail
           refine C1.out.mono ?_
           rintro e w1 ⟨rfl, k1, k2, k3⟩
           have HBUw1 := zh k1
           have HWw1 : Hid (Below B w w1) := HWw0.out.trans k2
           have HOw1 : Hid (Lib.OthersKept 5 (some b) w w1) := HOw0.out.trans k3
           have HRw1 := zh (others_row k3 HRw0.out hgb (by decide))
           obtain ⟨m0, m1, m2, m3, m4, _, _, _, _, _⟩ := row5 HRw1.out
           have hzw1 : B ≤ w1.heap.size := zM hB HWw1.out.size
           clear k1 k2 k3
           clear C1
           have C2 := zh ((wlistW_any (f := fun x => lst x.s) (KK := fun _ _ => True) (fun _ _ => by kernel_rfl) zA zc zw (by omega) (fun z _ => writeName_any z _) (fun _ _ _ _ _ => trivial) ⟨#[58, 123]⟩ ⟨#[125]⟩ _ _ _ _ HBUw1.out hzw1 (by rw [HTX.out] at hl; (try simp only [wtx] at hl); (try simp only [zA7, zA8, zA9, lst_length] at hl); (try simp only [zA7, zA8, zA9, lst_length, lst_one, lst_two]); (try simp only [txs_map]); first | omega | (simp [ByteArray.size] at hl ⊢; omega)) trivial (HSW.out.below HWw1.out)))
           go_wp2_with fail
           refine C2.out.mono ?_
           rintro e w2 ⟨rfl, k1, k2, k3⟩
           have HBUw2 := zh k1
           have HWw2 : Hid (Below B w w2) := HWw1.out.trans k2
           have HOw2 : Hid (Lib.OthersKept 5 (some b) w w2) := HOw1.out.trans k3
           have HRw2 := zh (others_row k3 HRw1.out hgb (by decide))
           obtain ⟨m0, m1, m2, m3, m4, _, _, _, _, _⟩ := row5 HRw2.out
           have hzw2 : B ≤ w2.heap.size := zM hB HWw2.out.size
           clear k1 k2 k3
           clear C2
           go_wp2_with fail
           go_end0
           exact ⟨rfl, (by have h := HBUw2.out; rw [HTX.out]; simpa [wtx, txs_map, lst_one, lst_two, lst_none, lst_app] using h), HWw2.out, HOw2.out⟩
          ·by_cases h10 : zk = 10
           ·subst h10
            have HTX : Hid (tx (.mk 10 zp zs zA zc zw zBq zd zz) = tx1 10 (lst zs) (wtx zw) (txs zz)) := rfl
            rw [tx1_10] at HTX
            by_cases hw : zw = []
            ·subst hw
             rw [if_pos (show wtx [] = [] from rfl)] at HTX
             simp only [zA9] at *
             go_enter Tryz.func57, Tryz.ntmps57
             go_wp2_with fail
             have C1 := zh ((wlistN_any (fun _ _ => by kernel_rfl) zBq zd zz (by omega) HKF.out (fun wa wb B h hb => h.below hb) ⟨#[91]⟩ ⟨#[]⟩ _ _ _ _ HBUw0.out hzw0 (by rw [HTX.out] at hl; (try simp only [txs_map] at hl); (try simp only [zA7, zA8, zA9] at hl); (try simp only [zA7, zA8, zA9, lst_one, lst_none]); (try simp only [txs_map]); first | omega | (simp [ByteArray.size] at hl ⊢; omega)) (HNK.out.below HWw0.out) (HSK.out.below HWw0.out)))
             go_wp2_with fail
             refine C1.out.mono ?_
             rintro e w1 ⟨rfl, k1, k2, k3⟩
             have HBUw1 := zh k1
             have HWw1 : Hid (Below B w w1) := HWw0.out.trans k2
             have HOw1 : Hid (Lib.OthersKept 5 (some b) w w1) := HOw0.out.trans k3
             have HRw1 := zh (others_row k3 HRw0.out hgb (by decide))
             obtain ⟨m0, m1, m2, m3, m4, _, _, _, _, _⟩ := row5 HRw1.out
             have hzw1 : B ≤ w1.heap.size := zM hB HWw1.out.size
             clear k1 k2 k3
             clear C1
             have C2 := zh (wbyte_any 93 HBUw1.out hzw1 (by rw [HTX.out] at hl; (try simp only [txs_map] at hl); (try simp only [zA7, zA8, zA9] at hl); (try simp only [zA7, zA8, zA9, lst_one, lst_none]); (try simp only [txs_map]); first | omega | (simp [ByteArray.size] at hl ⊢; omega)))
             go_wp2_with fail
             refine C2.out.mono ?_
             rintro e w2 ⟨rfl, k1, k2, k3⟩
             have HBUw2 := zh k1
             have HWw2 : Hid (Below B w w2) := HWw1.out.trans k2
             have HOw2 : Hid (Lib.OthersKept 5 (some b) w w2) := HOw1.out.trans k3
             have HRw2 := zh (others_row k3 HRw1.out hgb (by decide))
             obtain ⟨m0, m1, m2, m3, m4, _, _, _, _, _⟩ := row5 HRw2.out
             have hzw2 : B ≤ w2.heap.size := zM hB HWw2.out.size
             clear k1 k2 k3
             clear C2
             go_wp2_with fail
             go_end0
             exact ⟨rfl, (by have h := HBUw2.out; rw [HTX.out]; simpa [wtx, txs_map, lst_one, lst_none] using h), HWw2.out, HOw2.out⟩
            ·rw [if_neg (show ¬ wtx zw = [] from fun e => hw (List.map_eq_nil_iff.1 e))] at HTX
             have hwl : 0 < zw.length := List.length_pos_iff.2 hw
             go_enter Tryz.func57, Tryz.ntmps57
             go_wp2_with fail
             have C1 := zh ((wlistN_any (fun _ _ => by kernel_rfl) zBq zd zz (by omega) HKF.out (fun wa wb B h hb => h.below hb) ⟨#[91]⟩ ⟨#[]⟩ _ _ _ _ HBUw0.out hzw0 (by rw [HTX.out] at hl; (try simp only [wtx, txs_map] at hl); (try simp only [zA7, zA8, zA9] at hl); (try simp only [zA7, zA8, zA9, lst_one, lst_none]); (try simp only [txs_map]); first | omega | (simp [ByteArray.size] at hl ⊢; omega)) (HNK.out.below HWw0.out) (HSK.out.below HWw0.out)))
             go_wp2_with fail
             refine C1.out.mono ?_
             rintro e w1 ⟨rfl, k1, k2, k3⟩
             have HBUw1 := zh k1
             have HWw1 : Hid (Below B w w1) := HWw0.out.trans k2
             have HOw1 : Hid (Lib.OthersKept 5 (some b) w w1) := HOw0.out.trans k3
             have HRw1 := zh (others_row k3 HRw0.out hgb (by decide))
             obtain ⟨m0, m1, m2, m3, m4, _, _, _, _, _⟩ := row5 HRw1.out
             have hzw1 : B ≤ w1.heap.size := zM hB HWw1.out.size
             clear k1 k2 k3
             clear C1
             have C2 := zh ((wlistW_any (f := fun x => lst x.s) (KK := fun _ _ => True) (fun _ _ => by kernel_rfl) zA zc zw (by omega) (fun z _ => writeName_any z _) (fun _ _ _ _ _ => trivial) ⟨#[124]⟩ ⟨#[]⟩ _ _ _ _ HBUw1.out hzw1 (by rw [HTX.out] at hl; (try simp only [wtx, txs_map] at hl); (try simp only [zA7, zA8, zA9] at hl); (try simp only [zA7, zA8, zA9, lst_one, lst_none]); (try simp only [txs_map]); first | omega | (simp [ByteArray.size] at hl ⊢; omega)) trivial (HSW.out.below HWw1.out)))
             go_wp2_with fail
             refine C2.out.mono ?_
             rintro e w2 ⟨rfl, k1, k2, k3⟩
             have HBUw2 := zh k1
             have HWw2 : Hid (Below B w w2) := HWw1.out.trans k2
             have HOw2 : Hid (Lib.OthersKept 5 (some b) w w2) := HOw1.out.trans k3
             have HRw2 := zh (others_row k3 HRw1.out hgb (by decide))
             obtain ⟨m0, m1, m2, m3, m4, _, _, _, _, _⟩ := row5 HRw2.out
             have hzw2 : B ≤ w2.heap.size := zM hB HWw2.out.size
             clear k1 k2 k3
             clear C2
             have C3 := zh (wbyte_any 93 HBUw2.out hzw2 (by rw [HTX.out] at hl; (try simp only [wtx, txs_map] at hl); (try simp only [zA7, zA8, zA9] at hl); (try simp only [zA7, zA8, zA9, lst_one, lst_none]); (try simp only [txs_map]); first | omega | (simp [ByteArray.size] at hl ⊢; omega)))
             go_wp2_with fail
             refine C3.out.mono ?_
             rintro e w3 ⟨rfl, k1, k2, k3⟩
             have HBUw3 := zh k1
             have HWw3 : Hid (Below B w w3) := HWw2.out.trans k2
             have HOw3 : Hid (Lib.OthersKept 5 (some b) w w3) := HOw2.out.trans k3
             have HRw3 := zh (others_row k3 HRw2.out hgb (by decide))
             obtain ⟨m0, m1, m2, m3, m4, _, _, _, _, _⟩ := row5 HRw3.out
             have hzw3 : B ≤ w3.heap.size := zM hB HWw3.out.size
             clear k1 k2 k3
             clear C3
             go_wp2_with fail
             go_end0
             exact ⟨rfl, (by have h := HBUw3.out; rw [HTX.out]; simpa [wtx, txs_map, lst_one, lst_none] using h), HWw3.out, HOw3.out⟩
           ·have q1 : (zk == 1) = false := by rw [beq_eq_false_iff_ne]; exact h1
            have q2 : (zk == 2) = false := by rw [beq_eq_false_iff_ne]; exact h2
            have q7 : (zk == 7) = false := by rw [beq_eq_false_iff_ne]; exact h7
            have q11 : (zk == 11) = false := by rw [beq_eq_false_iff_ne]; exact h11
            have q4 : (zk == 4) = false := by rw [beq_eq_false_iff_ne]; exact h4
            have q8 : (zk == 8) = false := by rw [beq_eq_false_iff_ne]; exact h8
            have q9 : (zk == 9) = false := by rw [beq_eq_false_iff_ne]; exact h9
            have q5 : (zk == 5) = false := by rw [beq_eq_false_iff_ne]; exact h5
            have q3 : (zk == 3) = false := by rw [beq_eq_false_iff_ne]; exact h3
            have q6 : (zk == 6) = false := by rw [beq_eq_false_iff_ne]; exact h6
            have q10 : (zk == 10) = false := by rw [beq_eq_false_iff_ne]; exact h10
            have HTX : Hid (tx (.mk zk zp zs zA zc zw zBq zd zz) = []) := tx1_else _ _ _ h1 h2 h7 h11 h4 h8 h9 h5 h3 h6 h10
            go_enter Tryz.func57, Tryz.ntmps57
            go_wp2_with fail
            go_end0
            exact ⟨rfl, (by rw [HTX.out, List.append_nil]; exact HBUw0.out), HWw0.out, HOw0.out⟩
theorem write_any : ∀ N, N ≤ 4294967296 → ∀ z, cnt [z] ≤ N → Writes 57 (.agg (nv z)) (tx z) (fun w B => Nods w B [z]) := by
 intro N
 induction N with
 | zero => intro _ z hz; rw [cnt_cons] at hz; omega
 | succ N ih => intro h z hz; exact write_step N (by omega) (ih (by omega)) z hz
def text10 (z : Nd) : ByteArray := ⟨(tx z).toArray⟩
theorem text_any (z : Nd) (w : World) (hz : cnt [z] ≤ 4294967296) (hl : (tx z).length ≤ 140737488355328) (h : Nods w w.heap.size [z]) :
 Calls Tryz.prog 26 #[.agg (nv z)] w fun e w' => e = .returned (.string (text10 z)) ∧ Below w.heap.size w w' := by
 have HB0 : Hid (Below w.heap.size w ((w.alloc (.cells (nv z) 28)).alloc (.cells #[.pointer none, .slice none 0 0] 52))) := ((zB _ _).alloc (zL _) _).alloc (by simp) _
 have hbl : Bld ((w.alloc (.cells (nv z) 28)).alloc (.cells #[.pointer none, .slice none 0 0] 52)) (w.heap.size + 1) (w.heap.size + 1) [] := by
  have h1 := Lib.fresh_isBuilder 52 5 (w.alloc (.cells (nv z) 28))
  rw [show (w.alloc (.cells (nv z) 28)).heap.size = w.heap.size + 1 by simp] at h1
  exact h1
 have HC := zh (write_any _ (zL _) z hz _ _ _ _ hbl (by simp) (by simpa using hl) ((h.below HB0.out).mono (Nat.le_succ _)))
 have hn := (RowAt.new w 28 (nv z)).alloc (.cells #[.pointer none, .slice none 0 0] 52)
 rw [List.nil_append] at HC
 clear hbl h
 have HTX : Hid (text10 z = ⟨(tx z).toArray⟩) := rfl
 generalize tx z = t at *
 generalize text10 z = tt at *
 obtain ⟨zk, zp, zs, zA, zc, zw, zBq, zd, zz⟩ := z
 unfold nv at HB0 HC hn ⊢
 simp only [Nd.k, Nd.p, Nd.s, Nd.A, Nd.c, Nd.ws, Nd.B, Nd.d, Nd.ks] at HB0 HC hn ⊢
 obtain ⟨m0, m1, m2, m3, m4, _, _, _, _, _⟩ := row5 hn
 clear hn
 go_enter Tryz.func26, Tryz.ntmps26
 go_wp2_with fail
 refine HC.out.mono ?_
 rintro e w1 ⟨rfl, k1, k2, _⟩
 have HBU := zh k1
 have HW := zh (HB0.out.trans (k2.mono (Nat.le_succ _)))
 have hsz : w.heap.size + 1 ≤ w1.heap.size := Nat.le_of_lt (bld_lt k1)
 clear k1 k2
 go_wp2_with fail
 refine (Tryz.Builder_String_any _ _ _ _ HBU.out hsz).mono ?_
 rintro e w2 ⟨rfl, hb⟩
 have HW1 := zh (HW.out.trans (hb.mono (Nat.le_succ _))); clear hb
 go_wp2
 go_ret
 exact ⟨ret_eq (by rw [HTX.out]; rfl), HW1.out⟩
end
section
namespace TM
open LX TR
theorem ter_cons (x : Tr) (r : List Tr) : TR.er (x :: r) = .mk x.t none 0 (TR.er x.ks) x.e :: TR.er r := by cases x; rw [TR.er]; rfl
theorem ter_nil : TR.er [] = [] := by simp [TR.er]
def mapR {α : Type} (x : Res α) : Res α := match x with
 | .error p => .error p
 | .ok (a, r) => .ok (a, TR.er r)
def EI {α : Type} (rd : Rdr α) : Prop := ∀ ts e, rd (TR.er ts) e = mapR (rd ts e)
theorem EI.bind {α β : Type} {rd : Rdr α} {rd2 : α → Rdr β} (h : EI rd) (h2 : ∀ a, EI (rd2 a)) : EI (fun ts e => bnd (rd ts e) fun a r => rd2 a r e) := fun ts e => by
 show bnd (rd (TR.er ts) e) _ = mapR (bnd (rd ts e) _)
 rw [h]
 cases rd ts e with
 | error p => rfl
 | ok ar => obtain ⟨a, r⟩ := ar; exact h2 a r e
theorem EI.pure {α : Type} (x : α) : EI (fun ts _ => .ok (x, ts)) := fun _ _ => rfl
theorem EI.map {α β : Type} {rd : Rdr α} (g : α → β) (h : EI rd) : EI (fun ts e => bnd (rd ts e) fun a r => .ok (g a, r)) := EI.bind (rd2 := fun a ts _ => .ok (g a, ts)) h fun a => EI.pure _
theorem ei_take (k : Nat) : EI (takeR k) := fun ts e => by
 cases ts with
 | nil => rw [ter_nil]; rfl
 | cons x r =>
   rw [ter_cons]
   simp only [takeR]
   show (if x.t.k = k then _ else _) = _
   split <;> rfl
theorem ei_name : EI nameR := EI.map (fun t : Tk => (⟨t.s, t.p⟩ : Wd)) (ei_take 97)
theorem ei_more {α : Type} {el : Rdr α} (h : EI el) : ∀ n, EI (moreR el n)
 | 0 => fun _ _ => rfl
 | n + 1 => fun ts e => by
   cases ts with
   | nil => rw [ter_nil]; simp only [moreR]; simp [mapR, ter_nil]
   | cons c r =>
     have h2 := EI.bind (rd2 := fun x ts e => bnd (moreR el n ts e) fun xs r3 => .ok (x :: xs, r3)) h (fun x => EI.map (fun xs => x :: xs) (ei_more h n)) r e
     rw [ter_cons]
     simp only [moreR]
     show (if c.t.k = 44 then _ else _) = _
     split
     ·exact h2
     ·simp [mapR, ter_cons]
theorem ei_some {α : Type} {el : Rdr α} (h : EI el) : EI (someR el) := fun ts e => by
 have h2 := EI.bind (rd2 := fun x ts2 e => bnd (moreR el ts.length ts2 e) fun xs r3 => .ok (x :: xs, r3)) h (fun x => EI.map (fun xs => x :: xs) (ei_more h _)) ts e
 unfold someR
 rw [TR.er_length]
 exact h2
theorem ei_opt {α : Type} {el : Rdr α} (h : EI el) : EI (optR el) := fun ts e => by
 cases ts with
 | nil => rw [ter_nil]; simp [optR, mapR, ter_nil]
 | cons x r =>
   have h2 := ei_some h (x :: r) e
   rw [ter_cons] at h2 ⊢
   simp only [optR]
   show (if x.t.k = 124 then _ else _) = _
   split
   ·simp [mapR, ter_cons]
   ·exact h2
theorem ei_within {α : Type} {rd : Rdr α} (k : Nat) (h : EI rd) : EI (withinR k rd) := fun ts e => by
 cases ts with
 | nil => rw [ter_nil]; rfl
 | cons x r =>
   rw [ter_cons]
   simp only [withinR]
   show (if x.t.k = k then bnd (rd (TR.er x.ks) x.e) _ else _) = _
   split
   ·rw [h x.ks x.e]
    cases rd x.ks x.e with
    | error p => rfl
    | ok ar =>
      obtain ⟨a, r2⟩ := ar
      cases r2 with
      | nil => simp [bnd, mapR, ter_nil]
      | cons y r3 => simp [bnd, mapR, ter_cons]; rfl
   ·rfl
theorem ei_set : EI setR := ei_within 123 (ei_opt ei_name)
theorem ei_names : EI namesR := ei_within 123 (ei_some ei_name)
theorem ei_rule : EI ruleR := by
 have h1 : ∀ w : Wd, EI (fun ts e => bnd (takeR 58 ts e) fun _ r2 => bnd (setR r2 e) fun ws r3 => .ok (nd 6 w.p w.s ws [], r3)) := fun w =>
  EI.bind (rd2 := fun _ ts e => bnd (setR ts e) fun ws r3 => .ok (nd 6 w.p w.s ws [], r3)) (ei_take 58) fun _ => EI.map (fun ws => nd 6 w.p w.s ws []) ei_set
 have h2 := EI.bind (rd2 := fun w ts e => bnd (takeR 58 ts e) fun _ r2 => bnd (setR r2 e) fun ws r3 => .ok (nd 6 w.p w.s ws [], r3)) ei_name h1
 exact h2
theorem ei_const : ∀ d, EI (constR d)
 | 0 => fun _ _ => rfl
 | d + 1 => fun ts e => by
   cases ts with
   | nil => rw [ter_nil]; rfl
   | cons x r =>
     have h1 := (EI.map (fun ws => nd 3 x.t.p e0 ws []) ei_set) (x :: r) e
     have h2 := (EI.map (fun ks => nd 4 x.t.p e0 [] ks) (ei_within 40 (ei_some (ei_const d)))) (x :: r) e
     have h3 := (EI.map (fun ks => nd 5 x.t.p e0 [] ks) (ei_within 91 (ei_opt ei_rule))) (x :: r) e
     rw [ter_cons] at h1 h2 h3 ⊢
     simp only [constR]
     show (if x.t.k = 97 then _ else if x.t.k = 123 then _ else if x.t.k = 40 then _ else if x.t.k = 91 then _ else _) = _
     split
     ·rfl
     ·split
      ·exact h1
      ·split
       ·exact h2
       ·split
        ·exact h3
        ·rfl
theorem ei_var : EI varR := EI.map (fun w : Wd => nd 1 w.p w.s [] []) ei_name
theorem ei_atom (d : Nat) : EI (atomR d) := fun ts e => by
 cases ts with
 | nil => rw [ter_nil]; rfl
 | cons x r =>
   have h1 := (EI.map (fun n => nd 7 x.t.p e0 [] [n]) (ei_const d)) r e
   have h2 := ei_var (x :: r) e
   rw [ter_cons] at h2 ⊢
   simp only [atomR]
   show (if x.t.k = 35 then _ else _) = _
   split
   ·exact h1
   ·exact h2
theorem ei_label : ∀ d, EI (labelR d)
 | 0 => fun _ _ => rfl
 | d + 1 => fun ts e => by
   cases ts with
   | nil => rw [ter_nil]; rfl
   | cons x r =>
     have h1 := (EI.map (fun ks => nd 8 x.t.p e0 [] ks) (ei_within 40 (ei_some (ei_label d)))) r e
     have h2 := (EI.map (fun ks => nd 9 x.t.p e0 [] ks) (ei_within 40 (ei_some (ei_label d)))) r e
     have h3 := ei_atom (d + 1) (x :: r) e
     rw [ter_cons] at h3 ⊢
     simp only [labelR]
     show (if x.t.k = 43 then _ else if x.t.k = 38 then _ else _) = _
     split
     ·exact h1
     ·split
      ·exact h2
      ·exact h3
theorem ei_field (d : Nat) : EI (fieldR d) := by
 have h1 : ∀ w : Wd, EI (fun ts e => bnd (takeR 61 ts e) fun _ r2 => bnd (atomR d r2 e) fun n r3 => .ok (nd 11 w.p w.s [] [n], r3)) := fun w =>
  EI.bind (rd2 := fun _ ts e => bnd (atomR d ts e) fun n r3 => .ok (nd 11 w.p w.s [] [n], r3)) (ei_take 61) fun _ => EI.map (fun n => nd 11 w.p w.s [] [n]) (ei_atom d)
 have h2 := EI.bind (rd2 := fun w ts e => bnd (takeR 61 ts e) fun _ r2 => bnd (atomR d r2 e) fun n r3 => .ok (nd 11 w.p w.s [] [n], r3)) ei_name h1
 exact h2
theorem ei_tail (ks : List Nd) : EI (tailR ks) := fun ts e => by
 cases ts with
 | nil => rw [ter_nil]; simp [tailR, mapR, ter_nil]
 | cons x r =>
   have h1 := (EI.map (fun w : Wd => (ks, [w])) ei_name) r e
   rw [ter_cons]
   simp only [tailR]
   show (if x.t.k = 124 then _ else _) = _
   split
   ·exact h1
   ·simp [mapR, ter_cons]
theorem ei_inrow (d : Nat) : EI (inrowR d) := EI.bind (rd2 := fun ks ts e => tailR ks ts e) (ei_opt (ei_field d)) fun ks => ei_tail ks
theorem ei_row (d : Nat) : EI (rowR d) := fun ts e => by
 cases ts with
 | nil => rw [ter_nil]; rfl
 | cons x r =>
   have h1 := (EI.map (fun kw : List Nd × List Wd => nd 10 x.t.p e0 kw.2 kw.1) (ei_within 91 (ei_inrow d))) (x :: r) e
   have h2 := ei_var (x :: r) e
   rw [ter_cons] at h1 h2 ⊢
   simp only [rowR]
   show (if x.t.k = 91 then _ else _) = _
   split
   ·exact h1
   ·exact h2
theorem rest_zero (l : List Tr) : rest l 0 = l := by simp [rest]
def trOf (s : ByteArray) : List Tr := match scan s 0 [] with
 | .error _ => []
 | .ok R => match parse R with
   | .error _ => []
   | .ok ts => ts
theorem kids_few : ∀ l, ∀ x ∈ nodes l, x.ks.length ≤ (nodes l).length := by
 refine TR.ind (fun x hx => by simp [nodes] at hx) fun t A c ks e r h1 h2 x hx => ?_
 rw [nodes] at hx ⊢
 simp only [zA8, zA7]
 rcases List.mem_cons.1 hx with rfl | hx
 ·have := length_nodes ks
  show ks.length ≤ _
  omega
 ·rcases List.mem_append.1 hx with hx | hx
  ·have := h1 x hx; omega
  ·have := h2 x hx; omega
theorem scan_few {s : ByteArray} (i : Nat) : ∀ (acc R : List Tk), scan s i acc = .ok R → i ≤ s.size → R.length ≤ acc.length + (s.size - i) := by
 induction i using scan_induct (s := s) with
 | h i ih =>
   intro acc R hR hi
   by_cases hlt : i < s.size
   ·cases hst : st s i with
    | skip =>
      rw [scan_skip acc hlt hst] at hR
      have := ih (i + 1) (by omega) acc R hR (by omega)
      omega
    | stop =>
      rw [scan_stop acc hlt hst] at hR
      injection hR with hR
      subst hR
      omega
    | bad => rw [scan_bad acc hlt hst] at hR; cases hR
    | tok k e =>
      rw [scan_tok acc hlt hst] at hR
      have he := st_tok hlt hst
      have := ih e he.1 _ R hR he.2
      rw [zA7, List.length_singleton] at this
      omega
   ·rw [scan_end acc hlt] at hR
    injection hR with hR
    subst hR
    omega
 | hend i hi =>
   intro acc R hR _
   rw [scan_end acc hi] at hR
   injection hR with hR
   subst hR
   omega
theorem trOf_ok {s : ByteArray} {R : List Tk} {ts : List Tr} (hs : scan s 0 [] = .ok R) (hp : parse R = .ok ts) : trOf s = ts := by
 unfold trOf; rw [hs]; simp only; rw [hp]
theorem trOf_bad {s : ByteArray} {p : Nat} (hs : scan s 0 [] = .error p) : trOf s = [] := by unfold trOf; rw [hs]
theorem trOf_bad2 {s : ByteArray} {R : List Tk} {p : Int} (hs : scan s 0 [] = .ok R) (hp : parse R = .error p) : trOf s = [] := by
 unfold trOf; rw [hs]; simp only; rw [hp]
theorem trOf_few (s : ByteArray) : (nodes (trOf s)).length ≤ s.size := by
 cases hs : scan s 0 [] with
 | error p => rw [trOf_bad hs]; simp [nodes]
 | ok R =>
   have h1 := scan_few 0 [] R hs (Nat.zero_le _)
   cases hp : parse R with
   | error p => rw [trOf_bad2 hs hp]; simp [nodes]
   | ok ts =>
     rw [trOf_ok hs hp]
     have h2 := spells_length (parse_spells hp).1
     simp only [zA9, Nat.zero_add, Nat.sub_zero] at h1
     omega
end TM
open Go.RowKit LX TR TM
end
section
open Go.RowKit LX TR TM
end
section
namespace CM
open LX TR TM
structure Pw where
 a : Wd
 b : Wd
def pwcells (x : Pw) : List Value := [.string x.a.s, .int .i64 x.a.p, .string x.b.s, .int .i64 x.b.p]
def pwv (x : Pw) : Array Value := #[.string x.a.s, .int .i64 x.a.p, .string x.b.s, .int .i64 x.b.p]
theorem pwcells_length (x : Pw) : (pwcells x).length = 4 := rfl
def pwcs (l : List Pw) : List Value := l.flatMap pwcells
theorem pwcs_append (a b : List Pw) : pwcs (a ++ b) = pwcs a ++ pwcs b := by simp [pwcs]
theorem pwcs_one (x : Pw) : pwcs [x] = pwcells x := by simp [pwcs]
structure Cm where
 op : Int
 p : Int
 n : Wd
 A : Option Addr
 c : Nat
 ws : List Wd
 B : Option Addr
 d : Nat
 ps : List Pw
 pp : Int
 l : Nd
 r : Nd
def c0 : Cm := ⟨0, 0, w0, none, 0, [], none, 0, [], 0, n0, n0⟩
def erc (x : Cm) : Cm := ⟨x.op, x.p, x.n, none, 0, x.ws, none, 0, x.ps, x.pp, er1 x.l, er1 x.r⟩
def cv (x : Cm) : Array Value := #[.int .i64 x.op, .int .i64 x.p, .string x.n.s, .int .i64 x.n.p, .slice x.A x.ws.length x.c, .slice x.B x.ps.length x.d, .int .i64 x.pp,
 .int .i64 x.l.k, .int .i64 x.l.p, .string x.l.s, .slice x.l.A x.l.ws.length x.l.c, .slice x.l.B x.l.ks.length x.l.d, .int .i64 x.r.k, .int .i64 x.r.p, .string x.r.s, .slice x.r.A x.r.ws.length x.r.c, .slice x.r.B x.r.ks.length x.r.d]
def kws : List ByteArray := [⟨#[]⟩, ⟨#[99, 104, 97, 105, 110]⟩, ⟨#[112, 111, 119, 101, 114]⟩, ⟨#[112, 114, 111, 100, 117, 99, 116]⟩, ⟨#[103, 114, 105, 100]⟩, ⟨#[116, 97, 98, 108, 101]⟩, ⟨#[108, 97, 98, 101, 108]⟩, ⟨#[114, 111, 119]⟩, ⟨#[108, 101, 113]⟩, ⟨#[114, 111, 119, 101, 113]⟩, ⟨#[108, 97, 99, 107, 115]⟩, ⟨#[112, 117, 115, 104]⟩, ⟨#[112, 111, 112]⟩, ⟨#[99, 104, 101, 99, 107]⟩, ⟨#[99, 111, 114, 101]⟩, ⟨#[119, 104, 121]⟩]
def lts : List ByteArray := [⟨#[]⟩, ⟨#[110, 119]⟩, ⟨#[110, 119]⟩, ⟨#[110, 119]⟩, ⟨#[110, 119, 112]⟩, ⟨#[110, 119, 112]⟩, ⟨#[110, 119]⟩, ⟨#[110, 119]⟩, ⟨#[110, 116, 116]⟩, ⟨#[110, 114, 114]⟩, ⟨#[110, 102]⟩, ⟨#[]⟩, ⟨#[]⟩, ⟨#[]⟩, ⟨#[]⟩, ⟨#[110]⟩]
def wrd (op : Int) : ByteArray := if 0 ≤ op ∧ op < 16 then kws.getD op.toNat ⟨#[]⟩ else ⟨#[]⟩
def ltr (op : Int) : ByteArray := if 0 ≤ op ∧ op < 16 then lts.getD op.toNat ⟨#[]⟩ else ⟨#[]⟩
def ltl (op : Int) : List Nat := (lst (ltr op)).map (·.toNat)
def numOf (s : ByteArray) : Nat := (kws.findIdx? fun x => decide (x = s)).getD 0
theorem wrd_out {op : Int} (h : ¬ (0 ≤ op ∧ op < 16)) : wrd op = ⟨#[]⟩ := by unfold wrd; rw [if_neg h]
theorem ltr_out {op : Int} (h : ¬ (0 ≤ op ∧ op < 16)) : ltr op = ⟨#[]⟩ := by unfold ltr; rw [if_neg h]
theorem wrd_in {k : Nat} (h : k < 16) : wrd k = kws.getD k ⟨#[]⟩ := by unfold wrd; rw [if_pos ⟨by omega, by omega⟩, Int.toNat_natCast]
theorem ltr_in {k : Nat} (h : k < 16) : ltr k = lts.getD k ⟨#[]⟩ := by unfold ltr; rw [if_pos ⟨by omega, by omega⟩, Int.toNat_natCast]
theorem kws_nodup : ∀ i : Fin 16, ∀ j : Fin 16, kws.getD i.val ⟨#[]⟩ = kws.getD j.val ⟨#[]⟩ → i = j := by decide
theorem numOf_lt (s : ByteArray) : numOf s < 16 := by
 unfold numOf
 cases h : kws.findIdx? fun x => decide (x = s) with
 | none => decide
 | some i =>
   have h1 := (List.findIdx?_eq_some_iff_getElem.1 h).1
   exact h1
theorem numOf_hit {s : ByteArray} {k : Nat} (hk : k < 16) (h : kws.getD k ⟨#[]⟩ = s) : numOf s = k := by
 unfold numOf
 cases hf : kws.findIdx? fun x => decide (x = s) with
 | none =>
   have h1 := List.findIdx?_eq_none_iff.1 hf
   have hl : k < kws.length := hk
   have h2 := h1 (kws.getD k ⟨#[]⟩) (by rw [List.getD_eq_getElem?_getD, List.getElem?_eq_getElem hl]; exact List.getElem_mem hl)
   exact absurd h (of_decide_eq_false h2)
 | some i =>
   obtain ⟨h1, h2, _⟩ := List.findIdx?_eq_some_iff_getElem.1 hf
   have h3 : kws.getD i ⟨#[]⟩ = s := by
    rw [List.getD_eq_getElem?_getD, List.getElem?_eq_getElem h1]
    exact of_decide_eq_true h2
   have h4 := kws_nodup ⟨i, h1⟩ ⟨k, hk⟩ (h3.trans h.symm)
   exact congrArg Fin.val h4
theorem numOf_get {s : ByteArray} (h : numOf s ≠ 0) : kws.getD (numOf s) ⟨#[]⟩ = s := by
 unfold numOf at h ⊢
 cases hf : kws.findIdx? fun x => decide (x = s) with
 | none => rw [hf] at h; exact absurd rfl h
 | some i =>
   obtain ⟨h1, h2, _⟩ := List.findIdx?_eq_some_iff_getElem.1 hf
   show kws.getD i ⟨#[]⟩ = s
   rw [List.getD_eq_getElem?_getD, List.getElem?_eq_getElem h1]
   exact of_decide_eq_true h2
structure Cs where
 n : Wd
 ws : List Wd
 ps : List Pw
 pp : Int
 ts : List Nd
def s0 : Cs := ⟨w0, [], [], 0, []⟩
def pairR : Rdr Pw := fun ts e => bnd (nameR ts e) fun a r => bnd (takeR 60 r e) fun _ r2 => bnd (nameR r2 e) fun b r3 => .ok (⟨a, b⟩, r3)
def prsR : Rdr (List Pw) := withinR 123 (optR pairR)
def partR (D k : Nat) (s : Cs) : Rdr Cs := fun ts e =>
 if k = 110 then bnd (nameR ts e) fun w r => .ok (⟨w, s.ws, s.ps, s.pp, s.ts⟩, r)
 else if k = 102 then bnd (nameR ts e) fun w r => .ok (⟨s.n, [w], s.ps, s.pp, s.ts⟩, r)
 else if k = 119 then bnd (namesR ts e) fun l r => .ok (⟨s.n, l, s.ps, s.pp, s.ts⟩, r)
 else if k = 112 then bnd (prsR ts e) fun l r => .ok (⟨s.n, s.ws, l, offOf ts e, s.ts⟩, r)
 else if k = 114 then bnd (rowR D ts e) fun z r => .ok (⟨s.n, s.ws, s.ps, s.pp, s.ts ++ [z]⟩, r)
 else bnd (labelR D ts e) fun z r => .ok (⟨s.n, s.ws, s.ps, s.pp, s.ts ++ [z]⟩, r)
def partsR (D : Nat) : List Nat → Cs → Rdr Cs
 | [], s => fun ts _ => .ok (s, ts)
 | k :: ks, s => fun ts e => bnd (partR D k s ts e) fun s2 r => partsR D ks s2 r e
def finC (op : Nat) (p : Int) (s : Cs) : Cm := ⟨op, p, s.n, none, 0, s.ws, none, 0, s.ps, s.pp, s.ts.getD 0 n0, s.ts.getD 1 n0⟩
def cmdR (D : Nat) (ts : List Tr) (e : Int) : Except Int Cm := match ts with
 | [] => .ok c0
 | x :: r => if x.t.k = 97 ∧ numOf x.t.s ≠ 0 then (match partsR D (ltl (numOf x.t.s)) s0 r e with
     | .error p => .error p
     | .ok (s, []) => .ok (finC (numOf x.t.s) x.t.p s)
     | .ok (_, y :: _) => .error y.t.p) else .error x.t.p
def readC (D : Nat) (line : ByteArray) : Except (Int × Int) Cm := match scan line 0 [] with
 | .error p => .error (1, p)
 | .ok R => match parse R with
   | .error p => .error (2, p)
   | .ok ts => match cmdR D ts line.size with
     | .error p => .error (2, p)
     | .ok c => .ok c
def ptx (x : Cm) : List Nat → List Nd → List UInt8
 | [], _ => []
 | k :: ks, ts => 32 :: (if k = 110 then lst x.n.s
   else if k = 102 then jc (x.ws.map fun v => lst v.s)
   else if k = 119 then 123 :: (jc (x.ws.map fun v => lst v.s) ++ [125])
   else if k = 112 then 123 :: (jc (x.ps.map fun v => lst v.a.s ++ 60 :: lst v.b.s) ++ [125])
   else tx (ts.headD n0)) ++ ptx x ks (if k = 110 ∨ k = 102 ∨ k = 119 ∨ k = 112 then ts else ts.tail)
def ctx (x : Cm) : List UInt8 := lst (wrd x.op) ++ ptx x (ltl x.op) [x.l, x.r]
def ctext (x : Cm) : ByteArray := ⟨(ctx x).toArray⟩
end CM
end
section
open Go.RowKit LX TR TM
theorem indexW_any {F : FuncId} {caps : Array Value} {g : Wd → Bool} {KK : World → Prop} (hf : ∀ v w, (callFunc F (#[v] ++ caps)).run Tryz.prog w = .ok (.enter F (#[v] ++ caps)) w) (A : Option Addr) (c : Nat) (zs : List Wd) (hn : zs.length ≤ 1099511627776)
 (HF : ∀ z ∈ zs, ∀ w, KK w → Calls Tryz.prog F (#[.agg (wv z)] ++ caps) w fun e w' => e = .returned (.bool (g z)) ∧ Below w.heap.size w w') (hKK : ∀ wa wb, KK wa → Below wa.heap.size wa wb → KK wb)
 (w : World) (hk : KK w) (hA : Sl w w.heap.size A (wcs zs)) :
 Calls Tryz.prog 102 #[.slice A zs.length c, .func (.func F) #[] caps] w fun e w' => ∃ r : Int, e = .returned (.int .i64 r) ∧ decide (0 ≤ r) = zs.any g ∧ Below w.heap.size w w' := by
 have HA := zh hA; clear hA
 have HK := zh hk; clear hk
 have HKK := zh hKK; clear hKK
 have HFF : Hid (∀ i, i < zs.length → ∀ w, KK w → Calls Tryz.prog F (#[.agg (wv (zs.getD i w0))] ++ caps) w fun e w' => e = .returned (.bool (g (zs.getD i w0))) ∧ Below w.heap.size w w') := fun i hi => HF _ (by
  rw [List.getD_eq_getElem?_getD, List.getElem?_eq_getElem hi]
  exact List.getElem_mem hi)
 clear HF
 have HHIT : Hid (∀ i, i < zs.length → g (zs.getD i w0) = true → zs.any g = true) := fun i hi h => by
  rw [List.any_eq_true]
  refine ⟨_, ?_, h⟩
  rw [List.getD_eq_getElem?_getD, List.getElem?_eq_getElem hi]
  exact List.getElem_mem hi
 have HMISS : Hid ((∀ j, j < zs.length → g (zs.getD j w0) = false) → zs.any g = false) := fun h => by
  rw [List.any_eq_false]
  intro x hx
  obtain ⟨j, hj, rfl⟩ := List.mem_iff_getElem.1 hx
  have := h j hj
  rw [List.getD_eq_getElem?_getD, List.getElem?_eq_getElem hj, Option.getD_some] at this
  simp [this]
 generalize hm : zs.length = n at *
 have HN := zh hm; clear hm
 go_enter Tryz.func102, Tryz.ntmps102
 go_wp2_with fail
 go_loopw [8] (fun iv wr => ∃ i : Nat, i ≤ n ∧ iv = .int .i64 i ∧ Hid (∀ j, j < i → g (zs.getD j w0) = false) ∧ Hid (Below w.heap.size w wr)) (fun iv _ => n - (intOf iv).toNat)
 case atStart => exact ⟨0, by omega, rfl, fun j hj => by omega, zB _ _⟩
 case round =>
  obtain ⟨i, hi, rfl, HB, HW⟩ := hrel
  by_cases hlt : i < n
  ·obtain ⟨bb, o, rfl, hbb, hc⟩ := sl_at (z := w0) wcells_length (HA.out.below HW.out) (k := i) (by rw [HN.out]; exact hlt) (by omega)
   have q0 := hc i 0 _ (by rw [HN.out]; exact hlt) (by omega) rfl
   have q1 := hc i 1 _ (by rw [HN.out]; exact hlt) (by omega) rfl
   rw [Nat.add_zero] at q0
   rw [← Nat.add_assoc] at q1
   have HC := zh (HFF.out i hlt wr (HKK.out _ _ HK.out HW.out))
   have HIN : Hid (g (zs.getD i w0) = false → ∀ j, j < i + 1 → g (zs.getD j w0) = false) := fun h j hj => by
        by_cases e : j = i
        ·rw [e]; exact h
        ·exact HB.out j (by omega)
   have HYS := zh (HHIT.out i hlt)
   have hin : (i : Int) < (n : Int) := by omega
   clear hc HB
   generalize hgz : g (zs.getD i w0) = q at *
   clear hgz
   generalize zs.getD i w0 = z at *
   obtain ⟨s9, p9⟩ := z
   unfold wv at HC
   simp only at q0 q1 HC
   cases q
   ·have HIN2 := zh (HIN.out rfl)
    clear HIN HYS
    go_wp2_with fail
    refine HC.out.mono ?_
    rintro e w4 ⟨rfl, hb⟩
    have HW4 := zh (HW.out.trans (hb.mono HW.out.size))
    clear hb
    go_wp2_with fail
    go_roundw
    case rel => exact ⟨i + 1, by omega, by go_num, HIN2, HW4⟩
    case measure => simp [intOf]; omega
   ·have HYS2 := zh (HYS.out rfl)
    clear HIN HYS
    go_wp2_with fail
    refine HC.out.mono ?_
    rintro e w4 ⟨rfl, hb⟩
    have HW4 := zh (HW.out.trans (hb.mono HW.out.size))
    clear hb
    go_wp2_with fail
    go_ret
    refine ⟨(i : Int), rfl, ?_, HW4.out⟩
    rw [HYS2.out]
    exact zE (by omega)
  ·obtain rfl : i = n := by omega
   have HNO := zh (HMISS.out HB.out)
   go_wp2_with fail
   go_ret
   refine ⟨-1, rfl, ?_, HW.out⟩
   rw [HNO.out]; rfl
theorem containsW_any {F : FuncId} {caps : Array Value} {g : Wd → Bool} {KK : World → Prop} (hf : ∀ v w, (callFunc F (#[v] ++ caps)).run Tryz.prog w = .ok (.enter F (#[v] ++ caps)) w) (A : Option Addr) (c : Nat) (zs : List Wd) (hn : zs.length ≤ 1099511627776)
 (HF : ∀ z ∈ zs, ∀ w, KK w → Calls Tryz.prog F (#[.agg (wv z)] ++ caps) w fun e w' => e = .returned (.bool (g z)) ∧ Below w.heap.size w w') (hKK : ∀ wa wb, KK wa → Below wa.heap.size wa wb → KK wb)
 (w : World) (hk : KK w) (hA : Sl w w.heap.size A (wcs zs)) :
 Calls Tryz.prog 67 #[.slice A zs.length c, .func (.func F) #[] caps] w fun e w' => e = .returned (.bool (zs.any g)) ∧ Below w.heap.size w w' := by
 have HC := zh (indexW_any hf A c zs hn HF hKK w hk hA)
 clear hA HF hKK hk
 generalize zs.any g = q at *
 generalize zs.length = n at *
 go_enter Tryz.func67, Tryz.ntmps67
 go_wp2_with fail
 refine HC.out.mono ?_
 rintro e w1 ⟨r, rfl, hr, hb⟩
 have HR := zh hr
 have HB := zh hb
 clear hr hb
 go_wp2_with fail
 go_ret
 exact ⟨ret_eq (bool_eq HR.out), HB.out⟩
theorem indexN_any {F : FuncId} {caps : Array Value} {g : Nd → Bool} {KK : World → Prop} (hf : ∀ v w, (callFunc F (#[v] ++ caps)).run Tryz.prog w = .ok (.enter F (#[v] ++ caps)) w) (A : Option Addr) (c : Nat) (zs : List Nd) (hn : zs.length ≤ 1099511627776)
 (HF : ∀ z ∈ zs, ∀ w, KK w → Calls Tryz.prog F (#[.agg (nv z)] ++ caps) w fun e w' => e = .returned (.bool (g z)) ∧ Below w.heap.size w w') (hKK : ∀ wa wb, KK wa → Below wa.heap.size wa wb → KK wb)
 (w : World) (hk : KK w) (hA : Sl w w.heap.size A (ncs zs)) :
 Calls Tryz.prog 119 #[.slice A zs.length c, .func (.func F) #[] caps] w fun e w' => ∃ r : Int, e = .returned (.int .i64 r) ∧ decide (0 ≤ r) = zs.any g ∧ Below w.heap.size w w' := by
 have HA := zh hA; clear hA
 have HK := zh hk; clear hk
 have HKK := zh hKK; clear hKK
 have HFF : Hid (∀ i, i < zs.length → ∀ w, KK w → Calls Tryz.prog F (#[.agg (nv (zs.getD i n0))] ++ caps) w fun e w' => e = .returned (.bool (g (zs.getD i n0))) ∧ Below w.heap.size w w') := fun i hi => HF _ (by
  rw [List.getD_eq_getElem?_getD, List.getElem?_eq_getElem hi]
  exact List.getElem_mem hi)
 clear HF
 have HHIT : Hid (∀ i, i < zs.length → g (zs.getD i n0) = true → zs.any g = true) := fun i hi h => by
  rw [List.any_eq_true]
  refine ⟨_, ?_, h⟩
  rw [List.getD_eq_getElem?_getD, List.getElem?_eq_getElem hi]
  exact List.getElem_mem hi
 have HMISS : Hid ((∀ j, j < zs.length → g (zs.getD j n0) = false) → zs.any g = false) := fun h => by
  rw [List.any_eq_false]
  intro x hx
  obtain ⟨j, hj, rfl⟩ := List.mem_iff_getElem.1 hx
  have := h j hj
  rw [List.getD_eq_getElem?_getD, List.getElem?_eq_getElem hj, Option.getD_some] at this
  simp [this]
 generalize hm : zs.length = n at *
 have HN := zh hm; clear hm
 go_enter Tryz.func119, Tryz.ntmps119
 go_wp2_with fail
 go_loopw [8] (fun iv wr => ∃ i : Nat, i ≤ n ∧ iv = .int .i64 i ∧ Hid (∀ j, j < i → g (zs.getD j n0) = false) ∧ Hid (Below w.heap.size w wr)) (fun iv _ => n - (intOf iv).toNat)
 case atStart => exact ⟨0, by omega, rfl, fun j hj => by omega, zB _ _⟩
 case round =>
  obtain ⟨i, hi, rfl, HB, HW⟩ := hrel
  by_cases hlt : i < n
  ·obtain ⟨bb, o, rfl, hbb, hc⟩ := sl_at (z := n0) ncells_length (HA.out.below HW.out) (k := i) (by rw [HN.out]; exact hlt) (by omega)
   have q0 := hc i 0 _ (by rw [HN.out]; exact hlt) (by omega) rfl
   have q1 := hc i 1 _ (by rw [HN.out]; exact hlt) (by omega) rfl
   have q2 := hc i 2 _ (by rw [HN.out]; exact hlt) (by omega) rfl
   have q3 := hc i 3 _ (by rw [HN.out]; exact hlt) (by omega) rfl
   have q4 := hc i 4 _ (by rw [HN.out]; exact hlt) (by omega) rfl
   rw [Nat.add_zero] at q0
   rw [← Nat.add_assoc] at q1 q2 q3 q4
   have HC := zh (HFF.out i hlt wr (HKK.out _ _ HK.out HW.out))
   have HIN : Hid (g (zs.getD i n0) = false → ∀ j, j < i + 1 → g (zs.getD j n0) = false) := fun h j hj => by
        by_cases e : j = i
        ·rw [e]; exact h
        ·exact HB.out j (by omega)
   have HYS := zh (HHIT.out i hlt)
   have hin : (i : Int) < (n : Int) := by omega
   clear hc HB
   generalize hgz : g (zs.getD i n0) = q at *
   clear hgz
   generalize zs.getD i n0 = z at *
   obtain ⟨zk, zp, zs9, zA, zc, zw, zBq, zd, zz⟩ := z
   unfold nv at HC
   simp only [Nd.k, Nd.p, Nd.s, Nd.A, Nd.c, Nd.ws, Nd.B, Nd.d, Nd.ks] at q0 q1 q2 q3 q4 HC
   cases q
   ·have HIN2 := zh (HIN.out rfl)
    clear HIN HYS
    go_wp2_with fail
    refine HC.out.mono ?_
    rintro e w4 ⟨rfl, hb⟩
    have HW4 := zh (HW.out.trans (hb.mono HW.out.size))
    clear hb
    go_wp2_with fail
    go_roundw
    case rel => exact ⟨i + 1, by omega, by go_num, HIN2, HW4⟩
    case measure => simp [intOf]; omega
   ·have HYS2 := zh (HYS.out rfl)
    clear HIN HYS
    go_wp2_with fail
    refine HC.out.mono ?_
    rintro e w4 ⟨rfl, hb⟩
    have HW4 := zh (HW.out.trans (hb.mono HW.out.size))
    clear hb
    go_wp2_with fail
    go_ret
    refine ⟨(i : Int), rfl, ?_, HW4.out⟩
    rw [HYS2.out]
    exact zE (by omega)
  ·obtain rfl : i = n := by omega
   have HNO := zh (HMISS.out HB.out)
   go_wp2_with fail
   go_ret
   refine ⟨-1, rfl, ?_, HW.out⟩
   rw [HNO.out]; rfl
theorem containsN_any {F : FuncId} {caps : Array Value} {g : Nd → Bool} {KK : World → Prop} (hf : ∀ v w, (callFunc F (#[v] ++ caps)).run Tryz.prog w = .ok (.enter F (#[v] ++ caps)) w) (A : Option Addr) (c : Nat) (zs : List Nd) (hn : zs.length ≤ 1099511627776)
 (HF : ∀ z ∈ zs, ∀ w, KK w → Calls Tryz.prog F (#[.agg (nv z)] ++ caps) w fun e w' => e = .returned (.bool (g z)) ∧ Below w.heap.size w w') (hKK : ∀ wa wb, KK wa → Below wa.heap.size wa wb → KK wb)
 (w : World) (hk : KK w) (hA : Sl w w.heap.size A (ncs zs)) :
 Calls Tryz.prog 104 #[.slice A zs.length c, .func (.func F) #[] caps] w fun e w' => e = .returned (.bool (zs.any g)) ∧ Below w.heap.size w w' := by
 have HC := zh (indexN_any hf A c zs hn HF hKK w hk hA)
 clear hA HF hKK hk
 generalize zs.any g = q at *
 generalize zs.length = n at *
 go_enter Tryz.func104, Tryz.ntmps104
 go_wp2_with fail
 refine HC.out.mono ?_
 rintro e w1 ⟨r, rfl, hr, hb⟩
 have HR := zh hr
 have HB := zh hb
 clear hr hb
 go_wp2_with fail
 go_ret
 exact ⟨ret_eq (bool_eq HR.out), HB.out⟩
end
section
namespace TM
open LX TR
structure Fl where
 c : Bool
 l : Bool
 r : Bool
 ru : Bool
 fi : Bool
 at' : Bool
def wrB (ws : List Wd) : Bool := ws.all fun x => NM.right x.s
def leafB (s : ByteArray) (ws : List Wd) (n : Nat) : Bool := NM.right s && (decide (ws.length = 0) && decide (n = 0))
def brB (s : ByteArray) (ws : List Wd) : Bool := decide (s = ⟨#[]⟩) && decide (ws.length = 0)
def fl0 : Fl := ⟨false, false, false, false, false, false⟩
def cB (k : Int) (s : ByteArray) (ws : List Wd) (ks : List Fl) : Bool :=
 if k = 2 then leafB s ws ks.length else if k = 3 then decide (s = ⟨#[]⟩) && (decide (ks.length = 0) && wrB ws) else if k = 4 then brB s ws && (decide (0 < ks.length) && ks.all (·.c)) else if k = 5 then brB s ws && ks.all (·.ru) else false
def ruB (k : Int) (s : ByteArray) (ws : List Wd) (n : Nat) : Bool := decide (k = 6) && (NM.right s && (decide (n = 0) && wrB ws))
def atB (k : Int) (s : ByteArray) (ws : List Wd) (ks : List Fl) : Bool := if k = 1 then leafB s ws ks.length else if k = 7 then brB s ws && (decide (ks.length = 1) && (ks.headD fl0).c) else false
def lB (k : Int) (s : ByteArray) (ws : List Wd) (ks : List Fl) : Bool := if k = 8 ∨ k = 9 then brB s ws && (decide (0 < ks.length) && ks.all (·.l)) else atB k s ws ks
def fiB (k : Int) (s : ByteArray) (ws : List Wd) (ks : List Fl) : Bool := decide (k = 11) && (NM.right s && (decide (ws.length = 0) && (decide (ks.length = 1) && (ks.headD fl0).at')))
def rB (k : Int) (s : ByteArray) (ws : List Wd) (ks : List Fl) : Bool := if k = 1 then leafB s ws ks.length else if k = 10 then decide (s = ⟨#[]⟩) && (decide (ws.length ≤ 1) && (wrB ws && ks.all (·.fi))) else false
def fl1 (k : Int) (s : ByteArray) (ws : List Wd) (ks : List Fl) : Fl := ⟨cB k s ws ks, lB k s ws ks, rB k s ws ks, ruB k s ws ks.length, fiB k s ws ks, atB k s ws ks⟩
def fls : List Nd → List Fl
 | [] => []
 | .mk k _ s _ _ ws _ _ ks :: r => fl1 k s ws (fls ks) :: fls r
def fl (x : Nd) : Fl := fl1 x.k x.s x.ws (fls x.ks)
theorem fls_cons (x : Nd) (r : List Nd) : fls (x :: r) = fl x :: fls r := by cases x; rw [fls]; rfl
theorem fls_map (l : List Nd) : fls l = l.map fl := by
 induction l with
 | nil => simp [fls]
 | cons x r ih => rw [fls_cons, ih]; rfl
theorem fls_length (l : List Nd) : (fls l).length = l.length := by rw [fls_map, List.length_map]
end TM
open Go.RowKit LX TR TM
theorem rightNames1_any (x : Wd) (w : World) : Calls Tryz.prog 107 (#[.agg (wv x)] ++ #[]) w fun e w' => e = .returned (.bool (!NM.right x.s)) ∧ Below w.heap.size w w' := by
 obtain ⟨s, p⟩ := x
 have hn := RowAt.new w 23 #[.string s, .int .i64 p]
 obtain ⟨m0, m1, _, _⟩ := row2 hn
 have HB : Hid (Below w.heap.size w (w.alloc (.cells #[.string s, .int .i64 p] 23))) := (zB _ _).alloc (zL _) _
 have HC := zh (right_any s (w.alloc (.cells #[.string s, .int .i64 p] 23)))
 clear hn
 unfold wv
 show Calls _ _ #[.agg #[.string s, .int .i64 p]] _ _
 simp only
 generalize NM.right s = r at *
 go_enter Tryz.func107, Tryz.ntmps107
 go_wp2_with fail
 refine HC.out.mono ?_
 rintro e w1 ⟨rfl, hb⟩
 have HB1 := zh (HB.out.trans (hb.mono HB.out.size))
 clear hb
 go_wp2_with fail
 go_ret
 exact ⟨rfl, HB1.out⟩
theorem rightNames_any (A : Option Addr) (c : Nat) (ws : List Wd) (hn : ws.length ≤ 1099511627776) (w : World) (hA : Sl w w.heap.size A (wcs ws)) :
 Calls Tryz.prog 75 #[.slice A ws.length c] w fun e w' => e = .returned (.bool (wrB ws)) ∧ Below w.heap.size w w' := by
 have HC := zh (containsW_any (F := 107) (caps := #[]) (g := fun x => !NM.right x.s) (KK := fun _ => True) (fun _ _ => by kernel_rfl) A c ws hn (fun z _ w _ => rightNames1_any z w) (fun _ _ _ _ => trivial) w trivial hA)
 have HE : Hid (wrB ws = !(ws.any fun x => !NM.right x.s)) := by
  show wrB ws = _
  unfold wrB
  rw [List.not_any_eq_all_not]
  simp
 rw [HE.out]
 clear hA
 generalize (ws.any fun x => !NM.right x.s) = q at *
 generalize ws.length = n at *
 go_enter Tryz.func75, Tryz.ntmps75
 go_wp2_with fail
 refine HC.out.mono ?_
 rintro e w1 ⟨rfl, hb⟩
 have HB := zh hb
 clear hb
 go_wp2_with fail
 go_ret
 exact ⟨rfl, HB.out⟩
theorem all1_any {G : FuncId} {r : Bool} (hf : ∀ args w, (callFunc G args).run Tryz.prog w = .ok (.enter G args) w) (z : Nd) (bx : Nat) (w : World) (hb : RowAt w bx 72 #[.func (.func G) #[] #[]])
 (HG : ∀ w', Below w.heap.size w w' → Calls Tryz.prog G #[.agg (nv z)] w' fun e w'' => e = .returned (.bool r) ∧ Below w'.heap.size w' w'') :
 Calls Tryz.prog 105 (#[.agg (nv z)] ++ #[.pointer (some ⟨bx, 0, none⟩)]) w fun e w' => e = .returned (.bool (!r)) ∧ Below w.heap.size w w' := by
 obtain ⟨zk, zp, zs, zA, zc, zw, zBq, zd, zz⟩ := z
 have hn := RowAt.new w 28 (nv (.mk zk zp zs zA zc zw zBq zd zz))
 have HB : Hid (Below w.heap.size w (w.alloc (.cells (nv (.mk zk zp zs zA zc zw zBq zd zz)) 28))) := (zB _ _).alloc (zL _) _
 have HC := zh (HG _ HB.out)
 have hbx := hb.lt
 have q0 := ((hb.alloc (.cells (nv (.mk zk zp zs zA zc zw zBq zd zz)) 28)).cell 0).trans rfl
 have q0' := (hb.cell 0).trans rfl
 clear hb HG
 unfold nv at hn HB HC q0 ⊢
 simp only [Nd.k, Nd.p, Nd.s, Nd.A, Nd.c, Nd.ws, Nd.B, Nd.d, Nd.ks] at hn HB HC q0 ⊢
 obtain ⟨m0, m1, m2, m3, m4, _, _, _, _, _⟩ := row5 hn
 clear hn
 show Calls _ _ #[.agg #[.int .i64 zk, .int .i64 zp, .string zs, .slice zA zw.length zc, .slice zBq zz.length zd], .pointer (some ⟨bx, 0, none⟩)] _ _
 go_enter Tryz.func105, Tryz.ntmps105
 go_wp2_with fail
 refine HC.out.mono ?_
 rintro e w1 ⟨rfl, hb⟩
 have HB1 := zh (HB.out.trans (hb.mono HB.out.size))
 clear hb
 go_wp2_with fail
 go_ret
 exact ⟨rfl, HB1.out⟩
theorem all_any {G : FuncId} {g : Nd → Bool} (hf : ∀ args w, (callFunc G args).run Tryz.prog w = .ok (.enter G args) w) (A : Option Addr) (c : Nat) (zs : List Nd) (hn : zs.length ≤ 1099511627776)
 (w : World) (hA : Sl w w.heap.size A (ncs zs)) (HG : ∀ z ∈ zs, ∀ w', Below w.heap.size w w' → Calls Tryz.prog G #[.agg (nv z)] w' fun e w'' => e = .returned (.bool (g z)) ∧ Below w'.heap.size w' w'') :
 Calls Tryz.prog 72 #[.slice A zs.length c, .func (.func G) #[] #[]] w fun e w' => e = .returned (.bool (zs.all g)) ∧ Below w.heap.size w w' := by
 have hmf : ∀ (fn : Fn) (first cap : Array Value) (w : World), (Instr.makeFunc fn first cap).run Tryz.prog w = .ok (.func fn first cap) w := fun _ _ _ _ => rfl
 have hB : Below w.heap.size w (w.alloc (.cells #[.func (.func G) #[] #[]] 72)) := (zB _ _).alloc (zL _) _
 have hb := RowAt.new w 72 #[.func (.func G) #[] #[]]
 have HC := zh (containsN_any (F := 105) (caps := #[.pointer (some ⟨w.heap.size, 0, none⟩)]) (g := fun x => !g x) (KK := fun W => RowAt W w.heap.size 72 #[.func (.func G) #[] #[]] ∧ Below w.heap.size w W) (fun _ _ => by kernel_rfl) A c zs hn
  (fun z hz W hW => all1_any hf z w.heap.size W hW.1 fun w' hw => HG z hz w' (hW.2.trans (hw.mono hW.2.size))) (fun wa wb h hb => ⟨h.1.below hb h.1.lt, h.2.trans (hb.mono h.2.size)⟩) _ ⟨hb, hB⟩ ((hA.below hB).mono hB.size))
 have HE : Hid (zs.all g = !(zs.any fun x => !g x)) := by
  show zs.all g = _
  rw [List.not_any_eq_all_not]
  simp
 have HB := zh hB
 rw [HE.out]
 clear hA HG hB hb
 generalize (zs.any fun x => !g x) = q at *
 generalize zs.length = n at *
 go_enter Tryz.func72, Tryz.ntmps72
 go_wp2_with fail
 refine HC.out.mono ?_
 rintro e w1 ⟨rfl, hb⟩
 have HB1 := zh (HB.out.trans (hb.mono HB.out.size))
 clear hb
 go_wp2_with fail
 go_ret
 exact ⟨rfl, HB1.out⟩
end
section
open Go.RowKit LX TR TM
theorem empty_no {s : ByteArray} (h : ¬ s = ⟨#[]⟩) : s.toList.isEmpty = false := by
 have h3 := NM.str_eq s ⟨#[]⟩
 rw [zF h, Lib.toList_data, Lib.toList_data] at h3
 rw [Lib.toList_data]
 cases hh : s.data.toList with
 | nil => rw [hh] at h3; simp at h3
 | cons a b => rfl
theorem empty_no2 {s : ByteArray} (h : ¬ s = ⟨#[]⟩) : ¬ s.toList = [] := fun e => by
 have h1 := empty_no h
 rw [e] at h1
 simp at h1
theorem leaf_any (z : Nd) (w : World) : Calls Tryz.prog 74 #[.agg (nv z)] w fun e w' => e = .returned (.bool (leafB z.s z.ws z.ks.length)) ∧ Below w.heap.size w w' := by
 obtain ⟨zk, zp, zs, zA, zc, zw, zBq, zd, zz⟩ := z
 have hn := RowAt.new w 28 #[.int .i64 zk, .int .i64 zp, .string zs, .slice zA zw.length zc, .slice zBq zz.length zd]
 have hB : Below w.heap.size w (w.alloc (.cells #[.int .i64 zk, .int .i64 zp, .string zs, .slice zA zw.length zc, .slice zBq zz.length zd] 28)) := (zB _ _).alloc (zL _) _
 have HB := zh hB
 have HR := zh hn
 obtain ⟨m0, m1, m2, m3, m4, _, _, _, _, _⟩ := row5 hn
 unfold nv
 simp only [Nd.k, Nd.p, Nd.s, Nd.A, Nd.c, Nd.ws, Nd.B, Nd.d, Nd.ks]
 clear hn
 have HC := zh (right_any zs (w.alloc (.cells #[.int .i64 zk, .int .i64 zp, .string zs, .slice zA zw.length zc, .slice zBq zz.length zd] 28)))
 have HX : Hid (leafB zs zw zz.length = (NM.right zs && (decide (zw.length = 0) && decide (zz.length = 0)))) := rfl
 clear hB
 rw [HX.out]
 generalize NM.right zs = r at *
 generalize zw.length = nw at *
 generalize zz.length = nz at *
 cases r
 ·go_enter Tryz.func74, Tryz.ntmps74
  go_wp2_with fail
  refine HC.out.mono ?_
  rintro e' w2 ⟨rfl, hb⟩
  have HB2 := zh (HB.out.trans (hb.mono HB.out.size))
  have hr2 := HR.out.below hb HR.out.lt
  obtain ⟨m0, m1, m2, m3, m4, _, _, _, _, _⟩ := row5 hr2
  have HR2 := zh hr2
  clear hr2
  clear hb
  go_wp2_with fail
  go_ret
  exact ⟨ret_eq (bool_eq (by rfl)), HB2.out⟩
 ·by_cases hw : nw ≤ 0
  ·by_cases hz : nz ≤ 0
   ·go_enter Tryz.func74, Tryz.ntmps74
    go_wp2_with fail
    refine HC.out.mono ?_
    rintro e' w2 ⟨rfl, hb⟩
    have HB2 := zh (HB.out.trans (hb.mono HB.out.size))
    have hr2 := HR.out.below hb HR.out.lt
    obtain ⟨m0, m1, m2, m3, m4, _, _, _, _, _⟩ := row5 hr2
    have HR2 := zh hr2
    clear hr2
    clear hb
    go_wp2_with fail
    go_ret
    exact ⟨ret_eq (bool_eq (by first | simp [show nw = 0 by omega, show nz = 0 by omega] | simp [show nw = 0 by omega, show ¬ nz = 0 by omega])), HB2.out⟩
   ·go_enter Tryz.func74, Tryz.ntmps74
    go_wp2_with fail
    refine HC.out.mono ?_
    rintro e' w2 ⟨rfl, hb⟩
    have HB2 := zh (HB.out.trans (hb.mono HB.out.size))
    have hr2 := HR.out.below hb HR.out.lt
    obtain ⟨m0, m1, m2, m3, m4, _, _, _, _, _⟩ := row5 hr2
    have HR2 := zh hr2
    clear hr2
    clear hb
    go_wp2_with fail
    go_ret
    exact ⟨ret_eq (bool_eq (by first | simp [show nw = 0 by omega, show nz = 0 by omega] | simp [show nw = 0 by omega, show ¬ nz = 0 by omega])), HB2.out⟩
  ·go_enter Tryz.func74, Tryz.ntmps74
   go_wp2_with fail
   refine HC.out.mono ?_
   rintro e' w2 ⟨rfl, hb⟩
   have HB2 := zh (HB.out.trans (hb.mono HB.out.size))
   have hr2 := HR.out.below hb HR.out.lt
   obtain ⟨m0, m1, m2, m3, m4, _, _, _, _, _⟩ := row5 hr2
   have HR2 := zh hr2
   clear hr2
   clear hb
   go_wp2_with fail
   go_ret
   exact ⟨ret_eq (bool_eq (by first | simp [show nw = 0 by omega] | simp [show ¬ nw = 0 by omega])), HB2.out⟩
theorem branch_any (z : Nd) (w : World) : Calls Tryz.prog 71 #[.agg (nv z)] w fun e w' => e = .returned (.bool (brB z.s z.ws)) ∧ Below w.heap.size w w' := by
 obtain ⟨zk, zp, zs, zA, zc, zw, zBq, zd, zz⟩ := z
 have hn := RowAt.new w 28 #[.int .i64 zk, .int .i64 zp, .string zs, .slice zA zw.length zc, .slice zBq zz.length zd]
 have hB : Below w.heap.size w (w.alloc (.cells #[.int .i64 zk, .int .i64 zp, .string zs, .slice zA zw.length zc, .slice zBq zz.length zd] 28)) := (zB _ _).alloc (zL _) _
 have HB := zh hB
 have HR := zh hn
 obtain ⟨m0, m1, m2, m3, m4, _, _, _, _, _⟩ := row5 hn
 unfold nv
 simp only [Nd.k, Nd.p, Nd.s, Nd.A, Nd.c, Nd.ws, Nd.B, Nd.d, Nd.ks]
 clear hn
 have HX : Hid (brB zs zw = (decide (zs = ⟨#[]⟩) && decide (zw.length = 0))) := rfl
 clear hB
 rw [HX.out]
 generalize zw.length = nw at *
 generalize zz.length = nz at *
 by_cases hs : zs = ⟨#[]⟩
 ·subst hs
  by_cases hw : nw ≤ 0
  ·go_enter Tryz.func71, Tryz.ntmps71
   go_wp2_with fail
   go_ret
   exact ⟨ret_eq (bool_eq (by rw [Bool.eq_iff_iff]; simp <;> omega)), HB.out⟩
  ·go_enter Tryz.func71, Tryz.ntmps71
   go_wp2_with fail
   go_ret
   exact ⟨ret_eq (bool_eq (by rw [Bool.eq_iff_iff]; simp <;> omega)), HB.out⟩
 ·have q2 := empty_no hs
  have q3 := empty_no2 hs
  go_enter Tryz.func71, Tryz.ntmps71
  go_wp2_with fail
  go_ret
  exact ⟨ret_eq (bool_eq (by simp [hs])), HB.out⟩
theorem isRule_any (z : Nd) (w : World) (hz : z.ws.length ≤ 1099511627776) (hN : Sl w w.heap.size z.A (wcs z.ws)) : Calls Tryz.prog 120 #[.agg (nv z)] w fun e w' => e = .returned (.bool (ruB z.k z.s z.ws z.ks.length)) ∧ Below w.heap.size w w' := by
 obtain ⟨zk, zp, zs, zA, zc, zw, zBq, zd, zz⟩ := z
 have hn := RowAt.new w 28 #[.int .i64 zk, .int .i64 zp, .string zs, .slice zA zw.length zc, .slice zBq zz.length zd]
 have hB : Below w.heap.size w (w.alloc (.cells #[.int .i64 zk, .int .i64 zp, .string zs, .slice zA zw.length zc, .slice zBq zz.length zd] 28)) := (zB _ _).alloc (zL _) _
 have HB := zh hB
 have HR := zh hn
 obtain ⟨m0, m1, m2, m3, m4, _, _, _, _, _⟩ := row5 hn
 unfold nv
 simp only [Nd.k, Nd.p, Nd.s, Nd.A, Nd.c, Nd.ws, Nd.B, Nd.d, Nd.ks]
 clear hn
 simp only [Nd.A, Nd.ws] at hz hN
 have HC := zh (right_any zs (w.alloc (.cells #[.int .i64 zk, .int .i64 zp, .string zs, .slice zA zw.length zc, .slice zBq zz.length zd] 28)))
 have HN := zh (fun W (h : Below w.heap.size w W) => rightNames_any zA zc zw hz W ((hN.below h).mono h.size))
 have HX : Hid (ruB zk zs zw zz.length = (decide (zk = 6) && (NM.right zs && (decide (zz.length = 0) && wrB zw)))) := rfl
 clear hB hN
 rw [HX.out]
 generalize NM.right zs = r at *
 generalize wrB zw = rw' at *
 generalize zw.length = nw at *
 generalize zz.length = nz at *
 by_cases hk : zk = 6
 ·subst hk
  cases r
  ·go_enter Tryz.func120, Tryz.ntmps120
   go_wp2_with fail
   refine HC.out.mono ?_
   rintro e' w2 ⟨rfl, hb⟩
   have HB2 := zh (HB.out.trans (hb.mono HB.out.size))
   have hr2 := HR.out.below hb HR.out.lt
   obtain ⟨m0, m1, m2, m3, m4, _, _, _, _, _⟩ := row5 hr2
   have HR2 := zh hr2
   clear hr2
   clear hb
   go_wp2_with fail
   go_ret
   exact ⟨ret_eq (bool_eq (by simp)), HB2.out⟩
  ·by_cases hz : nz ≤ 0
   ·go_enter Tryz.func120, Tryz.ntmps120
    go_wp2_with fail
    refine HC.out.mono ?_
    rintro e' w2 ⟨rfl, hb⟩
    have HB2 := zh (HB.out.trans (hb.mono HB.out.size))
    have hr2 := HR.out.below hb HR.out.lt
    obtain ⟨m0, m1, m2, m3, m4, _, _, _, _, _⟩ := row5 hr2
    have HR2 := zh hr2
    clear hr2
    clear hb
    go_wp2_with fail
    refine (HN.out _ HB2.out).mono ?_
    rintro e' w3 ⟨rfl, hb⟩
    have HB3 := zh (HB2.out.trans (hb.mono HB2.out.size))
    clear hb
    go_wp2_with fail
    go_ret
    exact ⟨ret_eq (bool_eq (by first | simp [show nz = 0 by omega] | simp [show ¬ nz = 0 by omega])), HB3.out⟩
   ·go_enter Tryz.func120, Tryz.ntmps120
    go_wp2_with fail
    refine HC.out.mono ?_
    rintro e' w2 ⟨rfl, hb⟩
    have HB2 := zh (HB.out.trans (hb.mono HB.out.size))
    have hr2 := HR.out.below hb HR.out.lt
    obtain ⟨m0, m1, m2, m3, m4, _, _, _, _, _⟩ := row5 hr2
    have HR2 := zh hr2
    clear hr2
    clear hb
    go_wp2_with fail
    go_ret
    exact ⟨ret_eq (bool_eq (by first | simp [show nz = 0 by omega] | simp [show ¬ nz = 0 by omega])), HB2.out⟩
 ·have q6 : (zk == 6) = false := by rw [beq_eq_false_iff_ne]; exact hk
  go_enter Tryz.func120, Tryz.ntmps120
  go_wp2_with fail
  go_ret
  exact ⟨ret_eq (bool_eq (by simp [hk])), HB.out⟩
end
section
open Go.RowKit LX TR TM
theorem fls_all (zz : List Nd) (g : Fl → Bool) : (fls zz).all g = zz.all (fun y => g (fl y)) := by rw [fls_map, List.all_map]; rfl
theorem isConst_step (N : Nat) (hN : N ≤ 4294967296) (ih : ∀ y, cnt [y] ≤ N → ∀ w, Nods w w.heap.size [y] → Calls Tryz.prog 106 #[.agg (nv y)] w fun e w' => e = .returned (.bool (fl y).c) ∧ Below w.heap.size w w') (z : Nd) (hz : cnt [z] ≤ N + 1) (w : World) (hnd : Nods w w.heap.size [z]) :
 Calls Tryz.prog 106 #[.agg (nv z)] w fun e w' => e = .returned (.bool (fl z).c) ∧ Below w.heap.size w w' := by
 obtain ⟨zk, zp, zs, zA, zc, zw, zBq, zd, zz⟩ := z
 have hn := RowAt.new w 28 #[.int .i64 zk, .int .i64 zp, .string zs, .slice zA zw.length zc, .slice zBq zz.length zd]
 have hB : Below w.heap.size w (w.alloc (.cells #[.int .i64 zk, .int .i64 zp, .string zs, .slice zA zw.length zc, .slice zBq zz.length zd] 28)) := (zB _ _).alloc (zL _) _
 have HB := zh hB
 have HR := zh hn
 obtain ⟨m0, m1, m2, m3, m4, _, _, _, _, _⟩ := row5 hn
 have hcz : 1 + zw.length + cnt zz ≤ N + 1 := by rw [cnt_cons] at hz; simp only [cnt, Nat.add_zero] at hz; exact hz
 have hzl := length_cnt zz
 have HSW := zh (fun W (h : Below w.heap.size w W) => (hnd.at.1.1.below h).mono h.size)
 have HSK := zh (fun W (h : Below w.heap.size w W) => (hnd.at.2.1.below h).mono h.size)
 have HLF := zh (leaf_any (.mk zk zp zs zA zc zw zBq zd zz) (w.alloc (.cells #[.int .i64 zk, .int .i64 zp, .string zs, .slice zA zw.length zc, .slice zBq zz.length zd] 28)))
 have HBR := zh (branch_any (.mk zk zp zs zA zc zw zBq zd zz) (w.alloc (.cells #[.int .i64 zk, .int .i64 zp, .string zs, .slice zA zw.length zc, .slice zBq zz.length zd] 28)))
 have HRN := zh (fun W (h : Below w.heap.size w W) => rightNames_any zA zc zw (by omega) W (HSW.out W h))
 unfold nv at HLF HBR ⊢
 simp only [Nd.k, Nd.p, Nd.s, Nd.A, Nd.c, Nd.ws, Nd.B, Nd.d, Nd.ks] at HLF HBR HSW HSK HRN ⊢
 clear hn
 have HK := zh (fun W (h : Below w.heap.size w W) => all_any (G := 106) (g := fun y => (fl y).c) (fun _ _ => by kernel_rfl) zBq zd zz (by omega) W (HSK.out W h) (fun y hy w' hw => ih y (by
  have h1 := cnt_mem hy
  rw [cnt_cons]
  simp only [cnt, Nat.add_zero]
  omega) w' (((hnd.kids.mem hy).below (h.trans (hw.mono h.size))).mono (zM h.size hw.size))))
 have HU := zh (fun W (h : Below w.heap.size w W) => all_any (G := 120) (g := fun y => (fl y).ru) (fun _ _ => by kernel_rfl) zBq zd zz (by omega) W (HSK.out W h) (fun y hy w' hw => by
  have h2 := ((hnd.kids.mem hy).below (h.trans (hw.mono h.size))).mono (zM h.size hw.size)
  have h3 := isRule_any y w' (by have h1 := cnt_mem hy; omega) h2.at.1.1
  rw [← fls_length] at h3
  exact h3))
 rw [← fls_all zz (fun y => y.c)] at HK
 rw [← fls_all zz (fun y => y.ru)] at HU
 have hfl := fls_length zz
 show Calls _ _ _ _ fun e w' => e = .returned (.bool (cB zk zs zw (fls zz))) ∧ _
 clear hB hnd ih hz
 by_cases h2 : zk = 2
 ·subst h2
  rw [show cB 2 zs zw (fls zz) = leafB zs zw zz.length by rw [← hfl]; simp [cB]]
  generalize leafB zs zw zz.length = q at *
  generalize zw.length = nw at *
  generalize zz.length = nz at *
  go_enter Tryz.func106, Tryz.ntmps106
  go_wp2_with fail
  refine HLF.out.mono ?_
  rintro e' w2 ⟨rfl, hb⟩
  have HB2 := zh (HB.out.trans (hb.mono HB.out.size))
  have hr2 := HR.out.below hb HR.out.lt
  obtain ⟨m0, m1, m2, m3, m4, _, _, _, _, _⟩ := row5 hr2
  have HR2 := zh hr2
  clear hb hr2
  go_wp2_with fail
  go_ret
  exact ⟨ret_eq (bool_eq (by rfl)), HB2.out⟩
 ·by_cases h3 : zk = 3
  ·subst h3
   rw [show cB 3 zs zw (fls zz) = (decide (zs = ⟨#[]⟩) && (decide (zz.length = 0) && wrB zw)) by rw [← hfl]; simp [cB]]
   generalize wrB zw = rr at *
   generalize zw.length = nw at *
   generalize zz.length = nz at *
   by_cases hs : zs = ⟨#[]⟩
   ·subst hs
    by_cases hnz : nz ≤ 0
    ·have qz : ((nz : Int) == 0) = true := by rw [beq_iff_eq]; omega
     have HNZ := zh hnz
     clear hnz hfl hzl hcz
     go_enter Tryz.func106, Tryz.ntmps106
     go_wp2_with fail
     refine (HRN.out _ HB.out).mono ?_
     rintro e' w2 ⟨rfl, hb⟩
     have HB2 := zh (HB.out.trans (hb.mono HB.out.size))
     have hr2 := HR.out.below hb HR.out.lt
     obtain ⟨m0, m1, m2, m3, m4, _, _, _, _, _⟩ := row5 hr2
     have HR2 := zh hr2
     clear hb hr2
     go_wp2_with fail
     go_ret
     exact ⟨ret_eq (bool_eq (by have := HNZ.out; simp [show nz = 0 by omega])), HB2.out⟩
    ·go_enter Tryz.func106, Tryz.ntmps106
     go_wp2_with fail
     go_ret
     exact ⟨ret_eq (bool_eq (by simp [show ¬ nz = 0 by omega])), HB.out⟩
   ·have p2 := empty_no hs
    have p3 := empty_no2 hs
    go_enter Tryz.func106, Tryz.ntmps106
    go_wp2_with fail
    go_ret
    exact ⟨ret_eq (bool_eq (by simp [hs])), HB.out⟩
  ·by_cases h4 : zk = 4
   ·subst h4
    rw [show cB 4 zs zw (fls zz) = (brB zs zw && (decide (0 < zz.length) && (fls zz).all (fun y => y.c))) by rw [← hfl]; simp [cB]]
    generalize brB zs zw = d at *
    generalize (fls zz).all (fun y => y.c) = rr at *
    generalize zw.length = nw at *
    generalize zz.length = nz at *
    cases d
    ·go_enter Tryz.func106, Tryz.ntmps106
     go_wp2_with fail
     refine HBR.out.mono ?_
     rintro e' w2 ⟨rfl, hb⟩
     have HB2 := zh (HB.out.trans (hb.mono HB.out.size))
     have hr2 := HR.out.below hb HR.out.lt
     obtain ⟨m0, m1, m2, m3, m4, _, _, _, _, _⟩ := row5 hr2
     have HR2 := zh hr2
     clear hb hr2
     go_wp2_with fail
     go_ret
     exact ⟨ret_eq (bool_eq (by rfl)), HB2.out⟩
    ·by_cases hnz : 0 < nz
     ·go_enter Tryz.func106, Tryz.ntmps106
      go_wp2_with fail
      refine HBR.out.mono ?_
      rintro e' w2 ⟨rfl, hb⟩
      have HB2 := zh (HB.out.trans (hb.mono HB.out.size))
      have hr2 := HR.out.below hb HR.out.lt
      obtain ⟨m0, m1, m2, m3, m4, _, _, _, _, _⟩ := row5 hr2
      have HR2 := zh hr2
      clear hb hr2
      go_wp2_with fail
      refine (HK.out _ HB2.out).mono ?_
      rintro e' w3 ⟨rfl, hb⟩
      have HB3 := zh (HB2.out.trans (hb.mono HB2.out.size))
      clear hb
      go_wp2_with fail
      go_ret
      exact ⟨ret_eq (bool_eq (by simp [hnz])), HB3.out⟩
     ·go_enter Tryz.func106, Tryz.ntmps106
      go_wp2_with fail
      refine HBR.out.mono ?_
      rintro e' w2 ⟨rfl, hb⟩
      have HB2 := zh (HB.out.trans (hb.mono HB.out.size))
      have hr2 := HR.out.below hb HR.out.lt
      obtain ⟨m0, m1, m2, m3, m4, _, _, _, _, _⟩ := row5 hr2
      have HR2 := zh hr2
      clear hb hr2
      go_wp2_with fail
      go_ret
      exact ⟨ret_eq (bool_eq (by simp [hnz])), HB2.out⟩
   ·by_cases h5 : zk = 5
    ·subst h5
     rw [show cB 5 zs zw (fls zz) = (brB zs zw && (fls zz).all (fun y => y.ru)) by simp [cB]]
     generalize brB zs zw = d at *
     generalize (fls zz).all (fun y => y.ru) = rr at *
     generalize zw.length = nw at *
     generalize zz.length = nz at *
     cases d
     ·go_enter Tryz.func106, Tryz.ntmps106
      go_wp2_with fail
      refine HBR.out.mono ?_
      rintro e' w2 ⟨rfl, hb⟩
      have HB2 := zh (HB.out.trans (hb.mono HB.out.size))
      have hr2 := HR.out.below hb HR.out.lt
      obtain ⟨m0, m1, m2, m3, m4, _, _, _, _, _⟩ := row5 hr2
      have HR2 := zh hr2
      clear hb hr2
      go_wp2_with fail
      go_ret
      exact ⟨ret_eq (bool_eq (by rfl)), HB2.out⟩
     ·go_enter Tryz.func106, Tryz.ntmps106
      go_wp2_with fail
      refine HBR.out.mono ?_
      rintro e' w2 ⟨rfl, hb⟩
      have HB2 := zh (HB.out.trans (hb.mono HB.out.size))
      have hr2 := HR.out.below hb HR.out.lt
      obtain ⟨m0, m1, m2, m3, m4, _, _, _, _, _⟩ := row5 hr2
      have HR2 := zh hr2
      clear hb hr2
      go_wp2_with fail
      refine (HU.out _ HB2.out).mono ?_
      rintro e' w3 ⟨rfl, hb⟩
      have HB3 := zh (HB2.out.trans (hb.mono HB2.out.size))
      clear hb
      go_wp2_with fail
      go_ret
      exact ⟨ret_eq (bool_eq (by rfl)), HB3.out⟩
    ·rw [show cB zk zs zw (fls zz) = false by simp [cB, h2, h3, h4, h5]]
     have q2 : (zk == 2) = false := by rw [beq_eq_false_iff_ne]; exact h2
     have q3 : (zk == 3) = false := by rw [beq_eq_false_iff_ne]; exact h3
     have q4 : (zk == 4) = false := by rw [beq_eq_false_iff_ne]; exact h4
     have q5 : (zk == 5) = false := by rw [beq_eq_false_iff_ne]; exact h5
     generalize zw.length = nw at *
     generalize zz.length = nz at *
     go_enter Tryz.func106, Tryz.ntmps106
     go_wp2_with fail
     go_ret
     exact ⟨ret_eq (bool_eq (by rfl)), HB.out⟩
theorem isConst_any : ∀ N, N ≤ 4294967296 → ∀ y, cnt [y] ≤ N → ∀ w, Nods w w.heap.size [y] → Calls Tryz.prog 106 #[.agg (nv y)] w fun e w' => e = .returned (.bool (fl y).c) ∧ Below w.heap.size w w' := by
 intro N
 induction N with
 | zero => intro _ z hz; rw [cnt_cons] at hz; omega
 | succ N ih => intro h z hz; exact isConst_step N (by omega) (ih (by omega)) z hz
end
section
open Go.RowKit LX TR TM
theorem isAtom_any (z : Nd) (hz : cnt [z] ≤ 4294967296) (w : World) (hnd : Nods w w.heap.size [z]) :
 Calls Tryz.prog 73 #[.agg (nv z)] w fun e w' => e = .returned (.bool (fl z).at') ∧ Below w.heap.size w w' := by
 obtain ⟨zk, zp, zs, zA, zc, zw, zBq, zd, zz⟩ := z
 have hn := RowAt.new w 28 #[.int .i64 zk, .int .i64 zp, .string zs, .slice zA zw.length zc, .slice zBq zz.length zd]
 have hB : Below w.heap.size w (w.alloc (.cells #[.int .i64 zk, .int .i64 zp, .string zs, .slice zA zw.length zc, .slice zBq zz.length zd] 28)) := (zB _ _).alloc (zL _) _
 have HB := zh hB
 have HR := zh hn
 obtain ⟨m0, m1, m2, m3, m4, _, _, _, _, _⟩ := row5 hn
 have hcz : 1 + zw.length + cnt zz ≤ 4294967296 := by rw [cnt_cons] at hz; simp only [cnt, Nat.add_zero] at hz; exact hz
 have hzl := length_cnt zz
 have HSW := zh (fun W (h : Below w.heap.size w W) => (hnd.at.1.1.below h).mono h.size)
 have HSK := zh (fun W (h : Below w.heap.size w W) => (hnd.at.2.1.below h).mono h.size)
 have HLF := zh (leaf_any (.mk zk zp zs zA zc zw zBq zd zz) (w.alloc (.cells #[.int .i64 zk, .int .i64 zp, .string zs, .slice zA zw.length zc, .slice zBq zz.length zd] 28)))
 have HBR := zh (branch_any (.mk zk zp zs zA zc zw zBq zd zz) (w.alloc (.cells #[.int .i64 zk, .int .i64 zp, .string zs, .slice zA zw.length zc, .slice zBq zz.length zd] 28)))
 have HRN := zh (fun W (h : Below w.heap.size w W) => rightNames_any zA zc zw (by omega) W (HSW.out W h))
 unfold nv at HLF HBR ⊢
 simp only [Nd.k, Nd.p, Nd.s, Nd.A, Nd.c, Nd.ws, Nd.B, Nd.d, Nd.ks] at HLF HBR HSW HSK HRN ⊢
 clear hn
 have HKF : Hid (∀ y ∈ zz, ∀ W, Below w.heap.size w W → Calls Tryz.prog 106 #[.agg (nv y)] W fun e w' => e = .returned (.bool (fl y).c) ∧ Below W.heap.size W w') := fun y hy W h => isConst_any 4294967296 (zL _) y (by
  have h1 := cnt_mem hy
  rw [cnt_cons]
  simp only [cnt, Nat.add_zero]
  omega) W (((hnd.kids.mem hy).below h).mono h.size)
 have hfl := fls_length zz
 show Calls _ _ _ _ fun e w' => e = .returned (.bool (atB zk zs zw (fls zz))) ∧ _
 clear hB hnd hz
 by_cases h1 : zk = 1
 ·subst h1
  rw [show atB 1 zs zw (fls zz) = leafB zs zw zz.length by rw [← hfl]; simp [atB]]
  generalize leafB zs zw zz.length = q at *
  generalize zw.length = nw at *
  generalize zz.length = nz at *
  go_enter Tryz.func73, Tryz.ntmps73
  go_wp2_with fail
  refine HLF.out.mono ?_
  rintro e' w2 ⟨rfl, hb⟩
  have HB2 := zh (HB.out.trans (hb.mono HB.out.size))
  have hr2 := HR.out.below hb HR.out.lt
  obtain ⟨m0, m1, m2, m3, m4, _, _, _, _, _⟩ := row5 hr2
  have HR2 := zh hr2
  clear hb hr2
  go_wp2_with fail
  go_ret
  exact ⟨ret_eq (bool_eq (by rfl)), HB2.out⟩
 ·by_cases h7 : zk = 7
  ·subst h7
   rw [show atB 7 zs zw (fls zz) = (brB zs zw && (decide (zz.length = 1) && ((fls zz).headD fl0).c)) by rw [← hfl]; simp [atB]]
   generalize brB zs zw = d at *
   cases d
   ·generalize zw.length = nw at *
    generalize ((fls zz).headD fl0).c = q at *
    generalize zz.length = nz at *
    go_enter Tryz.func73, Tryz.ntmps73
    go_wp2_with fail
    refine HBR.out.mono ?_
    rintro e' w2 ⟨rfl, hb⟩
    have HB2 := zh (HB.out.trans (hb.mono HB.out.size))
    have hr2 := HR.out.below hb HR.out.lt
    obtain ⟨m0, m1, m2, m3, m4, _, _, _, _, _⟩ := row5 hr2
    have HR2 := zh hr2
    clear hb hr2
    go_wp2_with fail
    go_ret
    exact ⟨ret_eq (bool_eq (by rfl)), HB2.out⟩
   ·by_cases hnz : zz.length = 1
    ·obtain ⟨x, rfl⟩ := List.length_eq_one_iff.1 hnz
     have HE : Hid (((fls [x]).headD fl0).c = (fl x).c) := by show _ = _; rw [fls_cons]; rfl
     have HC := zh (fun W (h : Below w.heap.size w W) => HKF.out x (by simp) W h)
     rw [HE.out]
     clear HE HKF hnz hfl
     generalize (fl x).c = rr at *
     obtain ⟨xk, xp, xs, xA, xc, xw, xB, xd, xx⟩ := x
     unfold nv at HC
     simp only [Nd.k, Nd.p, Nd.s, Nd.A, Nd.c, Nd.ws, Nd.B, Nd.d, Nd.ks] at HC
     simp only [zA8, zA9, Nat.zero_add] at *
     generalize zw.length = nw at *
     go_enter Tryz.func73, Tryz.ntmps73
     go_wp2_with fail
     refine HBR.out.mono ?_
     rintro e' w2 ⟨rfl, hb⟩
     have HB2 := zh (HB.out.trans (hb.mono HB.out.size))
     have hr2 := HR.out.below hb HR.out.lt
     obtain ⟨m0, m1, m2, m3, m4, _, _, _, _, _⟩ := row5 hr2
     have HR2 := zh hr2
     clear hb hr2
     obtain ⟨bb, o, hzB, hbb, hc⟩ := sl_at (z := n0) ncells_length (HSK.out w2 HB2.out) (k := 0) (by simp) (by omega)
     subst hzB
     have p0 := hc 0 0 _ (by simp) (by omega) rfl
     have p1 := hc 0 1 _ (by simp) (by omega) rfl
     have p2 := hc 0 2 _ (by simp) (by omega) rfl
     have p3 := hc 0 3 _ (by simp) (by omega) rfl
     have p4 := hc 0 4 _ (by simp) (by omega) rfl
     simp only [Nat.zero_mul, Nat.add_zero, Nat.zero_add, List.getD_cons_zero, Nd.k, Nd.p, Nd.s, Nd.A, Nd.c, Nd.ws, Nd.B, Nd.d, Nd.ks] at p0 p1 p2 p3 p4
     clear hc
     go_wp2_with fail
     refine (HC.out _ HB2.out).mono ?_
     rintro e' w3 ⟨rfl, hb⟩
     have HB3 := zh (HB2.out.trans (hb.mono HB2.out.size))
     clear hb
     go_wp2_with fail
     go_ret
     exact ⟨ret_eq (bool_eq (by rfl)), HB3.out⟩
    ·generalize zw.length = nw at *
     generalize ((fls zz).headD fl0).c = q at *
     generalize zz.length = nz at *
     go_enter Tryz.func73, Tryz.ntmps73
     go_wp2_with fail
     refine HBR.out.mono ?_
     rintro e' w2 ⟨rfl, hb⟩
     have HB2 := zh (HB.out.trans (hb.mono HB.out.size))
     have hr2 := HR.out.below hb HR.out.lt
     obtain ⟨m0, m1, m2, m3, m4, _, _, _, _, _⟩ := row5 hr2
     have HR2 := zh hr2
     clear hb hr2
     go_wp2_with fail
     go_ret
     exact ⟨ret_eq (bool_eq (by simp [hnz])), HB2.out⟩
  ·rw [show atB zk zs zw (fls zz) = false by simp [atB, h1, h7]]
   have q1 : (zk == 1) = false := by rw [beq_eq_false_iff_ne]; exact h1
   have q7 : (zk == 7) = false := by rw [beq_eq_false_iff_ne]; exact h7
   generalize zw.length = nw at *
   generalize zz.length = nz at *
   go_enter Tryz.func73, Tryz.ntmps73
   go_wp2_with fail
   go_ret
   exact ⟨ret_eq (bool_eq (by rfl)), HB.out⟩
theorem isField_any (z : Nd) (hz : cnt [z] ≤ 4294967296) (w : World) (hnd : Nods w w.heap.size [z]) :
 Calls Tryz.prog 76 #[.agg (nv z)] w fun e w' => e = .returned (.bool (fl z).fi) ∧ Below w.heap.size w w' := by
 obtain ⟨zk, zp, zs, zA, zc, zw, zBq, zd, zz⟩ := z
 have hn := RowAt.new w 28 #[.int .i64 zk, .int .i64 zp, .string zs, .slice zA zw.length zc, .slice zBq zz.length zd]
 have hB : Below w.heap.size w (w.alloc (.cells #[.int .i64 zk, .int .i64 zp, .string zs, .slice zA zw.length zc, .slice zBq zz.length zd] 28)) := (zB _ _).alloc (zL _) _
 have HB := zh hB
 have HR := zh hn
 obtain ⟨m0, m1, m2, m3, m4, _, _, _, _, _⟩ := row5 hn
 have hcz : 1 + zw.length + cnt zz ≤ 4294967296 := by rw [cnt_cons] at hz; simp only [cnt, Nat.add_zero] at hz; exact hz
 have hzl := length_cnt zz
 have HSW := zh (fun W (h : Below w.heap.size w W) => (hnd.at.1.1.below h).mono h.size)
 have HSK := zh (fun W (h : Below w.heap.size w W) => (hnd.at.2.1.below h).mono h.size)
 have HLF := zh (leaf_any (.mk zk zp zs zA zc zw zBq zd zz) (w.alloc (.cells #[.int .i64 zk, .int .i64 zp, .string zs, .slice zA zw.length zc, .slice zBq zz.length zd] 28)))
 have HBR := zh (branch_any (.mk zk zp zs zA zc zw zBq zd zz) (w.alloc (.cells #[.int .i64 zk, .int .i64 zp, .string zs, .slice zA zw.length zc, .slice zBq zz.length zd] 28)))
 have HRN := zh (fun W (h : Below w.heap.size w W) => rightNames_any zA zc zw (by omega) W (HSW.out W h))
 unfold nv at HLF HBR ⊢
 simp only [Nd.k, Nd.p, Nd.s, Nd.A, Nd.c, Nd.ws, Nd.B, Nd.d, Nd.ks] at HLF HBR HSW HSK HRN ⊢
 clear hn
 have HKF : Hid (∀ y ∈ zz, ∀ W, Below w.heap.size w W → Calls Tryz.prog 73 #[.agg (nv y)] W fun e w' => e = .returned (.bool (fl y).at') ∧ Below W.heap.size W w') := fun y hy W h => isAtom_any y (by
  have h1 := cnt_mem hy
  rw [cnt_cons]
  simp only [cnt, Nat.add_zero]
  omega) W (((hnd.kids.mem hy).below h).mono h.size)
 have HC1 := zh (right_any zs (w.alloc (.cells #[.int .i64 zk, .int .i64 zp, .string zs, .slice zA zw.length zc, .slice zBq zz.length zd] 28)))
 have hfl := fls_length zz
 show Calls _ _ _ _ fun e w' => e = .returned (.bool (fiB zk zs zw (fls zz))) ∧ _
 clear hB hnd hz
 by_cases h1 : zk = 11
 ·subst h1
  rw [show fiB 11 zs zw (fls zz) = (NM.right zs && (decide (zw.length = 0) && (decide (zz.length = 1) && ((fls zz).headD fl0).at'))) by rw [← hfl]; simp [fiB]]
  generalize NM.right zs = d at *
  cases d
  ·generalize zw.length = nw at *
   generalize ((fls zz).headD fl0).at' = q at *
   generalize zz.length = nz at *
   go_enter Tryz.func76, Tryz.ntmps76
   go_wp2_with fail
   refine HC1.out.mono ?_
   rintro e' w2 ⟨rfl, hb⟩
   have HB2 := zh (HB.out.trans (hb.mono HB.out.size))
   have hr2 := HR.out.below hb HR.out.lt
   obtain ⟨m0, m1, m2, m3, m4, _, _, _, _, _⟩ := row5 hr2
   have HR2 := zh hr2
   clear hb hr2
   go_wp2_with fail
   go_ret
   exact ⟨ret_eq (bool_eq (by rfl)), HB2.out⟩
  ·by_cases hnw : zw.length ≤ 0
   ·by_cases hnz : zz.length = 1
    ·obtain ⟨x, rfl⟩ := List.length_eq_one_iff.1 hnz
     have HE : Hid (((fls [x]).headD fl0).at' = (fl x).at') := by show _ = _; rw [fls_cons]; rfl
     have HC := zh (fun W (h : Below w.heap.size w W) => HKF.out x (by simp) W h)
     rw [HE.out]
     clear HE HKF hnz hfl
     generalize (fl x).at' = rr at *
     obtain ⟨xk, xp, xs, xA, xc, xw, xB, xd, xx⟩ := x
     unfold nv at HC
     simp only [Nd.k, Nd.p, Nd.s, Nd.A, Nd.c, Nd.ws, Nd.B, Nd.d, Nd.ks] at HC
     simp only [zA8, zA9, Nat.zero_add] at *
     generalize zw.length = nw at *
     go_enter Tryz.func76, Tryz.ntmps76
     go_wp2_with fail
     refine HC1.out.mono ?_
     rintro e' w2 ⟨rfl, hb⟩
     have HB2 := zh (HB.out.trans (hb.mono HB.out.size))
     have hr2 := HR.out.below hb HR.out.lt
     obtain ⟨m0, m1, m2, m3, m4, _, _, _, _, _⟩ := row5 hr2
     have HR2 := zh hr2
     clear hb hr2
     obtain ⟨bb, o, hzB, hbb, hc⟩ := sl_at (z := n0) ncells_length (HSK.out w2 HB2.out) (k := 0) (by simp) (by omega)
     subst hzB
     have p0 := hc 0 0 _ (by simp) (by omega) rfl
     have p1 := hc 0 1 _ (by simp) (by omega) rfl
     have p2 := hc 0 2 _ (by simp) (by omega) rfl
     have p3 := hc 0 3 _ (by simp) (by omega) rfl
     have p4 := hc 0 4 _ (by simp) (by omega) rfl
     simp only [Nat.zero_mul, Nat.add_zero, Nat.zero_add, List.getD_cons_zero, Nd.k, Nd.p, Nd.s, Nd.A, Nd.c, Nd.ws, Nd.B, Nd.d, Nd.ks] at p0 p1 p2 p3 p4
     clear hc
     go_wp2_with fail
     refine (HC.out _ HB2.out).mono ?_
     rintro e' w3 ⟨rfl, hb⟩
     have HB3 := zh (HB2.out.trans (hb.mono HB2.out.size))
     clear hb
     go_wp2_with fail
     go_ret
     exact ⟨ret_eq (bool_eq (by simp [show nw = 0 by omega])), HB3.out⟩
    ·generalize zw.length = nw at *
     generalize ((fls zz).headD fl0).at' = q at *
     generalize zz.length = nz at *
     go_enter Tryz.func76, Tryz.ntmps76
     go_wp2_with fail
     refine HC1.out.mono ?_
     rintro e' w2 ⟨rfl, hb⟩
     have HB2 := zh (HB.out.trans (hb.mono HB.out.size))
     have hr2 := HR.out.below hb HR.out.lt
     obtain ⟨m0, m1, m2, m3, m4, _, _, _, _, _⟩ := row5 hr2
     have HR2 := zh hr2
     clear hb hr2
     go_wp2_with fail
     go_ret
     exact ⟨ret_eq (bool_eq (by simp [hnz])), HB2.out⟩
   ·generalize zw.length = nw at *
    generalize ((fls zz).headD fl0).at' = q at *
    generalize zz.length = nz at *
    go_enter Tryz.func76, Tryz.ntmps76
    go_wp2_with fail
    refine HC1.out.mono ?_
    rintro e' w2 ⟨rfl, hb⟩
    have HB2 := zh (HB.out.trans (hb.mono HB.out.size))
    have hr2 := HR.out.below hb HR.out.lt
    obtain ⟨m0, m1, m2, m3, m4, _, _, _, _, _⟩ := row5 hr2
    have HR2 := zh hr2
    clear hb hr2
    go_wp2_with fail
    go_ret
    exact ⟨ret_eq (bool_eq (by simp [show ¬ nw = 0 by omega])), HB2.out⟩
 ·rw [show fiB zk zs zw (fls zz) = false by simp [fiB, h1]]
  have q1 : (zk == 11) = false := by rw [beq_eq_false_iff_ne]; exact h1
  generalize zw.length = nw at *
  generalize zz.length = nz at *
  go_enter Tryz.func76, Tryz.ntmps76
  go_wp2_with fail
  go_ret
  exact ⟨ret_eq (bool_eq (by rfl)), HB.out⟩
end
section
open Go.RowKit LX TR TM
theorem isRow_any (z : Nd) (hz : cnt [z] ≤ 4294967296) (w : World) (hnd : Nods w w.heap.size [z]) :
 Calls Tryz.prog 40 #[.agg (nv z)] w fun e w' => e = .returned (.bool (fl z).r) ∧ Below w.heap.size w w' := by
 obtain ⟨zk, zp, zs, zA, zc, zw, zBq, zd, zz⟩ := z
 have hn := RowAt.new w 28 #[.int .i64 zk, .int .i64 zp, .string zs, .slice zA zw.length zc, .slice zBq zz.length zd]
 have hB : Below w.heap.size w (w.alloc (.cells #[.int .i64 zk, .int .i64 zp, .string zs, .slice zA zw.length zc, .slice zBq zz.length zd] 28)) := (zB _ _).alloc (zL _) _
 have HB := zh hB
 have HR := zh hn
 obtain ⟨m0, m1, m2, m3, m4, _, _, _, _, _⟩ := row5 hn
 have hcz : 1 + zw.length + cnt zz ≤ 4294967296 := by rw [cnt_cons] at hz; simp only [cnt, Nat.add_zero] at hz; exact hz
 have hzl := length_cnt zz
 have HSW := zh (fun W (h : Below w.heap.size w W) => (hnd.at.1.1.below h).mono h.size)
 have HSK := zh (fun W (h : Below w.heap.size w W) => (hnd.at.2.1.below h).mono h.size)
 have HLF := zh (leaf_any (.mk zk zp zs zA zc zw zBq zd zz) (w.alloc (.cells #[.int .i64 zk, .int .i64 zp, .string zs, .slice zA zw.length zc, .slice zBq zz.length zd] 28)))
 have HBR := zh (branch_any (.mk zk zp zs zA zc zw zBq zd zz) (w.alloc (.cells #[.int .i64 zk, .int .i64 zp, .string zs, .slice zA zw.length zc, .slice zBq zz.length zd] 28)))
 have HRN := zh (fun W (h : Below w.heap.size w W) => rightNames_any zA zc zw (by omega) W (HSW.out W h))
 unfold nv at HLF HBR ⊢
 simp only [Nd.k, Nd.p, Nd.s, Nd.A, Nd.c, Nd.ws, Nd.B, Nd.d, Nd.ks] at HLF HBR HSW HSK HRN ⊢
 clear hn
 have HK := zh (fun W (h : Below w.heap.size w W) => all_any (G := 76) (g := fun y => (fl y).fi) (fun _ _ => by kernel_rfl) zBq zd zz (by omega) W (HSK.out W h) (fun y hy w' hw => isField_any y (by
  have h1 := cnt_mem hy
  rw [cnt_cons]
  simp only [cnt, Nat.add_zero]
  omega) w' (((hnd.kids.mem hy).below (h.trans (hw.mono h.size))).mono (zM h.size hw.size))))
 rw [← fls_all zz (fun y => y.fi)] at HK
 have hfl := fls_length zz
 show Calls _ _ _ _ fun e w' => e = .returned (.bool (rB zk zs zw (fls zz))) ∧ _
 clear hB hnd hz
 by_cases h1 : zk = 1
 ·subst h1
  rw [show rB 1 zs zw (fls zz) = leafB zs zw zz.length by rw [← hfl]; simp [rB]]
  generalize leafB zs zw zz.length = q at *
  generalize zw.length = nw at *
  generalize zz.length = nz at *
  go_enter Tryz.func40, Tryz.ntmps40
  go_wp2_with fail
  refine HLF.out.mono ?_
  rintro e' w2 ⟨rfl, hb⟩
  have HB2 := zh (HB.out.trans (hb.mono HB.out.size))
  have hr2 := HR.out.below hb HR.out.lt
  obtain ⟨m0, m1, m2, m3, m4, _, _, _, _, _⟩ := row5 hr2
  have HR2 := zh hr2
  clear hb hr2
  go_wp2_with fail
  go_ret
  exact ⟨ret_eq (bool_eq (by rfl)), HB2.out⟩
 ·by_cases h10 : zk = 10
  ·subst h10
   rw [show rB 10 zs zw (fls zz) = (decide (zs = ⟨#[]⟩) && (decide (zw.length ≤ 1) && (wrB zw && (fls zz).all (fun y => y.fi)))) by simp [rB]]
   generalize wrB zw = rr at *
   generalize (fls zz).all (fun y => y.fi) = ff at *
   generalize zw.length = nw at *
   generalize zz.length = nz at *
   by_cases hs : zs = ⟨#[]⟩
   ·subst hs
    by_cases hnw : nw ≤ 1
    ·cases rr
     ·go_enter Tryz.func40, Tryz.ntmps40
      go_wp2_with fail
      refine (HRN.out _ HB.out).mono ?_
      rintro e' w2 ⟨rfl, hb⟩
      have HB2 := zh (HB.out.trans (hb.mono HB.out.size))
      have hr2 := HR.out.below hb HR.out.lt
      obtain ⟨m0, m1, m2, m3, m4, _, _, _, _, _⟩ := row5 hr2
      have HR2 := zh hr2
      clear hb hr2
      go_wp2_with fail
      go_ret
      exact ⟨ret_eq (bool_eq (by simp [hnw])), HB2.out⟩
     ·go_enter Tryz.func40, Tryz.ntmps40
      go_wp2_with fail
      refine (HRN.out _ HB.out).mono ?_
      rintro e' w2 ⟨rfl, hb⟩
      have HB2 := zh (HB.out.trans (hb.mono HB.out.size))
      have hr2 := HR.out.below hb HR.out.lt
      obtain ⟨m0, m1, m2, m3, m4, _, _, _, _, _⟩ := row5 hr2
      have HR2 := zh hr2
      clear hb hr2
      go_wp2_with fail
      refine (HK.out _ HB2.out).mono ?_
      rintro e' w3 ⟨rfl, hb⟩
      have HB3 := zh (HB2.out.trans (hb.mono HB2.out.size))
      clear hb
      go_wp2_with fail
      go_ret
      exact ⟨ret_eq (bool_eq (by simp [hnw])), HB3.out⟩
    ·go_enter Tryz.func40, Tryz.ntmps40
     go_wp2_with fail
     go_ret
     exact ⟨ret_eq (bool_eq (by simp [hnw])), HB.out⟩
   ·have p2 := empty_no hs
    have p3 := empty_no2 hs
    go_enter Tryz.func40, Tryz.ntmps40
    go_wp2_with fail
    go_ret
    exact ⟨ret_eq (bool_eq (by simp [hs])), HB.out⟩
  ·rw [show rB zk zs zw (fls zz) = false by simp [rB, h1, h10]]
   have q1 : (zk == 1) = false := by rw [beq_eq_false_iff_ne]; exact h1
   have q10 : (zk == 10) = false := by rw [beq_eq_false_iff_ne]; exact h10
   generalize zw.length = nw at *
   generalize zz.length = nz at *
   go_enter Tryz.func40, Tryz.ntmps40
   go_wp2_with fail
   go_ret
   exact ⟨ret_eq (bool_eq (by rfl)), HB.out⟩
theorem isLabel_step (N : Nat) (hN : N < 4294967296) (ih : ∀ y, cnt [y] ≤ N → ∀ w, Nods w w.heap.size [y] → Calls Tryz.prog 39 #[.agg (nv y)] w fun e w' => e = .returned (.bool (fl y).l) ∧ Below w.heap.size w w') (z : Nd) (hz : cnt [z] ≤ N + 1) (w : World) (hnd : Nods w w.heap.size [z]) :
 Calls Tryz.prog 39 #[.agg (nv z)] w fun e w' => e = .returned (.bool (fl z).l) ∧ Below w.heap.size w w' := by
 obtain ⟨zk, zp, zs, zA, zc, zw, zBq, zd, zz⟩ := z
 have hn := RowAt.new w 28 #[.int .i64 zk, .int .i64 zp, .string zs, .slice zA zw.length zc, .slice zBq zz.length zd]
 have hB : Below w.heap.size w (w.alloc (.cells #[.int .i64 zk, .int .i64 zp, .string zs, .slice zA zw.length zc, .slice zBq zz.length zd] 28)) := (zB _ _).alloc (zL _) _
 have HB := zh hB
 have HR := zh hn
 obtain ⟨m0, m1, m2, m3, m4, _, _, _, _, _⟩ := row5 hn
 have hcz : 1 + zw.length + cnt zz ≤ N + 1 := by rw [cnt_cons] at hz; simp only [cnt, Nat.add_zero] at hz; exact hz
 have hzl := length_cnt zz
 have HSW := zh (fun W (h : Below w.heap.size w W) => (hnd.at.1.1.below h).mono h.size)
 have HSK := zh (fun W (h : Below w.heap.size w W) => (hnd.at.2.1.below h).mono h.size)
 have HLF := zh (leaf_any (.mk zk zp zs zA zc zw zBq zd zz) (w.alloc (.cells #[.int .i64 zk, .int .i64 zp, .string zs, .slice zA zw.length zc, .slice zBq zz.length zd] 28)))
 have HBR := zh (branch_any (.mk zk zp zs zA zc zw zBq zd zz) (w.alloc (.cells #[.int .i64 zk, .int .i64 zp, .string zs, .slice zA zw.length zc, .slice zBq zz.length zd] 28)))
 have HRN := zh (fun W (h : Below w.heap.size w W) => rightNames_any zA zc zw (by omega) W (HSW.out W h))
 unfold nv at HLF HBR ⊢
 simp only [Nd.k, Nd.p, Nd.s, Nd.A, Nd.c, Nd.ws, Nd.B, Nd.d, Nd.ks] at HLF HBR HSW HSK HRN ⊢
 clear hn
 have HK := zh (fun W (h : Below w.heap.size w W) => all_any (G := 39) (g := fun y => (fl y).l) (fun _ _ => by kernel_rfl) zBq zd zz (by omega) W (HSK.out W h) (fun y hy w' hw => ih y (by
  have h1 := cnt_mem hy
  rw [cnt_cons]
  simp only [cnt, Nat.add_zero]
  omega) w' (((hnd.kids.mem hy).below (h.trans (hw.mono h.size))).mono (zM h.size hw.size))))
 rw [← fls_all zz (fun y => y.l)] at HK
 have HAT : Hid (∀ W, Below w.heap.size w W → Calls Tryz.prog 73 #[.agg #[.int .i64 zk, .int .i64 zp, .string zs, .slice zA zw.length zc, .slice zBq zz.length zd]] W fun e w' => e = .returned (.bool (atB zk zs zw (fls zz))) ∧ Below W.heap.size W w') := fun W h => isAtom_any (.mk zk zp zs zA zc zw zBq zd zz) (by omega) W ((hnd.below h).mono h.size)
 have hfl := fls_length zz
 show Calls _ _ _ _ fun e w' => e = .returned (.bool (lB zk zs zw (fls zz))) ∧ _
 clear hB hnd ih hz
 by_cases h8 : zk = 8
 ·subst h8
  rw [show lB 8 zs zw (fls zz) = (brB zs zw && (decide (0 < zz.length) && (fls zz).all (fun y => y.l))) by rw [← hfl]; simp [lB]]
  generalize brB zs zw = d at *
  generalize (fls zz).all (fun y => y.l) = rr at *
  generalize zw.length = nw at *
  generalize zz.length = nz at *
  cases d
  ·go_enter Tryz.func39, Tryz.ntmps39
   go_wp2_with fail
   refine HBR.out.mono ?_
   rintro e' w2 ⟨rfl, hb⟩
   have HB2 := zh (HB.out.trans (hb.mono HB.out.size))
   have hr2 := HR.out.below hb HR.out.lt
   obtain ⟨m0, m1, m2, m3, m4, _, _, _, _, _⟩ := row5 hr2
   have HR2 := zh hr2
   clear hb hr2
   go_wp2_with fail
   go_ret
   exact ⟨ret_eq (bool_eq (by rfl)), HB2.out⟩
  ·by_cases hnz : 0 < nz
   ·go_enter Tryz.func39, Tryz.ntmps39
    go_wp2_with fail
    refine HBR.out.mono ?_
    rintro e' w2 ⟨rfl, hb⟩
    have HB2 := zh (HB.out.trans (hb.mono HB.out.size))
    have hr2 := HR.out.below hb HR.out.lt
    obtain ⟨m0, m1, m2, m3, m4, _, _, _, _, _⟩ := row5 hr2
    have HR2 := zh hr2
    clear hb hr2
    go_wp2_with fail
    refine (HK.out _ HB2.out).mono ?_
    rintro e' w3 ⟨rfl, hb⟩
    have HB3 := zh (HB2.out.trans (hb.mono HB2.out.size))
    clear hb
    go_wp2_with fail
    go_ret
    exact ⟨ret_eq (bool_eq (by simp [hnz])), HB3.out⟩
   ·go_enter Tryz.func39, Tryz.ntmps39
    go_wp2_with fail
    refine HBR.out.mono ?_
    rintro e' w2 ⟨rfl, hb⟩
    have HB2 := zh (HB.out.trans (hb.mono HB.out.size))
    have hr2 := HR.out.below hb HR.out.lt
    obtain ⟨m0, m1, m2, m3, m4, _, _, _, _, _⟩ := row5 hr2
    have HR2 := zh hr2
    clear hb hr2
    go_wp2_with fail
    go_ret
    exact ⟨ret_eq (bool_eq (by simp [hnz])), HB2.out⟩
 ·by_cases h9 : zk = 9
  ·subst h9
   rw [show lB 9 zs zw (fls zz) = (brB zs zw && (decide (0 < zz.length) && (fls zz).all (fun y => y.l))) by rw [← hfl]; simp [lB]]
   generalize brB zs zw = d at *
   generalize (fls zz).all (fun y => y.l) = rr at *
   generalize zw.length = nw at *
   generalize zz.length = nz at *
   cases d
   ·go_enter Tryz.func39, Tryz.ntmps39
    go_wp2_with fail
    refine HBR.out.mono ?_
    rintro e' w2 ⟨rfl, hb⟩
    have HB2 := zh (HB.out.trans (hb.mono HB.out.size))
    have hr2 := HR.out.below hb HR.out.lt
    obtain ⟨m0, m1, m2, m3, m4, _, _, _, _, _⟩ := row5 hr2
    have HR2 := zh hr2
    clear hb hr2
    go_wp2_with fail
    go_ret
    exact ⟨ret_eq (bool_eq (by rfl)), HB2.out⟩
   ·by_cases hnz : 0 < nz
    ·go_enter Tryz.func39, Tryz.ntmps39
     go_wp2_with fail
     refine HBR.out.mono ?_
     rintro e' w2 ⟨rfl, hb⟩
     have HB2 := zh (HB.out.trans (hb.mono HB.out.size))
     have hr2 := HR.out.below hb HR.out.lt
     obtain ⟨m0, m1, m2, m3, m4, _, _, _, _, _⟩ := row5 hr2
     have HR2 := zh hr2
     clear hb hr2
     go_wp2_with fail
     refine (HK.out _ HB2.out).mono ?_
     rintro e' w3 ⟨rfl, hb⟩
     have HB3 := zh (HB2.out.trans (hb.mono HB2.out.size))
     clear hb
     go_wp2_with fail
     go_ret
     exact ⟨ret_eq (bool_eq (by simp [hnz])), HB3.out⟩
    ·go_enter Tryz.func39, Tryz.ntmps39
     go_wp2_with fail
     refine HBR.out.mono ?_
     rintro e' w2 ⟨rfl, hb⟩
     have HB2 := zh (HB.out.trans (hb.mono HB.out.size))
     have hr2 := HR.out.below hb HR.out.lt
     obtain ⟨m0, m1, m2, m3, m4, _, _, _, _, _⟩ := row5 hr2
     have HR2 := zh hr2
     clear hb hr2
     go_wp2_with fail
     go_ret
     exact ⟨ret_eq (bool_eq (by simp [hnz])), HB2.out⟩
  ·rw [show lB zk zs zw (fls zz) = atB zk zs zw (fls zz) by simp [lB, h8, h9]]
   have q8 : (zk == 8) = false := by rw [beq_eq_false_iff_ne]; exact h8
   have q9 : (zk == 9) = false := by rw [beq_eq_false_iff_ne]; exact h9
   generalize atB zk zs zw (fls zz) = q at *
   generalize zw.length = nw at *
   generalize zz.length = nz at *
   go_enter Tryz.func39, Tryz.ntmps39
   go_wp2_with fail
   refine (HAT.out _ HB.out).mono ?_
   rintro e' w2 ⟨rfl, hb⟩
   have HB2 := zh (HB.out.trans (hb.mono HB.out.size))
   have hr2 := HR.out.below hb HR.out.lt
   obtain ⟨m0, m1, m2, m3, m4, _, _, _, _, _⟩ := row5 hr2
   have HR2 := zh hr2
   clear hb hr2
   go_wp2_with fail
   go_ret
   exact ⟨ret_eq (bool_eq (by rfl)), HB2.out⟩
theorem isLabel_any : ∀ N, N ≤ 4294967296 → ∀ y, cnt [y] ≤ N → ∀ w, Nods w w.heap.size [y] → Calls Tryz.prog 39 #[.agg (nv y)] w fun e w' => e = .returned (.bool (fl y).l) ∧ Below w.heap.size w w' := by
 intro N
 induction N with
 | zero => intro _ z hz; rw [cnt_cons] at hz; omega
 | succ N ih => intro h z hz; exact isLabel_step N (by omega) (ih (by omega)) z hz
end
end Go.Proofs.YtmffnkfohmbbeaaGreatDoor
