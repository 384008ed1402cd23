/- Texts that all the claims need. Conditions: those that each states. -/
import Derived.Lib.BufferKept
import Derived.Test.YtnfndapgcpdcpaaGreatDoorFa20
import Derived.Test.YtnfndapgcpdcpaaGreatDoorFa21
import Derived.Test.YtnfndapgcpdcpaaGreatDoorFa22
set_option linter.unusedSimpArgs false
set_option linter.unusedVariables false
set_option maxRecDepth 100000
set_option maxHeartbeats 40000000
namespace Go.Proofs.YtnfndapgcpdcpaaGreatDoor
section
namespace TM
open LX TR
def jt : List (List UInt8) → List UInt8
 | [] => []
 | x :: r => 44 :: (x ++ jt r)
def jc : List (List UInt8) → List UInt8
 | [] => []
 | x :: r => x ++ jt r
theorem jt_append (a b : List (List UInt8)) : jt (a ++ b) = jt a ++ jt b := by
 induction a with
 | nil => rfl
 | cons x a ih => simp [jt, ih]
theorem jc_take {l : List (List UInt8)} {i : Nat} (h : i < l.length) : jc (l.take (i + 1)) = jc (l.take i) ++ (if 0 < i then 44 :: l.getD i [] else l.getD i []) := by
 cases l with
 | nil => simp at h
 | cons x r =>
   cases i with
   | zero => simp [jc, jt]
   | succ i =>
     have hi : i < r.length := by simpa using h
     rw [if_pos (Nat.succ_pos i), List.take_succ_cons, List.take_succ_cons, jc, jc]
     have h2 : r.take (i + 1) = r.take i ++ [r.getD i []] := by
        rw [List.getD_eq_getElem?_getD, List.getElem?_eq_getElem hi, Option.getD_some]
        exact List.take_succ_eq_append_getElem hi
     rw [h2, jt_append]
     simp [jt]
theorem jc_le (l : List (List UInt8)) (i : Nat) : (jc (l.take i)).length ≤ (jc l).length := by
 have ht : ∀ (r : List (List UInt8)) (i : Nat), (jt (r.take i)).length ≤ (jt r).length := fun r i => by
  have h := congrArg List.length (jt_append (r.take i) (r.drop i))
  rw [List.take_append_drop, zA7] at h
  omega
 cases l with
 | nil => simp [jc]
 | cons x r =>
   cases i with
   | zero => simp [jc]
   | succ i =>
     rw [List.take_succ_cons, jc, jc, zA7, zA7]
     have := ht r i
     omega
def tx1 (k : Int) (s : List UInt8) (ws ks : List (List UInt8)) : List UInt8 :=
 if k = 1 ∨ k = 2 then s
 else if k = 7 then 35 :: ks.headD []
 else if k = 11 then s ++ 61 :: ks.headD []
 else if k = 4 then 40 :: (jc ks ++ [41])
 else if k = 8 then 43 :: 40 :: (jc ks ++ [41])
 else if k = 9 then 38 :: 40 :: (jc ks ++ [41])
 else if k = 5 then 91 :: (jc ks ++ [93])
 else if k = 3 then 123 :: (jc ws ++ [125])
 else if k = 6 then s ++ 58 :: 123 :: (jc ws ++ [125])
 else if k = 10 then 91 :: (jc ks ++ (if ws = [] then [93] else 124 :: (jc ws ++ [93])))
 else []
def wtx (ws : List Wd) : List (List UInt8) := ws.map fun x => lst x.s
def txs : List Nd → List (List UInt8)
 | [] => []
 | .mk k _ s _ _ ws _ _ ks :: r => tx1 k (lst s) (wtx ws) (txs ks) :: txs r
def tx (x : Nd) : List UInt8 := tx1 x.k (lst x.s) (wtx x.ws) (txs x.ks)
theorem txs_cons (x : Nd) (r : List Nd) : txs (x :: r) = tx x :: txs r := by cases x; rw [txs]; rfl
theorem txs_map (l : List Nd) : txs l = l.map tx := by
 induction l with
 | nil => simp [txs]
 | cons x r ih => rw [txs_cons, ih]; rfl
def cnt : List Nd → Nat
 | [] => 0
 | .mk _ _ _ _ _ ws _ _ ks :: r => 1 + ws.length + cnt ks + cnt r
theorem cnt_cons (x : Nd) (r : List Nd) : cnt (x :: r) = 1 + x.ws.length + cnt x.ks + cnt r := by cases x; rw [cnt]; rfl
theorem cnt_mem {l : List Nd} {x : Nd} (h : x ∈ l) : 1 + x.ws.length + cnt x.ks ≤ cnt l := by
 induction l with
 | nil => cases h
 | cons y l ih =>
   rw [cnt_cons]
   rcases List.mem_cons.1 h with rfl | h
   ·omega
   ·have := ih h; omega
theorem length_cnt (l : List Nd) : l.length ≤ cnt l := by
 induction l with
 | nil => simp
 | cons x l ih => rw [cnt_cons, zA8]; omega
theorem txs_er : ∀ l, txs (TM.er l) = txs l := by
 refine ind (by simp [TM.er]) fun k p s A c ws B d ks r h1 h2 => ?_
 rw [TM.er_cons, txs_cons, txs_cons, h2]
 congr 1
 show tx1 k (lst s) (wtx ws) (txs (TM.er ks)) = tx1 k (lst s) (wtx ws) (txs ks)
 rw [h1]
theorem tx_er (x : Nd) : tx (er1 x) = tx x := by
 have h := txs_er [x]
 rw [er_one, txs_cons, txs_cons] at h
 exact (List.cons.inj h).1
theorem cnt_er : ∀ l, cnt (TM.er l) = cnt l := by
 refine ind (by simp [TM.er]) fun k p s A c ws B d ks r h1 h2 => ?_
 rw [TM.er_cons, cnt_cons, cnt_cons, h2]
 show 1 + ws.length + cnt (TM.er ks) + _ = _
 rw [h1]; rfl
end TM
open Go.RowKit LX TR TM
abbrev Bld (w : World) (B b : Nat) (t : List UInt8) : Prop := Lib.IsBuilder 144 5 B b (Lib.byteCells t) w
def Writes (F : FuncId) (v : Value) (t : List UInt8) (K : World → Nat → Prop) : Prop :=
 ∀ (w : World) (B b : Nat) (acc : List UInt8), Bld w B b acc → B ≤ w.heap.size → acc.length + t.length ≤ 140737488355328 → K w B →
   Calls Tryz.prog F #[.pointer (some ⟨b, 0, none⟩), v] w fun e w' => e = .returned (.tuple #[]) ∧ Bld w' B b (acc ++ t) ∧ Below B w w' ∧ Lib.OthersKept 5 (some b) w w'
theorem wstr_any {w : World} {B b : Nat} {acc : List UInt8} (s : ByteArray) (h : Bld w B b acc) (hB : B ≤ w.heap.size) (hl : acc.length + s.size ≤ 140737488355328) :
 Calls Tryz.prog 115 #[.pointer (some ⟨b, 0, none⟩), .string s] w fun e w' => e = .returned (.tuple #[.int .i64 s.size, .nilIface]) ∧ Bld w' B b (acc ++ lst s) ∧ Below B w w' ∧ Lib.OthersKept 5 (some b) w w' :=
 (writeString_any B b _ s w h (by rw [Lib.byteCells_length]; exact hl) hB).mono fun e w' ⟨h1, h2, h3, h4⟩ => ⟨h1, by show Lib.IsBuilder _ _ _ _ (Lib.byteCells (acc ++ lst s)) _; rw [← str_cells]; exact .inr h2, h3, h4⟩
theorem wbyte_any {w : World} {B b : Nat} {acc : List UInt8} (c : UInt8) (h : Bld w B b acc) (hB : B ≤ w.heap.size) (hl : acc.length + 1 ≤ 140737488355328) :
 Calls Tryz.prog 142 #[.pointer (some ⟨b, 0, none⟩), .int .u8 (c.toNat : Int)] w fun e w' => e = .returned .nilIface ∧ Bld w' B b (acc ++ [c]) ∧ Below B w w' ∧ Lib.OthersKept 5 (some b) w w' :=
 (writeByte_any B b _ _ w h (by rw [Lib.byteCells_length]; exact hl) hB).mono fun e w' ⟨h1, h2, h3, h4⟩ => ⟨h1, by show Lib.IsBuilder _ _ _ _ (Lib.byteCells (acc ++ [c])) _; rw [← byte_cells]; exact .inr h2, h3, h4⟩
theorem writeName_any (x : Wd) (K : World → Nat → Prop) : Writes 146 (.agg (wv x)) (lst x.s) K := by
 intro w B b acc h hB hl _
 have hb := bld_lt h
 have HB1 := zh (bld_below h ((zB _ _).alloc (zL _) (.cells (wv x) 177)))
 have HL : Hid (acc.length + x.s.size ≤ 140737488355328) := by rw [← lst_length]; exact zh hl
 have hn := RowAt.new w 177 #[.string x.s, .int .i64 x.p]
 obtain ⟨m0, m1, _, _⟩ := row2 hn
 clear h hn
 unfold wv at HB1 ⊢
 go_enter Tryz.func146, Tryz.ntmps146
 go_wp2_with fail
 refine (wstr_any x.s HB1.out (by simp; omega) HL.out).mono ?_
 rintro e w1 ⟨rfl, h1, h2, h3⟩
 have H1 := zh h1
 have H2 : Hid (Below B w w1) := ((zB B w).alloc hB _).trans h2
 have H3 : Hid (Lib.OthersKept 5 (some b) w w1) := ((Lib.OthersKept.refl _ _ w).alloc _).trans h3
 clear h1 h2 h3
 go_wp2_with fail
 go_end0
 exact ⟨rfl, H1.out, H2.out, H3.out⟩
end
section
open Go.RowKit LX TR TM
theorem wlistW_any {F : FuncId} {f : Wd → List UInt8} {KK : World → Nat → Prop} (hf : ∀ args w, (callFunc F args).run Tryz.prog w = .ok (.enter F args) w) (A : Option Addr) (c : Nat) (zs : List Wd) (hn : zs.length ≤ 1099511627776)
 (HF : ∀ z ∈ zs, Writes F (.agg (wv z)) (f z) KK) (hKK : ∀ wa wb B, KK wa B → Below B wa wb → KK wb B) (before after : ByteArray)
 (w : World) (B b : Nat) (acc : List UInt8) (h : Bld w B b acc) (hB : B ≤ w.heap.size) (hl : acc.length + (lst before ++ (jc (zs.map f) ++ lst after)).length ≤ 140737488355328) (hk : KK w B) (hA : Sl w B A (wcs zs)) :
 Calls Tryz.prog 145 #[.pointer (some ⟨b, 0, none⟩), .string before, .slice A zs.length c, .func (.func F) #[] #[], .string after] w fun e w' => e = .returned (.tuple #[]) ∧ Bld w' B b (acc ++ (lst before ++ (jc (zs.map f) ++ lst after))) ∧ Below B w w' ∧ Lib.OthersKept 5 (some b) w w' := by
 rw [zA7, zA7, lst_length, lst_length] at hl
 have HC0 := zh (wstr_any before h hB (by omega))
 have HA := zh hA; clear hA
 have HKW := zh hk; clear hk
 have HKK := zh hKK; clear hKK
 have HFF : Hid (∀ i, i < zs.length → Writes F (.agg (wv (zs.getD i w0))) (f (zs.getD i w0)) KK) := fun i hi => HF _ (by
  rw [List.getD_eq_getElem?_getD, List.getElem?_eq_getElem hi]
  exact List.getElem_mem hi)
 clear HF
 have HTK : Hid (∀ i, i < zs.length → jc ((zs.map f).take (i + 1)) = jc ((zs.map f).take i) ++ (if 0 < i then 44 :: f (zs.getD i w0) else f (zs.getD i w0))) := fun i hi => by
  have h1 := jc_take (l := zs.map f) (i := i) (by simpa using hi)
  rw [show (zs.map f).getD i [] = f (zs.getD i w0) by
   rw [List.getD_eq_getElem?_getD, List.getD_eq_getElem?_getD, List.getElem?_map, List.getElem?_eq_getElem hi]; rfl] at h1
  exact h1
 have HLE : Hid (∀ i, (jc ((zs.map f).take i)).length ≤ (jc (zs.map f)).length) := jc_le _
 have HEN : Hid (jc ((zs.map f).take zs.length) = jc (zs.map f)) := by
  show jc _ = _
  rw [List.take_of_length_le (by simp)]
 have HJ0 : Hid (jc ((zs.map f).take 0) = []) := by rw [List.take_zero]; exact zh rfl
 have hb := bld_lt h
 generalize hJ : jc (zs.map f) = J at *
 clear hJ h
 generalize hm : zs.length = n at *
 have HN := zh hm; clear hm
 go_enter Tryz.func145, Tryz.ntmps145
 go_wp2_with fail
 refine HC0.out.mono ?_
 rintro e w1 ⟨rfl, h1, h2, h3⟩
 have H1 : Hid (Bld w1 B b (acc ++ (lst before ++ jc ((zs.map f).take 0)))) := by rw [HJ0.out, List.append_nil]; exact zh h1
 have H2 := zh h2
 have H3 := zh h3
 clear h1 h2 h3 HC0
 go_wp2_with fail
 go_loopw [17] (fun iv wr => ∃ i : Nat, i ≤ n ∧ iv = .int .i64 i ∧ Hid (Bld wr B b (acc ++ (lst before ++ jc ((zs.map f).take i)))) ∧ Hid (Below B w wr) ∧ Hid (Lib.OthersKept 5 (some b) w wr)) (fun iv _ => n - (intOf iv).toNat)
 case atStart => exact ⟨0, by omega, rfl, H1.out, H2.out, H3.out⟩
 case round =>
  obtain ⟨i, hi, rfl, HBU, HW, HO⟩ := hrel
  have hBr : B ≤ wr.heap.size := zM hB HW.out.size
  by_cases hlt : i < n
  ·obtain ⟨bb, o, rfl, hbb, hc⟩ := sl_at (z := w0) wcells_length (HA.out.below HW.out) (k := i) (by rw [HN.out]; exact hlt) (by omega)
   have q0 := hc i 0 _ (by rw [HN.out]; exact hlt) (by omega) rfl
   have q1 := hc i 1 _ (by rw [HN.out]; exact hlt) (by omega) rfl
   rw [Nat.add_zero] at q0
   rw [← Nat.add_assoc] at q1
   have HT := zh (HTK.out i hlt)
   have HLN : Hid (acc.length + (before.size + (jc ((zs.map f).take (i + 1))).length) ≤ 140737488355328) := by
        have h1 := HLE.out (i + 1)
        show _ ≤ _
        omega
   have HFI := zh (HFF.out i hlt)
   generalize zs.getD i w0 = z at *
   have hrow := RowAt.new wr 177 (wv z)
   have HROW := zh hrow
   have hb2 := bld_lt HBU.out
   have HB2 := zh (bld_below HBU.out ((zB _ wr).alloc (zL _) (.cells (wv z) 177)))
   have HW2 := zh (HW.out.alloc hBr (.cells (wv z) 177))
   have HO2 := zh (HO.out.alloc (.cells (wv z) 177))
   clear hc hrow
   obtain ⟨s9, p9⟩ := z
   by_cases h0 : 0 < i
   ·rw [if_pos h0] at HT
    have HL1 : Hid ((acc ++ (lst before ++ jc ((zs.map f).take i))).length + 1 ≤ 140737488355328) := by
     have h1 := HLN.out
     rw [HT.out] at h1
     simp only [zA7, zA8, lst_length] at h1 ⊢
     show _ ≤ _
     omega
    have HC1 := zh (wbyte_any 44 HB2.out (by simp; omega) HL1.out)
    go_wp2_with fail
    refine HC1.out.mono ?_
    rintro e w3 ⟨rfl, k1, k2, k3⟩
    have HR3 := zh (others_row k3 HROW.out (by omega) (by decide))
    have HK1 := zh k1
    have HW3 := zh (HW2.out.trans k2)
    have HO3 := zh (HO2.out.trans k3)
    obtain ⟨m0, m1, _, _⟩ := row2 HR3.out
    clear k1 k2 k3 HC1
    have HCF := zh (HFI.out w3 B b _ HK1.out (zM hB HW3.out.size) (by
     have h1 := HLN.out
     rw [HT.out] at h1
     simp only [zA7, zA8, zA9, lst_length] at h1 ⊢
     omega) (HKK.out _ _ _ HKW.out HW3.out))
    skip
    go_wp2_with fail
    refine HCF.out.mono ?_
    rintro e w4 ⟨rfl, k1, k2, k3⟩
    have HN4 : Hid (Bld w4 B b (acc ++ (lst before ++ jc ((zs.map f).take (i + 1))))) := by
     rw [HT.out]
     have e1 : acc ++ (lst before ++ (jc ((zs.map f).take i) ++ 44 :: f ⟨s9, p9⟩)) = ((acc ++ (lst before ++ jc ((zs.map f).take i))) ++ [44]) ++ f ⟨s9, p9⟩ := by simp
     rw [e1]; exact zh k1
    have HW4 := zh (HW3.out.trans k2)
    have HO4 := zh (HO3.out.trans k3)
    clear k1 k2 k3 HCF
    go_wp2
    go_roundw
    case rel => exact ⟨i + 1, by omega, by go_num, HN4, HW4, HO4⟩
    case measure => simp [intOf]; omega
   ·rw [if_neg h0] at HT
    obtain rfl : i = 0 := by omega
    simp only [Nat.zero_mul, Nat.add_zero] at q0 q1
    have HCF := zh (HFI.out _ B b _ HB2.out (by simp; omega) (by
     have h1 := HLN.out
     rw [HT.out] at h1
     simp only [zA7, lst_length] at h1 ⊢
     omega) (HKK.out _ _ _ HKW.out HW2.out))
    obtain ⟨m0, m1, _, _⟩ := row2 HROW.out
    skip
    go_wp2_with fail
    refine HCF.out.mono ?_
    rintro e w4 ⟨rfl, k1, k2, k3⟩
    have HN4 : Hid (Bld w4 B b (acc ++ (lst before ++ jc ((zs.map f).take (0 + 1))))) := by
     rw [HT.out]
     have e1 : acc ++ (lst before ++ (jc ((zs.map f).take 0) ++ f ⟨s9, p9⟩)) = (acc ++ (lst before ++ jc ((zs.map f).take 0))) ++ f ⟨s9, p9⟩ := by simp
     rw [e1]; exact zh k1
    have HW4 := zh (HW2.out.trans k2)
    have HO4 := zh (HO2.out.trans k3)
    clear k1 k2 k3 HCF
    go_wp2
    go_roundw
    case rel => exact ⟨1, by omega, rfl, HN4, HW4, HO4⟩
    case measure => simp [intOf]; omega
  ·obtain rfl : i = n := by omega
   rw [HEN.out] at HBU
   have HC9 := zh (wstr_any after HBU.out hBr (by
        simp only [zA7, lst_length]
        omega))
   go_wp2_with fail
   refine HC9.out.mono ?_
   rintro e w4 ⟨rfl, k1, k2, k3⟩
   have HN4 : Hid (Bld w4 B b (acc ++ (lst before ++ (J ++ lst after)))) := by
        have e1 : acc ++ (lst before ++ (J ++ lst after)) = (acc ++ (lst before ++ J)) ++ lst after := by simp
        rw [e1]; exact zh k1
   have HW4 := zh (HW.out.trans k2)
   have HO4 := zh (HO.out.trans k3)
   clear k1 k2 k3 HC9
   go_wp2_with fail
   go_end0
   exact ⟨rfl, HN4.out, HW4.out, HO4.out⟩
theorem wlistN_any {F : FuncId} {f : Nd → List UInt8} {KK : World → Nat → Prop} (hf : ∀ args w, (callFunc F args).run Tryz.prog w = .ok (.enter F args) w) (A : Option Addr) (c : Nat) (zs : List Nd) (hn : zs.length ≤ 1099511627776)
 (HF : ∀ z ∈ zs, Writes F (.agg (nv z)) (f z) KK) (hKK : ∀ wa wb B, KK wa B → Below B wa wb → KK wb B) (before after : ByteArray)
 (w : World) (B b : Nat) (acc : List UInt8) (h : Bld w B b acc) (hB : B ≤ w.heap.size) (hl : acc.length + (lst before ++ (jc (zs.map f) ++ lst after)).length ≤ 140737488355328) (hk : KK w B) (hA : Sl w B A (ncs zs)) :
 Calls Tryz.prog 144 #[.pointer (some ⟨b, 0, none⟩), .string before, .slice A zs.length c, .func (.func F) #[] #[], .string after] w fun e w' => e = .returned (.tuple #[]) ∧ Bld w' B b (acc ++ (lst before ++ (jc (zs.map f) ++ lst after))) ∧ Below B w w' ∧ Lib.OthersKept 5 (some b) w w' := by
 rw [zA7, zA7, lst_length, lst_length] at hl
 have HC0 := zh (wstr_any before h hB (by omega))
 have HA := zh hA; clear hA
 have HKW := zh hk; clear hk
 have HKK := zh hKK; clear hKK
 have HFF : Hid (∀ i, i < zs.length → Writes F (.agg (nv (zs.getD i n0))) (f (zs.getD i n0)) KK) := fun i hi => HF _ (by
  rw [List.getD_eq_getElem?_getD, List.getElem?_eq_getElem hi]
  exact List.getElem_mem hi)
 clear HF
 have HTK : Hid (∀ i, i < zs.length → jc ((zs.map f).take (i + 1)) = jc ((zs.map f).take i) ++ (if 0 < i then 44 :: f (zs.getD i n0) else f (zs.getD i n0))) := fun i hi => by
  have h1 := jc_take (l := zs.map f) (i := i) (by simpa using hi)
  rw [show (zs.map f).getD i [] = f (zs.getD i n0) by
   rw [List.getD_eq_getElem?_getD, List.getD_eq_getElem?_getD, List.getElem?_map, List.getElem?_eq_getElem hi]; rfl] at h1
  exact h1
 have HLE : Hid (∀ i, (jc ((zs.map f).take i)).length ≤ (jc (zs.map f)).length) := jc_le _
 have HEN : Hid (jc ((zs.map f).take zs.length) = jc (zs.map f)) := by
  show jc _ = _
  rw [List.take_of_length_le (by simp)]
 have HJ0 : Hid (jc ((zs.map f).take 0) = []) := by rw [List.take_zero]; exact zh rfl
 have hb := bld_lt h
 generalize hJ : jc (zs.map f) = J at *
 clear hJ h
 generalize hm : zs.length = n at *
 have HN := zh hm; clear hm
 go_enter Tryz.func144, Tryz.ntmps144
 go_wp2_with fail
 refine HC0.out.mono ?_
 rintro e w1 ⟨rfl, h1, h2, h3⟩
 have H1 : Hid (Bld w1 B b (acc ++ (lst before ++ jc ((zs.map f).take 0)))) := by rw [HJ0.out, List.append_nil]; exact zh h1
 have H2 := zh h2
 have H3 := zh h3
 clear h1 h2 h3 HC0
 go_wp2_with fail
 go_loopw [17] (fun iv wr => ∃ i : Nat, i ≤ n ∧ iv = .int .i64 i ∧ Hid (Bld wr B b (acc ++ (lst before ++ jc ((zs.map f).take i)))) ∧ Hid (Below B w wr) ∧ Hid (Lib.OthersKept 5 (some b) w wr)) (fun iv _ => n - (intOf iv).toNat)
 case atStart => exact ⟨0, by omega, rfl, H1.out, H2.out, H3.out⟩
 case round =>
  obtain ⟨i, hi, rfl, HBU, HW, HO⟩ := hrel
  have hBr : B ≤ wr.heap.size := zM hB HW.out.size
  by_cases hlt : i < n
  ·obtain ⟨bb, o, rfl, hbb, hc⟩ := sl_at (z := n0) ncells_length (HA.out.below HW.out) (k := i) (by rw [HN.out]; exact hlt) (by omega)
   have q0 := hc i 0 _ (by rw [HN.out]; exact hlt) (by omega) rfl
   have q1 := hc i 1 _ (by rw [HN.out]; exact hlt) (by omega) rfl
   have q2 := hc i 2 _ (by rw [HN.out]; exact hlt) (by omega) rfl
   have q3 := hc i 3 _ (by rw [HN.out]; exact hlt) (by omega) rfl
   have q4 := hc i 4 _ (by rw [HN.out]; exact hlt) (by omega) rfl
   rw [Nat.add_zero] at q0
   rw [← Nat.add_assoc] at q1 q2 q3 q4
   have HT := zh (HTK.out i hlt)
   have HLN : Hid (acc.length + (before.size + (jc ((zs.map f).take (i + 1))).length) ≤ 140737488355328) := by
        have h1 := HLE.out (i + 1)
        show _ ≤ _
        omega
   have HFI := zh (HFF.out i hlt)
   generalize zs.getD i n0 = z at *
   have hrow := RowAt.new wr 120 (nv z)
   have HROW := zh hrow
   have hb2 := bld_lt HBU.out
   have HB2 := zh (bld_below HBU.out ((zB _ wr).alloc (zL _) (.cells (nv z) 120)))
   have HW2 := zh (HW.out.alloc hBr (.cells (nv z) 120))
   have HO2 := zh (HO.out.alloc (.cells (nv z) 120))
   clear hc hrow
   obtain ⟨zk, zp, zs9, zA, zc, zw, zBq, zd, zz⟩ := z
   simp only [Nd.k, Nd.p, Nd.s, Nd.A, Nd.c, Nd.ws, Nd.B, Nd.d, Nd.ks] at q0 q1 q2 q3 q4
   by_cases h0 : 0 < i
   ·rw [if_pos h0] at HT
    have HL1 : Hid ((acc ++ (lst before ++ jc ((zs.map f).take i))).length + 1 ≤ 140737488355328) := by
     have h1 := HLN.out
     rw [HT.out] at h1
     simp only [zA7, zA8, lst_length] at h1 ⊢
     show _ ≤ _
     omega
    have HC1 := zh (wbyte_any 44 HB2.out (by simp; omega) HL1.out)
    go_wp2_with fail
    refine HC1.out.mono ?_
    rintro e w3 ⟨rfl, k1, k2, k3⟩
    have HR3 := zh (others_row k3 HROW.out (by omega) (by decide))
    have HK1 := zh k1
    have HW3 := zh (HW2.out.trans k2)
    have HO3 := zh (HO2.out.trans k3)
    have hr3 := HR3.out
    unfold nv at hr3
    simp only [Nd.k, Nd.p, Nd.s, Nd.A, Nd.c, Nd.ws, Nd.B, Nd.d, Nd.ks] at hr3
    obtain ⟨m0, m1, m2, m3, m4, _, _, _, _, _⟩ := row5 hr3
    clear hr3
    clear k1 k2 k3 HC1
    have HCF := zh (HFI.out w3 B b _ HK1.out (zM hB HW3.out.size) (by
     have h1 := HLN.out
     rw [HT.out] at h1
     simp only [zA7, zA8, zA9, lst_length] at h1 ⊢
     omega) (HKK.out _ _ _ HKW.out HW3.out))
    skip
    go_wp2_with fail
    refine HCF.out.mono ?_
    rintro e w4 ⟨rfl, k1, k2, k3⟩
    have HN4 : Hid (Bld w4 B b (acc ++ (lst before ++ jc ((zs.map f).take (i + 1))))) := by
     rw [HT.out]
     have e1 : acc ++ (lst before ++ (jc ((zs.map f).take i) ++ 44 :: f (Nd.mk zk zp zs9 zA zc zw zBq zd zz))) = ((acc ++ (lst before ++ jc ((zs.map f).take i))) ++ [44]) ++ f (Nd.mk zk zp zs9 zA zc zw zBq zd zz) := by simp
     rw [e1]; exact zh k1
    have HW4 := zh (HW3.out.trans k2)
    have HO4 := zh (HO3.out.trans k3)
    clear k1 k2 k3 HCF
    go_wp2
    go_roundw
    case rel => exact ⟨i + 1, by omega, by go_num, HN4, HW4, HO4⟩
    case measure => simp [intOf]; omega
   ·rw [if_neg h0] at HT
    obtain rfl : i = 0 := by omega
    simp only [Nat.zero_mul, Nat.add_zero] at q0 q1 q2 q3 q4
    have HCF := zh (HFI.out _ B b _ HB2.out (by simp; omega) (by
     have h1 := HLN.out
     rw [HT.out] at h1
     simp only [zA7, lst_length] at h1 ⊢
     omega) (HKK.out _ _ _ HKW.out HW2.out))
    have hr3 := HROW.out
    unfold nv at hr3
    simp only [Nd.k, Nd.p, Nd.s, Nd.A, Nd.c, Nd.ws, Nd.B, Nd.d, Nd.ks] at hr3
    obtain ⟨m0, m1, m2, m3, m4, _, _, _, _, _⟩ := row5 hr3
    clear hr3
    skip
    go_wp2_with fail
    refine HCF.out.mono ?_
    rintro e w4 ⟨rfl, k1, k2, k3⟩
    have HN4 : Hid (Bld w4 B b (acc ++ (lst before ++ jc ((zs.map f).take (0 + 1))))) := by
     rw [HT.out]
     have e1 : acc ++ (lst before ++ (jc ((zs.map f).take 0) ++ f (Nd.mk zk zp zs9 zA zc zw zBq zd zz))) = (acc ++ (lst before ++ jc ((zs.map f).take 0))) ++ f (Nd.mk zk zp zs9 zA zc zw zBq zd zz) := by simp
     rw [e1]; exact zh k1
    have HW4 := zh (HW2.out.trans k2)
    have HO4 := zh (HO2.out.trans k3)
    clear k1 k2 k3 HCF
    go_wp2
    go_roundw
    case rel => exact ⟨1, by omega, rfl, HN4, HW4, HO4⟩
    case measure => simp [intOf]; omega
  ·obtain rfl : i = n := by omega
   rw [HEN.out] at HBU
   have HC9 := zh (wstr_any after HBU.out hBr (by
        simp only [zA7, lst_length]
        omega))
   go_wp2_with fail
   refine HC9.out.mono ?_
   rintro e w4 ⟨rfl, k1, k2, k3⟩
   have HN4 : Hid (Bld w4 B b (acc ++ (lst before ++ (J ++ lst after)))) := by
        have e1 : acc ++ (lst before ++ (J ++ lst after)) = (acc ++ (lst before ++ J)) ++ lst after := by simp
        rw [e1]; exact zh k1
   have HW4 := zh (HW.out.trans k2)
   have HO4 := zh (HO.out.trans k3)
   clear k1 k2 k3 HC9
   go_wp2_with fail
   go_end0
   exact ⟨rfl, HN4.out, HW4.out, HO4.out⟩
def Nods (w : World) (B : Nat) (l : List Nd) : Prop := ∀ x ∈ TM.all l, (Sl w B x.A (wcs x.ws) ∧ x.ws.length ≤ x.c) ∧ Sl w B x.B (ncs x.ks) ∧ x.ks.length ≤ x.d
section
variable {w w' : World} {B B' : Nat} {l : List Nd} {x : Nd}
theorem Nods.below (h : Nods w B l) (hb : Below B w w') : Nods w' B l := fun x hx => ⟨⟨(h x hx).1.1.below hb, (h x hx).1.2⟩, (h x hx).2.1.below hb, (h x hx).2.2⟩
theorem Nods.mono (h : Nods w B l) (hB : B ≤ B') : Nods w B' l := fun x hx => ⟨⟨(h x hx).1.1.mono hB, (h x hx).1.2⟩, (h x hx).2.1.mono hB, (h x hx).2.2⟩
theorem Nods.mem (h : Nods w B l) (hx : x ∈ l) : Nods w B [x] := fun y hy => by
 rw [all_cons] at hy
 simp only [TM.all, List.append_nil, List.mem_cons] at hy
 rcases hy with rfl | hy
 ·exact h _ (mem_all hx)
 ·exact h _ (TM.mem_kids hx hy)
theorem Nods.kids (h : Nods w B [x]) : Nods w B x.ks := fun y hy => h y (TM.mem_kids (List.mem_singleton.2 rfl) hy)
theorem Nods.at (h : Nods w B [x]) : (Sl w B x.A (wcs x.ws) ∧ x.ws.length ≤ x.c) ∧ Sl w B x.B (ncs x.ks) ∧ x.ks.length ≤ x.d := h x (mem_all (List.mem_singleton.2 rfl))
theorem DeepN.nods {ok : Nat → Prop} (h : DeepN w ok l) : Nods w w.heap.size l := fun x hx => ⟨⟨(h x hx).1.1.sl, (h x hx).1.2⟩, (h x hx).2.1.sl, (h x hx).2.2⟩
end
end
section
open Go.RowKit LX TR TM
section
variable (s : List UInt8) (ws ks : List (List UInt8))
theorem tx1_1 : tx1 1 s ws ks = s := by simp [tx1]
theorem tx1_2 : tx1 2 s ws ks = s := by simp [tx1]
theorem tx1_7 : tx1 7 s ws ks = 35 :: ks.headD [] := by simp [tx1]
theorem tx1_11 : tx1 11 s ws ks = s ++ 61 :: ks.headD [] := by simp [tx1]
theorem tx1_4 : tx1 4 s ws ks = 40 :: (jc ks ++ [41]) := by simp [tx1]
theorem tx1_8 : tx1 8 s ws ks = 43 :: 40 :: (jc ks ++ [41]) := by simp [tx1]
theorem tx1_9 : tx1 9 s ws ks = 38 :: 40 :: (jc ks ++ [41]) := by simp [tx1]
theorem tx1_5 : tx1 5 s ws ks = 91 :: (jc ks ++ [93]) := by simp [tx1]
theorem tx1_3 : tx1 3 s ws ks = 123 :: (jc ws ++ [125]) := by simp [tx1]
theorem tx1_6 : tx1 6 s ws ks = s ++ 58 :: 123 :: (jc ws ++ [125]) := by simp [tx1]
theorem tx1_10 : tx1 10 s ws ks = 91 :: (jc ks ++ (if ws = [] then [93] else 124 :: (jc ws ++ [93]))) := by simp [tx1]
theorem tx1_else {k : Int} (h1 : ¬ k = 1) (h2 : ¬ k = 2) (h7 : ¬ k = 7) (h11 : ¬ k = 11) (h4 : ¬ k = 4) (h8 : ¬ k = 8) (h9 : ¬ k = 9) (h5 : ¬ k = 5) (h3 : ¬ k = 3) (h6 : ¬ k = 6) (h10 : ¬ k = 10) : tx1 k s ws ks = [] := by
 simp [tx1, h1, h2, h7, h11, h4, h8, h9, h5, h3, h6, h10]
end
theorem lst_app (a b : ByteArray) : lst (a ++ b) = lst a ++ lst b := by simp [lst]
theorem bsz0 : (⟨#[]⟩ : ByteArray).size = 0 := rfl
theorem bsz1 (c : UInt8) : (⟨#[c]⟩ : ByteArray).size = 1 := rfl
theorem bsz2 (c d : UInt8) : (⟨#[c, d]⟩ : ByteArray).size = 2 := rfl
theorem lst_one (c : UInt8) : lst ⟨#[c]⟩ = [c] := rfl
theorem lst_two (c d : UInt8) : lst ⟨#[c, d]⟩ = [c, d] := rfl
theorem lst_none : lst ⟨#[]⟩ = [] := rfl
theorem Writes.weak {F : FuncId} {v : Value} {t : List UInt8} {K K' : World → Nat → Prop} (h : Writes F v t K) (hk : ∀ w B, K' w B → K w B) : Writes F v t K' := fun w B b acc h1 h2 h3 h4 => h w B b acc h1 h2 h3 (hk w B h4)
theorem wfirst_any {K : World → Nat → Prop} (A : Option Addr) (c : Nat) (zs : List Nd) (HF : ∀ z ∈ zs, Writes 111 (.agg (nv z)) (tx z) K)
 (w : World) (B b : Nat) (acc : List UInt8) (h : Bld w B b acc) (hB : B ≤ w.heap.size) (hl : acc.length + ((txs zs).headD []).length ≤ 140737488355328) (hk : K w B) (hA : Sl w B A (ncs zs)) :
 Calls Tryz.prog 143 #[.pointer (some ⟨b, 0, none⟩), .slice A zs.length c] w fun e w' => e = .returned (.tuple #[]) ∧ Bld w' B b (acc ++ (txs zs).headD []) ∧ Below B w w' ∧ Lib.OthersKept 5 (some b) w w' := by
 cases zs with
 | nil =>
   have HH := zh h
   rw [show (txs []).headD [] = [] by simp [txs], List.append_nil]
   simp only [zA9]
   clear h hA hl HF
   go_enter Tryz.func143, Tryz.ntmps143
   go_wp2_with fail
   go_end0
   exact ⟨rfl, HH.out, zB _ _, Lib.OthersKept.refl _ _ _⟩
 | cons z zs =>
   rw [txs_cons, List.headD_cons] at hl ⊢
   have HC := zh (HF z (by simp) w B b acc h hB hl hk)
   obtain ⟨bb, o, rfl, hbb, hc⟩ := sl_at (z := n0) ncells_length hA (k := 0) (by simp) (by omega)
   have q0 := hc 0 0 _ (by simp) (by omega) rfl
   have q1 := hc 0 1 _ (by simp) (by omega) rfl
   have q2 := hc 0 2 _ (by simp) (by omega) rfl
   have q3 := hc 0 3 _ (by simp) (by omega) rfl
   have q4 := hc 0 4 _ (by simp) (by omega) rfl
   simp only [Nat.zero_mul, Nat.add_zero, Nat.zero_add, List.getD_cons_zero] at q0 q1 q2 q3 q4
   simp only [zA8]
   have hlen : (0 : Int) < ((zs.length + 1 : Nat) : Int) := by omega
   generalize zs.length + 1 = n at *
   unfold nv at HC
   clear h hA hl HF hc
   obtain ⟨zk, zp, zs9, zA, zc, zw, zBq, zd, zz⟩ := z
   simp only [Nd.k, Nd.p, Nd.s, Nd.A, Nd.c, Nd.ws, Nd.B, Nd.d, Nd.ks] at q0 q1 q2 q3 q4 HC
   go_enter Tryz.func143, Tryz.ntmps143
   go_wp2_with fail
   refine HC.out.mono ?_
   rintro e w1 ⟨rfl, k1, k2, k3⟩
   have HBU := zh k1
   have HW := zh k2
   have HO := zh k3
   clear k1 k2 k3
   go_wp2_with fail
   go_end0
   exact ⟨rfl, HBU.out, HW.out, HO.out⟩
theorem write_step (N : Nat) (hN : N ≤ 4294967296) (ih : ∀ y, cnt [y] ≤ N → Writes 111 (.agg (nv y)) (tx y) (fun w B => Nods w B [y])) (z : Nd) (hz : cnt [z] ≤ N + 1) :
 Writes 111 (.agg (nv z)) (tx z) (fun w B => Nods w B [z]) := by
 intro w B b acc h hB hl hnd
 obtain ⟨zk, zp, zs, zA, zc, zw, zBq, zd, zz⟩ := z
 have hcz : 1 + zw.length + cnt zz ≤ N + 1 := by rw [cnt_cons] at hz; simp only [cnt, Nat.add_zero] at hz; exact hz
 have hzl := length_cnt zz
 have HKF : Hid (∀ y ∈ zz, Writes 111 (.agg (nv y)) (tx y) (fun w B => Nods w B zz)) := fun y hy => (ih y (by
  have h1 := cnt_mem hy
  rw [cnt_cons]
  simp only [cnt, Nat.add_zero]
  omega)).weak fun w B h => h.mem hy
 have HNK : Hid (Nods w B zz) := hnd.kids
 have HSW : Hid (Sl w B zA (wcs zw)) := hnd.at.1.1
 have HSK : Hid (Sl w B zBq (ncs zz)) := hnd.at.2.1
 have hgb : w.heap.size ≠ b := Nat.ne_of_gt (bld_lt h)
 have HBUw0 := zh (bld_below h ((zB _ _).alloc (zL _) (.cells (nv (.mk zk zp zs zA zc zw zBq zd zz)) 120)))
 have HWw0 : Hid (Below B w (w.alloc (.cells (nv (.mk zk zp zs zA zc zw zBq zd zz)) 120))) := (zB B w).alloc hB _
 have HOw0 : Hid (Lib.OthersKept 5 (some b) w (w.alloc (.cells (nv (.mk zk zp zs zA zc zw zBq zd zz)) 120))) := (Lib.OthersKept.refl _ _ w).alloc _
 have HRw0 := zh (RowAt.new w 120 (nv (.mk zk zp zs zA zc zw zBq zd zz)))
 have hzw0 : B ≤ (w.alloc (.cells (nv (.mk zk zp zs zA zc zw zBq zd zz)) 120)).heap.size := by simp; omega
 unfold nv at HBUw0 HWw0 HOw0 HRw0 hzw0 ⊢
 simp only [Nd.k, Nd.p, Nd.s, Nd.A, Nd.c, Nd.ws, Nd.B, Nd.d, Nd.ks] at HBUw0 HWw0 HOw0 HRw0 hzw0 ⊢
 obtain ⟨m0, m1, m2, m3, m4, _, _, _, _, _⟩ := row5 HRw0.out
 clear h hnd ih
 by_cases h1 : zk = 1
 ·subst h1
  have HTX : Hid (tx (.mk 1 zp zs zA zc zw zBq zd zz) = tx1 1 (lst zs) (wtx zw) (txs zz)) := rfl
  rw [tx1_1] at HTX
  go_enter Tryz.func111, Tryz.ntmps111
  go_wp2_with fail
  have C1 := zh (wstr_any zs HBUw0.out hzw0 (by rw [HTX.out] at hl; (try simp only [wtx, txs_map] at hl); (try simp only [lst_length] at hl); (try simp only [zA7, zA8, zA9, lst_length, lst_app, lst_one, lst_two, lst_none, ByteArray.size_append, bsz0, bsz1, bsz2]); (try simp only [txs_map]); first | omega | (simp [ByteArray.size] at hl ⊢; omega)))
  go_wp2_with fail
  refine C1.out.mono ?_
  rintro e w1 ⟨rfl, k1, k2, k3⟩
  have HBUw1 := zh k1
  have HWw1 : Hid (Below B w w1) := HWw0.out.trans k2
  have HOw1 : Hid (Lib.OthersKept 5 (some b) w w1) := HOw0.out.trans k3
  have HRw1 := zh (others_row k3 HRw0.out hgb (by decide))
  obtain ⟨m0, m1, m2, m3, m4, _, _, _, _, _⟩ := row5 HRw1.out
  have hzw1 : B ≤ w1.heap.size := zM hB HWw1.out.size
  clear k1 k2 k3
  clear C1
  go_wp2_with fail
  go_end0
  exact ⟨rfl, (by have h := HBUw1.out; rw [HTX.out]; simpa [wtx, txs_map, lst_one, lst_two, lst_none, lst_app] using h), HWw1.out, HOw1.out⟩
 ·by_cases h2 : zk = 2
  ·subst h2
   have HTX : Hid (tx (.mk 2 zp zs zA zc zw zBq zd zz) = tx1 2 (lst zs) (wtx zw) (txs zz)) := rfl
   rw [tx1_2] at HTX
   go_enter Tryz.func111, Tryz.ntmps111
   go_wp2_with fail
   have C1 := zh (wstr_any zs HBUw0.out hzw0 (by rw [HTX.out] at hl; (try simp only [wtx, txs_map] at hl); (try simp only [lst_length] at hl); (try simp only [zA7, zA8, zA9, lst_length, lst_app, lst_one, lst_two, lst_none, ByteArray.size_append, bsz0, bsz1, bsz2]); (try simp only [txs_map]); first | omega | (simp [ByteArray.size] at hl ⊢; omega)))
   go_wp2_with fail
   refine C1.out.mono ?_
   rintro e w1 ⟨rfl, k1, k2, k3⟩
   have HBUw1 := zh k1
   have HWw1 : Hid (Below B w w1) := HWw0.out.trans k2
   have HOw1 : Hid (Lib.OthersKept 5 (some b) w w1) := HOw0.out.trans k3
   have HRw1 := zh (others_row k3 HRw0.out hgb (by decide))
   obtain ⟨m0, m1, m2, m3, m4, _, _, _, _, _⟩ := row5 HRw1.out
   have hzw1 : B ≤ w1.heap.size := zM hB HWw1.out.size
   clear k1 k2 k3
   clear C1
   go_wp2_with fail
   go_end0
   exact ⟨rfl, (by have h := HBUw1.out; rw [HTX.out]; simpa [wtx, txs_map, lst_one, lst_two, lst_none, lst_app] using h), HWw1.out, HOw1.out⟩
  ·by_cases h7 : zk = 7
   ·subst h7
    have HTX : Hid (tx (.mk 7 zp zs zA zc zw zBq zd zz) = tx1 7 (lst zs) (wtx zw) (txs zz)) := rfl
    rw [tx1_7] at HTX
    go_enter Tryz.func111, Tryz.ntmps111
    go_wp2_with fail
    have C1 := zh (wbyte_any 35 HBUw0.out hzw0 (by rw [HTX.out] at hl; (try simp only [txs_map] at hl); (try simp only [zA8] at hl); (try simp only [zA7, zA8, zA9, lst_length, lst_app, lst_one, lst_two, lst_none, ByteArray.size_append, bsz0, bsz1, bsz2]); (try simp only [txs_map]); first | omega | (simp [ByteArray.size] at hl ⊢; omega)))
    go_wp2_with fail
    refine C1.out.mono ?_
    rintro e w1 ⟨rfl, k1, k2, k3⟩
    have HBUw1 := zh k1
    have HWw1 : Hid (Below B w w1) := HWw0.out.trans k2
    have HOw1 : Hid (Lib.OthersKept 5 (some b) w w1) := HOw0.out.trans k3
    have HRw1 := zh (others_row k3 HRw0.out hgb (by decide))
    obtain ⟨m0, m1, m2, m3, m4, _, _, _, _, _⟩ := row5 HRw1.out
    have hzw1 : B ≤ w1.heap.size := zM hB HWw1.out.size
    clear k1 k2 k3
    clear C1
    have C2 := zh (wfirst_any (K := fun w B => Nods w B zz) zBq zd zz HKF.out _ _ _ _ HBUw1.out hzw1 (by rw [HTX.out] at hl; (try simp only [txs_map] at hl); (try simp only [zA8] at hl); (try simp only [zA7, zA8, zA9]); (try simp only [txs_map]); first | omega | (simp [ByteArray.size] at hl ⊢; omega)) (HNK.out.below HWw1.out) (HSK.out.below HWw1.out))
    go_wp2_with fail
    refine C2.out.mono ?_
    rintro e w2 ⟨rfl, k1, k2, k3⟩
    have HBUw2 := zh k1
    have HWw2 : Hid (Below B w w2) := HWw1.out.trans k2
    have HOw2 : Hid (Lib.OthersKept 5 (some b) w w2) := HOw1.out.trans k3
    have HRw2 := zh (others_row k3 HRw1.out hgb (by decide))
    obtain ⟨m0, m1, m2, m3, m4, _, _, _, _, _⟩ := row5 HRw2.out
    have hzw2 : B ≤ w2.heap.size := zM hB HWw2.out.size
    clear k1 k2 k3
    clear C2
    go_wp2_with fail
    go_end0
    exact ⟨rfl, (by have h := HBUw2.out; rw [HTX.out]; simpa [wtx, txs_map, lst_one, lst_two, lst_none, lst_app] using h), HWw2.out, HOw2.out⟩
   ·by_cases h11 : zk = 11
    ·subst h11
     have HTX : Hid (tx (.mk 11 zp zs zA zc zw zBq zd zz) = tx1 11 (lst zs) (wtx zw) (txs zz)) := rfl
     rw [tx1_11] at HTX
     have hsz : zs.size ≤ 140737488355327 := by
      rw [HTX.out] at hl
      simp only [zA7, zA8, lst_length] at hl
      omega
     go_enter Tryz.func111, Tryz.ntmps111
     go_wp2_with fail
     have C1 := zh (wstr_any (zs ++ ⟨#[61]⟩) HBUw0.out hzw0 (by rw [HTX.out] at hl; (try simp only [txs_map] at hl); (try simp only [zA7, zA8, lst_length] at hl); (try simp only [ByteArray.size_append, bsz1]); (try simp only [txs_map]); first | omega | (simp [ByteArray.size] at hl ⊢; omega)))
     go_wp2_with fail
     refine C1.out.mono ?_
     rintro e w1 ⟨rfl, k1, k2, k3⟩
     have HBUw1 := zh k1
     have HWw1 : Hid (Below B w w1) := HWw0.out.trans k2
     have HOw1 : Hid (Lib.OthersKept 5 (some b) w w1) := HOw0.out.trans k3
     have HRw1 := zh (others_row k3 HRw0.out hgb (by decide))
     obtain ⟨m0, m1, m2, m3, m4, _, _, _, _, _⟩ := row5 HRw1.out
     have hzw1 : B ≤ w1.heap.size := zM hB HWw1.out.size
     clear k1 k2 k3
     clear C1
     have C2 := zh (wfirst_any (K := fun w B => Nods w B zz) zBq zd zz HKF.out _ _ _ _ HBUw1.out hzw1 (by rw [HTX.out] at hl; (try simp only [txs_map] at hl); (try simp only [zA7, zA8, lst_length] at hl); (try simp only [zA7, zA8, zA9, lst_length, lst_app, lst_one]); (try simp only [txs_map]); first | omega | (simp [ByteArray.size] at hl ⊢; omega)) (HNK.out.below HWw1.out) (HSK.out.below HWw1.out))
     go_wp2_with fail
     refine C2.out.mono ?_
     rintro e w2 ⟨rfl, k1, k2, k3⟩
     have HBUw2 := zh k1
     have HWw2 : Hid (Below B w w2) := HWw1.out.trans k2
     have HOw2 : Hid (Lib.OthersKept 5 (some b) w w2) := HOw1.out.trans k3
     have HRw2 := zh (others_row k3 HRw1.out hgb (by decide))
     obtain ⟨m0, m1, m2, m3, m4, _, _, _, _, _⟩ := row5 HRw2.out
     have hzw2 : B ≤ w2.heap.size := zM hB HWw2.out.size
     clear k1 k2 k3
     clear C2
     go_wp2_with fail
     go_end0
     exact ⟨rfl, (by have h := HBUw2.out; rw [HTX.out]; simpa [wtx, txs_map, lst_one, lst_two, lst_none, lst_app] using h), HWw2.out, HOw2.out⟩
    ·by_cases h4 : zk = 4
     ·subst h4
      have HTX : Hid (tx (.mk 4 zp zs zA zc zw zBq zd zz) = tx1 4 (lst zs) (wtx zw) (txs zz)) := rfl
      rw [tx1_4] at HTX
      go_enter Tryz.func111, Tryz.ntmps111
      go_wp2_with fail
      have C1 := zh ((wlistN_any (fun _ _ => by kernel_rfl) zBq zd zz (by omega) HKF.out (fun wa wb B h hb => h.below hb) ⟨#[40]⟩ ⟨#[41]⟩ _ _ _ _ HBUw0.out hzw0 (by rw [HTX.out] at hl; (try simp only [txs_map] at hl); (try simp only [zA7, zA8, zA9] at hl); (try simp only [zA7, zA8, zA9, lst_one]); (try simp only [txs_map]); first | omega | (simp [ByteArray.size] at hl ⊢; omega)) (HNK.out.below HWw0.out) (HSK.out.below HWw0.out)))
      go_wp2_with fail
      refine C1.out.mono ?_
      rintro e w1 ⟨rfl, k1, k2, k3⟩
      have HBUw1 := zh k1
      have HWw1 : Hid (Below B w w1) := HWw0.out.trans k2
      have HOw1 : Hid (Lib.OthersKept 5 (some b) w w1) := HOw0.out.trans k3
      have HRw1 := zh (others_row k3 HRw0.out hgb (by decide))
      obtain ⟨m0, m1, m2, m3, m4, _, _, _, _, _⟩ := row5 HRw1.out
      have hzw1 : B ≤ w1.heap.size := zM hB HWw1.out.size
      clear k1 k2 k3
      clear C1
      go_wp2_with fail
      go_end0
      exact ⟨rfl, (by have h := HBUw1.out; rw [HTX.out]; simpa [wtx, txs_map, lst_one, lst_two, lst_none, lst_app] using h), HWw1.out, HOw1.out⟩
     ·by_cases h8 : zk = 8
      ·subst h8
       have HTX : Hid (tx (.mk 8 zp zs zA zc zw zBq zd zz) = tx1 8 (lst zs) (wtx zw) (txs zz)) := rfl
       rw [tx1_8] at HTX
       go_enter Tryz.func111, Tryz.ntmps111
       go_wp2_with fail
       have C1 := zh ((wlistN_any (fun _ _ => by kernel_rfl) zBq zd zz (by omega) HKF.out (fun wa wb B h hb => h.below hb) ⟨#[43, 40]⟩ ⟨#[41]⟩ _ _ _ _ HBUw0.out hzw0 (by rw [HTX.out] at hl; (try simp only [txs_map] at hl); (try simp only [zA7, zA8, zA9] at hl); (try simp only [zA7, zA8, zA9, lst_one, lst_two]); (try simp only [txs_map]); first | omega | (simp [ByteArray.size] at hl ⊢; omega)) (HNK.out.below HWw0.out) (HSK.out.below HWw0.out)))
       go_wp2_with fail
       refine C1.out.mono ?_
       rintro e w1 ⟨rfl, k1, k2, k3⟩
       have HBUw1 := zh k1
       have HWw1 : Hid (Below B w w1) := HWw0.out.trans k2
       have HOw1 : Hid (Lib.OthersKept 5 (some b) w w1) := HOw0.out.trans k3
       have HRw1 := zh (others_row k3 HRw0.out hgb (by decide))
       obtain ⟨m0, m1, m2, m3, m4, _, _, _, _, _⟩ := row5 HRw1.out
       have hzw1 : B ≤ w1.heap.size := zM hB HWw1.out.size
       clear k1 k2 k3
       clear C1
       go_wp2_with fail
       go_end0
       exact ⟨rfl, (by have h := HBUw1.out; rw [HTX.out]; simpa [wtx, txs_map, lst_one, lst_two, lst_none, lst_app] using h), HWw1.out, HOw1.out⟩
      ·by_cases h9 : zk = 9
       ·subst h9
        have HTX : Hid (tx (.mk 9 zp zs zA zc zw zBq zd zz) = tx1 9 (lst zs) (wtx zw) (txs zz)) := rfl
        rw [tx1_9] at HTX
        go_enter Tryz.func111, Tryz.ntmps111
        go_wp2_with fail
        have C1 := zh ((wlistN_any (fun _ _ => by kernel_rfl) zBq zd zz (by omega) HKF.out (fun wa wb B h hb => h.below hb) ⟨#[38, 40]⟩ ⟨#[41]⟩ _ _ _ _ HBUw0.out hzw0 (by rw [HTX.out] at hl; (try simp only [txs_map] at hl); (try simp only [zA7, zA8, zA9] at hl); (try simp only [zA7, zA8, zA9, lst_one, lst_two]); (try simp only [txs_map]); first | omega | (simp [ByteArray.size] at hl ⊢; omega)) (HNK.out.below HWw0.out) (HSK.out.below HWw0.out)))
        go_wp2_with fail
        refine C1.out.mono ?_
        rintro e w1 ⟨rfl, k1, k2, k3⟩
        have HBUw1 := zh k1
        have HWw1 : Hid (Below B w w1) := HWw0.out.trans k2
        have HOw1 : Hid (Lib.OthersKept 5 (some b) w w1) := HOw0.out.trans k3
        have HRw1 := zh (others_row k3 HRw0.out hgb (by decide))
        obtain ⟨m0, m1, m2, m3, m4, _, _, _, _, _⟩ := row5 HRw1.out
        have hzw1 : B ≤ w1.heap.size := zM hB HWw1.out.size
        clear k1 k2 k3
        clear C1
        go_wp2_with fail
        go_end0
        exact ⟨rfl, (by have h := HBUw1.out; rw [HTX.out]; simpa [wtx, txs_map, lst_one, lst_two, lst_none, lst_app] using h), HWw1.out, HOw1.out⟩
       ·by_cases h5 : zk = 5
        ·subst h5
         have HTX : Hid (tx (.mk 5 zp zs zA zc zw zBq zd zz) = tx1 5 (lst zs) (wtx zw) (txs zz)) := rfl
         rw [tx1_5] at HTX
         go_enter Tryz.func111, Tryz.ntmps111
         go_wp2_with fail
         have C1 := zh ((wlistN_any (fun _ _ => by kernel_rfl) zBq zd zz (by omega) HKF.out (fun wa wb B h hb => h.below hb) ⟨#[91]⟩ ⟨#[93]⟩ _ _ _ _ HBUw0.out hzw0 (by rw [HTX.out] at hl; (try simp only [txs_map] at hl); (try simp only [zA7, zA8, zA9] at hl); (try simp only [zA7, zA8, zA9, lst_one]); (try simp only [txs_map]); first | omega | (simp [ByteArray.size] at hl ⊢; omega)) (HNK.out.below HWw0.out) (HSK.out.below HWw0.out)))
         go_wp2_with fail
         refine C1.out.mono ?_
         rintro e w1 ⟨rfl, k1, k2, k3⟩
         have HBUw1 := zh k1
         have HWw1 : Hid (Below B w w1) := HWw0.out.trans k2
         have HOw1 : Hid (Lib.OthersKept 5 (some b) w w1) := HOw0.out.trans k3
         have HRw1 := zh (others_row k3 HRw0.out hgb (by decide))
         obtain ⟨m0, m1, m2, m3, m4, _, _, _, _, _⟩ := row5 HRw1.out
         have hzw1 : B ≤ w1.heap.size := zM hB HWw1.out.size
         clear k1 k2 k3
         clear C1
         go_wp2_with fail
         go_end0
         exact ⟨rfl, (by have h := HBUw1.out; rw [HTX.out]; simpa [wtx, txs_map, lst_one, lst_two, lst_none, lst_app] using h), HWw1.out, HOw1.out⟩
        ·by_cases h3 : zk = 3
         ·subst h3
          have HTX : Hid (tx (.mk 3 zp zs zA zc zw zBq zd zz) = tx1 3 (lst zs) (wtx zw) (txs zz)) := rfl
          rw [tx1_3] at HTX
          go_enter Tryz.func111, Tryz.ntmps111
          go_wp2_with fail
          have C1 := zh ((wlistW_any (f := fun x => lst x.s) (KK := fun _ _ => True) (fun _ _ => by kernel_rfl) zA zc zw (by omega) (fun z _ => writeName_any z _) (fun _ _ _ _ _ => trivial) ⟨#[123]⟩ ⟨#[125]⟩ _ _ _ _ HBUw0.out hzw0 (by rw [HTX.out] at hl; (try simp only [wtx] at hl); (try simp only [zA7, zA8, zA9] at hl); (try simp only [zA7, zA8, zA9, lst_one]); (try simp only [txs_map]); first | omega | (simp [ByteArray.size] at hl ⊢; omega)) trivial (HSW.out.below HWw0.out)))
          go_wp2_with fail
          refine C1.out.mono ?_
          rintro e w1 ⟨rfl, k1, k2, k3⟩
          have HBUw1 := zh k1
          have HWw1 : Hid (Below B w w1) := HWw0.out.trans k2
          have HOw1 : Hid (Lib.OthersKept 5 (some b) w w1) := HOw0.out.trans k3
          have HRw1 := zh (others_row k3 HRw0.out hgb (by decide))
          obtain ⟨m0, m1, m2, m3, m4, _, _, _, _, _⟩ := row5 HRw1.out
          have hzw1 : B ≤ w1.heap.size := zM hB HWw1.out.size
          clear k1 k2 k3
          clear C1
          go_wp2_with fail
          go_end0
          exact ⟨rfl, (by have h := HBUw1.out; rw [HTX.out]; simpa [wtx, txs_map, lst_one, lst_two, lst_none, lst_app] using h), HWw1.out, HOw1.out⟩
         ·by_cases h6 : zk = 6
          ·subst h6
           have HTX : Hid (tx (.mk 6 zp zs zA zc zw zBq zd zz) = tx1 6 (lst zs) (wtx zw) (txs zz)) := rfl
           rw [tx1_6] at HTX
           go_enter Tryz.func111, Tryz.ntmps111
           go_wp2_with fail
           have C1 := zh (wstr_any zs HBUw0.out hzw0 (by rw [HTX.out] at hl; (try simp only [wtx] at hl); (try simp only [zA7, zA8, zA9, lst_length] at hl); (try simp only [zA7, zA8, zA9, lst_length, lst_app, lst_one, lst_two, lst_none, ByteArray.size_append, bsz0, bsz1, bsz2]); (try simp only [txs_map]); first | omega | (simp [ByteArray.size] at hl ⊢; omega)))
           go_wp2_with fail
           refine C1.out.mono ?_
           rintro e w1 ⟨rfl, k1, k2, k3⟩
           have HBUw1 := zh k1
           have HWw1 : Hid (Below B w w1) := HWw0.out.trans k2
           have HOw1 : Hid (Lib.OthersKept 5 (some b) w w1) := HOw0.out.trans k3
           have HRw1 := zh (others_row k3 HRw0.out hgb (by decide))
           obtain ⟨m0, m1, m2, m3, m4, _, _, _, _, _⟩ := row5 HRw1.out
           have hzw1 : B ≤ w1.heap.size := zM hB HWw1.out.size
           clear k1 k2 k3
           clear C1
           have C2 := zh ((wlistW_any (f := fun x => lst x.s) (KK := fun _ _ => True) (fun _ _ => by kernel_rfl) zA zc zw (by omega) (fun z _ => writeName_any z _) (fun _ _ _ _ _ => trivial) ⟨#[58, 123]⟩ ⟨#[125]⟩ _ _ _ _ HBUw1.out hzw1 (by rw [HTX.out] at hl; (try simp only [wtx] at hl); (try simp only [zA7, zA8, zA9, lst_length] at hl); (try simp only [zA7, zA8, zA9, lst_length, lst_one, lst_two]); (try simp only [txs_map]); first | omega | (simp [ByteArray.size] at hl ⊢; omega)) trivial (HSW.out.below HWw1.out)))
           go_wp2_with fail
           refine C2.out.mono ?_
           rintro e w2 ⟨rfl, k1, k2, k3⟩
           have HBUw2 := zh k1
           have HWw2 : Hid (Below B w w2) := HWw1.out.trans k2
           have HOw2 : Hid (Lib.OthersKept 5 (some b) w w2) := HOw1.out.trans k3
           have HRw2 := zh (others_row k3 HRw1.out hgb (by decide))
           obtain ⟨m0, m1, m2, m3, m4, _, _, _, _, _⟩ := row5 HRw2.out
           have hzw2 : B ≤ w2.heap.size := zM hB HWw2.out.size
           clear k1 k2 k3
           clear C2
           go_wp2_with fail
           go_end0
           exact ⟨rfl, (by have h := HBUw2.out; rw [HTX.out]; simpa [wtx, txs_map, lst_one, lst_two, lst_none, lst_app] using h), HWw2.out, HOw2.out⟩
          ·by_cases h10 : zk = 10
           ·subst h10
            have HTX : Hid (tx (.mk 10 zp zs zA zc zw zBq zd zz) = tx1 10 (lst zs) (wtx zw) (txs zz)) := rfl
            rw [tx1_10] at HTX
            by_cases hw : zw = []
            ·subst hw
             rw [if_pos (show wtx [] = [] from rfl)] at HTX
             simp only [zA9] at *
             go_enter Tryz.func111, Tryz.ntmps111
             go_wp2_with fail
             have C1 := zh ((wlistN_any (fun _ _ => by kernel_rfl) zBq zd zz (by omega) HKF.out (fun wa wb B h hb => h.below hb) ⟨#[91]⟩ ⟨#[]⟩ _ _ _ _ HBUw0.out hzw0 (by rw [HTX.out] at hl; (try simp only [txs_map] at hl); (try simp only [zA7, zA8, zA9] at hl); (try simp only [zA7, zA8, zA9, lst_one, lst_none]); (try simp only [txs_map]); first | omega | (simp [ByteArray.size] at hl ⊢; omega)) (HNK.out.below HWw0.out) (HSK.out.below HWw0.out)))
             go_wp2_with fail
             refine C1.out.mono ?_
             rintro e w1 ⟨rfl, k1, k2, k3⟩
             have HBUw1 := zh k1
             have HWw1 : Hid (Below B w w1) := HWw0.out.trans k2
             have HOw1 : Hid (Lib.OthersKept 5 (some b) w w1) := HOw0.out.trans k3
             have HRw1 := zh (others_row k3 HRw0.out hgb (by decide))
             obtain ⟨m0, m1, m2, m3, m4, _, _, _, _, _⟩ := row5 HRw1.out
             have hzw1 : B ≤ w1.heap.size := zM hB HWw1.out.size
             clear k1 k2 k3
             clear C1
             have C2 := zh (wbyte_any 93 HBUw1.out hzw1 (by rw [HTX.out] at hl; (try simp only [txs_map] at hl); (try simp only [zA7, zA8, zA9] at hl); (try simp only [zA7, zA8, zA9, lst_one, lst_none]); (try simp only [txs_map]); first | omega | (simp [ByteArray.size] at hl ⊢; omega)))
             go_wp2_with fail
             refine C2.out.mono ?_
             rintro e w2 ⟨rfl, k1, k2, k3⟩
             have HBUw2 := zh k1
             have HWw2 : Hid (Below B w w2) := HWw1.out.trans k2
             have HOw2 : Hid (Lib.OthersKept 5 (some b) w w2) := HOw1.out.trans k3
             have HRw2 := zh (others_row k3 HRw1.out hgb (by decide))
             obtain ⟨m0, m1, m2, m3, m4, _, _, _, _, _⟩ := row5 HRw2.out
             have hzw2 : B ≤ w2.heap.size := zM hB HWw2.out.size
             clear k1 k2 k3
             clear C2
             go_wp2_with fail
             go_end0
             exact ⟨rfl, (by have h := HBUw2.out; rw [HTX.out]; simpa [wtx, txs_map, lst_one, lst_none] using h), HWw2.out, HOw2.out⟩
            ·rw [if_neg (show ¬ wtx zw = [] from fun e => hw (List.map_eq_nil_iff.1 e))] at HTX
             have hwl : 0 < zw.length := List.length_pos_iff.2 hw
             go_enter Tryz.func111, Tryz.ntmps111
             go_wp2_with fail
             have C1 := zh ((wlistN_any (fun _ _ => by kernel_rfl) zBq zd zz (by omega) HKF.out (fun wa wb B h hb => h.below hb) ⟨#[91]⟩ ⟨#[]⟩ _ _ _ _ HBUw0.out hzw0 (by rw [HTX.out] at hl; (try simp only [wtx, txs_map] at hl); (try simp only [zA7, zA8, zA9] at hl); (try simp only [zA7, zA8, zA9, lst_one, lst_none]); (try simp only [txs_map]); first | omega | (simp [ByteArray.size] at hl ⊢; omega)) (HNK.out.below HWw0.out) (HSK.out.below HWw0.out)))
             go_wp2_with fail
             refine C1.out.mono ?_
             rintro e w1 ⟨rfl, k1, k2, k3⟩
             have HBUw1 := zh k1
             have HWw1 : Hid (Below B w w1) := HWw0.out.trans k2
             have HOw1 : Hid (Lib.OthersKept 5 (some b) w w1) := HOw0.out.trans k3
             have HRw1 := zh (others_row k3 HRw0.out hgb (by decide))
             obtain ⟨m0, m1, m2, m3, m4, _, _, _, _, _⟩ := row5 HRw1.out
             have hzw1 : B ≤ w1.heap.size := zM hB HWw1.out.size
             clear k1 k2 k3
             clear C1
             have C2 := zh ((wlistW_any (f := fun x => lst x.s) (KK := fun _ _ => True) (fun _ _ => by kernel_rfl) zA zc zw (by omega) (fun z _ => writeName_any z _) (fun _ _ _ _ _ => trivial) ⟨#[124]⟩ ⟨#[]⟩ _ _ _ _ HBUw1.out hzw1 (by rw [HTX.out] at hl; (try simp only [wtx, txs_map] at hl); (try simp only [zA7, zA8, zA9] at hl); (try simp only [zA7, zA8, zA9, lst_one, lst_none]); (try simp only [txs_map]); first | omega | (simp [ByteArray.size] at hl ⊢; omega)) trivial (HSW.out.below HWw1.out)))
             go_wp2_with fail
             refine C2.out.mono ?_
             rintro e w2 ⟨rfl, k1, k2, k3⟩
             have HBUw2 := zh k1
             have HWw2 : Hid (Below B w w2) := HWw1.out.trans k2
             have HOw2 : Hid (Lib.OthersKept 5 (some b) w w2) := HOw1.out.trans k3
             have HRw2 := zh (others_row k3 HRw1.out hgb (by decide))
             obtain ⟨m0, m1, m2, m3, m4, _, _, _, _, _⟩ := row5 HRw2.out
             have hzw2 : B ≤ w2.heap.size := zM hB HWw2.out.size
             clear k1 k2 k3
             clear C2
             have C3 := zh (wbyte_any 93 HBUw2.out hzw2 (by rw [HTX.out] at hl; (try simp only [wtx, txs_map] at hl); (try simp only [zA7, zA8, zA9] at hl); (try simp only [zA7, zA8, zA9, lst_one, lst_none]); (try simp only [txs_map]); first | omega | (simp [ByteArray.size] at hl ⊢; omega)))
             go_wp2_with fail
             refine C3.out.mono ?_
             rintro e w3 ⟨rfl, k1, k2, k3⟩
             have HBUw3 := zh k1
             have HWw3 : Hid (Below B w w3) := HWw2.out.trans k2
             have HOw3 : Hid (Lib.OthersKept 5 (some b) w w3) := HOw2.out.trans k3
             have HRw3 := zh (others_row k3 HRw2.out hgb (by decide))
             obtain ⟨m0, m1, m2, m3, m4, _, _, _, _, _⟩ := row5 HRw3.out
             have hzw3 : B ≤ w3.heap.size := zM hB HWw3.out.size
             clear k1 k2 k3
             clear C3
             go_wp2_with fail
             go_end0
             exact ⟨rfl, (by have h := HBUw3.out; rw [HTX.out]; simpa [wtx, txs_map, lst_one, lst_none] using h), HWw3.out, HOw3.out⟩
           ·have q1 : (zk == 1) = false := by rw [beq_eq_false_iff_ne]; exact h1
            have q2 : (zk == 2) = false := by rw [beq_eq_false_iff_ne]; exact h2
            have q7 : (zk == 7) = false := by rw [beq_eq_false_iff_ne]; exact h7
            have q11 : (zk == 11) = false := by rw [beq_eq_false_iff_ne]; exact h11
            have q4 : (zk == 4) = false := by rw [beq_eq_false_iff_ne]; exact h4
            have q8 : (zk == 8) = false := by rw [beq_eq_false_iff_ne]; exact h8
            have q9 : (zk == 9) = false := by rw [beq_eq_false_iff_ne]; exact h9
            have q5 : (zk == 5) = false := by rw [beq_eq_false_iff_ne]; exact h5
            have q3 : (zk == 3) = false := by rw [beq_eq_false_iff_ne]; exact h3
            have q6 : (zk == 6) = false := by rw [beq_eq_false_iff_ne]; exact h6
            have q10 : (zk == 10) = false := by rw [beq_eq_false_iff_ne]; exact h10
            have HTX : Hid (tx (.mk zk zp zs zA zc zw zBq zd zz) = []) := tx1_else _ _ _ h1 h2 h7 h11 h4 h8 h9 h5 h3 h6 h10
            go_enter Tryz.func111, Tryz.ntmps111
            go_wp2_with fail
            go_end0
            exact ⟨rfl, (by rw [HTX.out, List.append_nil]; exact HBUw0.out), HWw0.out, HOw0.out⟩
theorem write_any : ∀ N, N ≤ 4294967296 → ∀ z, cnt [z] ≤ N → Writes 111 (.agg (nv z)) (tx z) (fun w B => Nods w B [z]) := by
 intro N
 induction N with
 | zero => intro _ z hz; rw [cnt_cons] at hz; omega
 | succ N ih => intro h z hz; exact write_step N (by omega) (ih (by omega)) z hz
def text10 (z : Nd) : ByteArray := ⟨(tx z).toArray⟩
theorem text_any (z : Nd) (w : World) (hz : cnt [z] ≤ 4294967296) (hl : (tx z).length ≤ 140737488355328) (h : Nods w w.heap.size [z]) :
 Calls Tryz.prog 82 #[.agg (nv z)] w fun e w' => e = .returned (.string (text10 z)) ∧ Below w.heap.size w w' := by
 have HB0 : Hid (Below w.heap.size w ((w.alloc (.cells (nv z) 120)).alloc (.cells #[.pointer none, .slice none 0 0] 144))) := ((zB _ _).alloc (zL _) _).alloc (by simp) _
 have hbl : Bld ((w.alloc (.cells (nv z) 120)).alloc (.cells #[.pointer none, .slice none 0 0] 144)) (w.heap.size + 1) (w.heap.size + 1) [] := by
  have h1 := Lib.fresh_isBuilder 144 5 (w.alloc (.cells (nv z) 120))
  rw [show (w.alloc (.cells (nv z) 120)).heap.size = w.heap.size + 1 by simp] at h1
  exact h1
 have HC := zh (write_any _ (zL _) z hz _ _ _ _ hbl (by simp) (by simpa using hl) ((h.below HB0.out).mono (Nat.le_succ _)))
 have hn := (RowAt.new w 120 (nv z)).alloc (.cells #[.pointer none, .slice none 0 0] 144)
 rw [List.nil_append] at HC
 clear hbl h
 have HTX : Hid (text10 z = ⟨(tx z).toArray⟩) := rfl
 generalize tx z = t at *
 generalize text10 z = tt at *
 obtain ⟨zk, zp, zs, zA, zc, zw, zBq, zd, zz⟩ := z
 unfold nv at HB0 HC hn ⊢
 simp only [Nd.k, Nd.p, Nd.s, Nd.A, Nd.c, Nd.ws, Nd.B, Nd.d, Nd.ks] at HB0 HC hn ⊢
 obtain ⟨m0, m1, m2, m3, m4, _, _, _, _, _⟩ := row5 hn
 clear hn
 go_enter Tryz.func82, Tryz.ntmps82
 go_wp2_with fail
 refine HC.out.mono ?_
 rintro e w1 ⟨rfl, k1, k2, _⟩
 have HBU := zh k1
 have HW := zh (HB0.out.trans (k2.mono (Nat.le_succ _)))
 have hsz : w.heap.size + 1 ≤ w1.heap.size := Nat.le_of_lt (bld_lt k1)
 clear k1 k2
 go_wp2_with fail
 refine (Tryz.Builder_String_any _ _ _ _ HBU.out hsz).mono ?_
 rintro e w2 ⟨rfl, hb⟩
 have HW1 := zh (HW.out.trans (hb.mono (Nat.le_succ _))); clear hb
 go_wp2
 go_ret
 exact ⟨ret_eq (by rw [HTX.out]; rfl), HW1.out⟩
end
section
namespace TM
open LX TR
def mapR {α : Type} (x : Res α) : Res α := match x with
 | .error p => .error p
 | .ok (a, r) => .ok (a, TR.er r)
def EI {α : Type} (rd : Rdr α) : Prop := ∀ ts e, rd (TR.er ts) e = mapR (rd ts e)
theorem EI.bind {α β : Type} {rd : Rdr α} {rd2 : α → Rdr β} (h : EI rd) (h2 : ∀ a, EI (rd2 a)) : EI (fun ts e => bnd (rd ts e) fun a r => rd2 a r e) := fun ts e => by
 show bnd (rd (TR.er ts) e) _ = mapR (bnd (rd ts e) _)
 rw [h]
 cases rd ts e with
 | error p => rfl
 | ok ar => obtain ⟨a, r⟩ := ar; exact h2 a r e
theorem EI.pure {α : Type} (x : α) : EI (fun ts _ => .ok (x, ts)) := fun _ _ => rfl
theorem EI.map {α β : Type} {rd : Rdr α} (g : α → β) (h : EI rd) : EI (fun ts e => bnd (rd ts e) fun a r => .ok (g a, r)) := EI.bind (rd2 := fun a ts _ => .ok (g a, ts)) h fun a => EI.pure _
end TM
open Go.RowKit LX TR TM
end
section
open Go.RowKit LX TR TM
end
section
namespace TM
end TM
open Go.RowKit LX TR TM
end
section
namespace TM
end TM
open Go.RowKit LX TR TM
end
section
open Go.RowKit LX TR TM
theorem below_cell {B : Nat} {w w' : World} (h : Below B w w') {b o : Nat} (hb : b < B) : w'.cell? ⟨b, o, none⟩ = w.cell? ⟨b, o, none⟩ := by
 simp only [World.cell?]
 rw [h.block b hb]
end
end Go.Proofs.YtnfndapgcpdcpaaGreatDoor
