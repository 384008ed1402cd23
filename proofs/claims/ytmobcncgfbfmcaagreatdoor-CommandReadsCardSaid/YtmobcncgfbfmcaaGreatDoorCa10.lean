/- Texts that all the claims need. Conditions: those that each states. -/
import Derived.Lib.BufferKept
import Derived.Test.YtmobcncgfbfmcaaGreatDoorCa5
import Derived.Test.YtmobcncgfbfmcaaGreatDoorCa9
set_option linter.unusedSimpArgs false
set_option linter.unusedVariables false
set_option maxRecDepth 100000
set_option maxHeartbeats 40000000
namespace Go.Proofs.YtmobcncgfbfmcaaGreatDoor
section
namespace TM
open LX TR
def jt : List (List UInt8) → List UInt8
 | [] => []
 | x :: r => 44 :: (x ++ jt r)
def jc : List (List UInt8) → List UInt8
 | [] => []
 | x :: r => x ++ jt r
theorem Q7x (a b : List (List UInt8)) : jt (a ++ b) = jt a ++ jt b := by
 induction a with
 | nil => rfl
 | cons x a ih => simp [jt, ih]
theorem Q7y {l : List (List UInt8)} {i : Nat} (h : i < l.length) : jc (l.take (i + 1)) = jc (l.take i) ++ (if 0 < i then 44 :: l.getD i [] else l.getD i []) := by
 cases l with
 | nil => simp at h
 | cons x r =>
   cases i with
   | zero => simp [jc, jt]
   | succ i =>
     have hi : i < r.length := by simpa using h
     rw [if_pos (Nat.succ_pos i), List.take_succ_cons, List.take_succ_cons, jc, jc]
     have h2 : r.take (i + 1) = r.take i ++ [r.getD i []] := by
        rw [List.getD_eq_getElem?_getD, List.getElem?_eq_getElem hi, Option.getD_some]
        exact List.take_succ_eq_append_getElem hi
     rw [h2, Q7x]
     simp [jt]
theorem Q7z (l : List (List UInt8)) (i : Nat) : (jc (l.take i)).length ≤ (jc l).length := by
 have ht : ∀ (r : List (List UInt8)) (i : Nat), (jt (r.take i)).length ≤ (jt r).length := fun r i => by
  have h := congrArg List.length (Q7x (r.take i) (r.drop i))
  rw [List.take_append_drop, zA7] at h
  omega
 cases l with
 | nil => simp [jc]
 | cons x r =>
   cases i with
   | zero => simp [jc]
   | succ i =>
     rw [List.take_succ_cons, jc, jc, zA7, zA7]
     have := ht r i
     omega
def tx1 (k : Int) (s : List UInt8) (ws ks : List (List UInt8)) : List UInt8 :=
 if k = 1 ∨ k = 2 then s
 else if k = 7 then 35 :: ks.headD []
 else if k = 11 then s ++ 61 :: ks.headD []
 else if k = 4 then 40 :: (jc ks ++ [41])
 else if k = 8 then 43 :: 40 :: (jc ks ++ [41])
 else if k = 9 then 38 :: 40 :: (jc ks ++ [41])
 else if k = 5 then 91 :: (jc ks ++ [93])
 else if k = 3 then 123 :: (jc ws ++ [125])
 else if k = 6 then s ++ 58 :: 123 :: (jc ws ++ [125])
 else if k = 10 then 91 :: (jc ks ++ (if ws = [] then [93] else 124 :: (jc ws ++ [93])))
 else []
def wtx (ws : List Wd) : List (List UInt8) := ws.map fun x => lst x.s
def txs : List Nd → List (List UInt8)
 | [] => []
 | .mk k _ s _ _ ws _ _ ks :: r => tx1 k (lst s) (wtx ws) (txs ks) :: txs r
def tx (x : Nd) : List UInt8 := tx1 x.k (lst x.s) (wtx x.ws) (txs x.ks)
theorem Q7A (x : Nd) (r : List Nd) : txs (x :: r) = tx x :: txs r := by cases x; rw [txs]; rfl
theorem Q0i (l : List Nd) : txs l = l.map tx := by
 induction l with
 | nil => simp [txs]
 | cons x r ih => rw [Q7A, ih]; rfl
def cnt : List Nd → Nat
 | [] => 0
 | .mk _ _ _ _ _ ws _ _ ks :: r => 1 + ws.length + cnt ks + cnt r
theorem Q10 (x : Nd) (r : List Nd) : cnt (x :: r) = 1 + x.ws.length + cnt x.ks + cnt r := by cases x; rw [cnt]; rfl
theorem Q7B (a b : List Nd) : cnt (a ++ b) = cnt a + cnt b := by
 induction a with
 | nil => simp [cnt]
 | cons x a ih => rw [List.cons_append, Q10, Q10, ih]; omega
theorem Q5w {l : List Nd} {x : Nd} (h : x ∈ l) : 1 + x.ws.length + cnt x.ks ≤ cnt l := by
 induction l with
 | nil => cases h
 | cons y l ih =>
   rw [Q10]
   rcases List.mem_cons.1 h with rfl | h
   ·omega
   ·have := ih h; omega
theorem Q5x (l : List Nd) : l.length ≤ cnt l := by
 induction l with
 | nil => simp
 | cons x l ih => rw [Q10, zA8]; omega
theorem Q4l : ∀ l, cnt (TM.er l) = cnt l := by
 refine ind (by simp [TM.er]) fun k p s A c ws B d ks r h1 h2 => ?_
 rw [TM.Q1D, Q10, Q10, h2]
 show 1 + ws.length + cnt (TM.er ks) + _ = _
 rw [h1]; rfl
end TM
open Go.RowKit LX TR TM
abbrev Bld (w : World) (B b : Nat) (t : List UInt8) : Prop := Lib.IsBuilder 65 5 B b (Lib.byteCells t) w
def Writes (F : FuncId) (v : Value) (t : List UInt8) (K : World → Nat → Prop) : Prop :=
 ∀ (w : World) (B b : Nat) (acc : List UInt8), Bld w B b acc → B ≤ w.heap.size → acc.length + t.length ≤ 140737488355328 → K w B →
   Calls Tryz.prog F #[.pointer (some ⟨b, 0, none⟩), v] w fun e w' => e = .returned (.tuple #[]) ∧ Bld w' B b (acc ++ t) ∧ Below B w w' ∧ Lib.OthersKept 5 (some b) w w'
theorem Q14 {w : World} {B b : Nat} {acc : List UInt8} (s : ByteArray) (h : Bld w B b acc) (hB : B ≤ w.heap.size) (hl : acc.length + s.size ≤ 140737488355328) :
 Calls Tryz.prog 30 #[.pointer (some ⟨b, 0, none⟩), .string s] w fun e w' => e = .returned (.tuple #[.int .i64 s.size, .nilIface]) ∧ Bld w' B b (acc ++ lst s) ∧ Below B w w' ∧ Lib.OthersKept 5 (some b) w w' :=
 (Qbw B b _ s w h (by rw [Lib.byteCells_length]; exact hl) hB).mono fun e w' ⟨h1, h2, h3, h4⟩ => ⟨h1, by show Lib.IsBuilder _ _ _ _ (Lib.byteCells (acc ++ lst s)) _; rw [← Q9X]; exact .inr h2, h3, h4⟩
theorem Q2W {w : World} {B b : Nat} {acc : List UInt8} (c : UInt8) (h : Bld w B b acc) (hB : B ≤ w.heap.size) (hl : acc.length + 1 ≤ 140737488355328) :
 Calls Tryz.prog 32 #[.pointer (some ⟨b, 0, none⟩), .int .u8 (c.toNat : Int)] w fun e w' => e = .returned .nilIface ∧ Bld w' B b (acc ++ [c]) ∧ Below B w w' ∧ Lib.OthersKept 5 (some b) w w' :=
 (Qbv B b _ _ w h (by rw [Lib.byteCells_length]; exact hl) hB).mono fun e w' ⟨h1, h2, h3, h4⟩ => ⟨h1, by show Lib.IsBuilder _ _ _ _ (Lib.byteCells (acc ++ [c])) _; rw [← Q9Y]; exact .inr h2, h3, h4⟩
theorem Q5y (x : Wd) (K : World → Nat → Prop) : Writes 129 (.agg (wv x)) (lst x.s) K := by
 intro w B b acc h hB hl _
 have hb := Q20 h
 have HB1 := zh (Q1q h ((zB _ _).alloc (zL _) (.cells (wv x) 24)))
 have HL : Hid (acc.length + x.s.size ≤ 140737488355328) := by rw [← Q0r]; exact zh hl
 have hn := RowAt.new w 24 #[.string x.s, .int .i64 x.p]
 obtain ⟨m0, m1, _, _⟩ := row2 hn
 clear h hn
 unfold wv at HB1 ⊢
 go_enter Tryz.func129, Tryz.ntmps129
 go_wp2_with fail
 refine (Q14 x.s HB1.out (by simp; omega) HL.out).mono ?_
 rintro e w1 ⟨rfl, h1, h2, h3⟩
 have H1 := zh h1
 have H2 : Hid (Below B w w1) := ((zB B w).alloc hB _).trans h2
 have H3 : Hid (Lib.OthersKept 5 (some b) w w1) := ((Lib.OthersKept.refl _ _ w).alloc _).trans h3
 clear h1 h2 h3
 go_wp2_with fail
 go_end0
 exact ⟨rfl, H1.out, H2.out, H3.out⟩
end
section
open Go.RowKit LX TR TM
theorem Q5z {F : FuncId} {f : Wd → List UInt8} {KK : World → Nat → Prop} (hf : ∀ args w, (callFunc F args).run Tryz.prog w = .ok (.enter F args) w) (A : Option Addr) (c : Nat) (zs : List Wd) (hn : zs.length ≤ 1099511627776)
 (HF : ∀ z ∈ zs, Writes F (.agg (wv z)) (f z) KK) (hKK : ∀ wa wb B, KK wa B → Below B wa wb → KK wb B) (before after : ByteArray)
 (w : World) (B b : Nat) (acc : List UInt8) (h : Bld w B b acc) (hB : B ≤ w.heap.size) (hl : acc.length + (lst before ++ (jc (zs.map f) ++ lst after)).length ≤ 140737488355328) (hk : KK w B) (hA : Sl w B A (wcs zs)) :
 Calls Tryz.prog 128 #[.pointer (some ⟨b, 0, none⟩), .string before, .slice A zs.length c, .func (.func F) #[] #[], .string after] w fun e w' => e = .returned (.tuple #[]) ∧ Bld w' B b (acc ++ (lst before ++ (jc (zs.map f) ++ lst after))) ∧ Below B w w' ∧ Lib.OthersKept 5 (some b) w w' := by
 rw [zA7, zA7, Q0r, Q0r] at hl
 have HC0 := zh (Q14 before h hB (by omega))
 have HA := zh hA; clear hA
 have HKW := zh hk; clear hk
 have HKK := zh hKK; clear hKK
 have HFF : Hid (∀ i, i < zs.length → Writes F (.agg (wv (zs.getD i w0))) (f (zs.getD i w0)) KK) := fun i hi => HF _ (by
  rw [List.getD_eq_getElem?_getD, List.getElem?_eq_getElem hi]
  exact List.getElem_mem hi)
 clear HF
 have HTK : Hid (∀ i, i < zs.length → jc ((zs.map f).take (i + 1)) = jc ((zs.map f).take i) ++ (if 0 < i then 44 :: f (zs.getD i w0) else f (zs.getD i w0))) := fun i hi => by
  have h1 := Q7y (l := zs.map f) (i := i) (by simpa using hi)
  rw [show (zs.map f).getD i [] = f (zs.getD i w0) by
   rw [List.getD_eq_getElem?_getD, List.getD_eq_getElem?_getD, List.getElem?_map, List.getElem?_eq_getElem hi]; rfl] at h1
  exact h1
 have HLE : Hid (∀ i, (jc ((zs.map f).take i)).length ≤ (jc (zs.map f)).length) := Q7z _
 have HEN : Hid (jc ((zs.map f).take zs.length) = jc (zs.map f)) := by
  show jc _ = _
  rw [List.take_of_length_le (by simp)]
 have HJ0 : Hid (jc ((zs.map f).take 0) = []) := by rw [List.take_zero]; exact zh rfl
 have hb := Q20 h
 generalize hJ : jc (zs.map f) = J at *
 clear hJ h
 generalize hm : zs.length = n at *
 have HN := zh hm; clear hm
 go_enter Tryz.func128, Tryz.ntmps128
 go_wp2_with fail
 refine HC0.out.mono ?_
 rintro e w1 ⟨rfl, h1, h2, h3⟩
 have H1 : Hid (Bld w1 B b (acc ++ (lst before ++ jc ((zs.map f).take 0)))) := by rw [HJ0.out, List.append_nil]; exact zh h1
 have H2 := zh h2
 have H3 := zh h3
 clear h1 h2 h3 HC0
 go_wp2_with fail
 go_loopw [17] (fun iv wr => ∃ i : Nat, i ≤ n ∧ iv = .int .i64 i ∧ Hid (Bld wr B b (acc ++ (lst before ++ jc ((zs.map f).take i)))) ∧ Hid (Below B w wr) ∧ Hid (Lib.OthersKept 5 (some b) w wr)) (fun iv _ => n - (intOf iv).toNat)
 case atStart => exact ⟨0, by omega, rfl, H1.out, H2.out, H3.out⟩
 case round =>
  obtain ⟨i, hi, rfl, HBU, HW, HO⟩ := hrel
  have hBr : B ≤ wr.heap.size := zM hB HW.out.size
  by_cases hlt : i < n
  ·obtain ⟨bb, o, rfl, hbb, hc⟩ := Q0O (z := w0) Q1M (HA.out.below HW.out) (k := i) (by rw [HN.out]; exact hlt) (by omega)
   have q0 := hc i 0 _ (by rw [HN.out]; exact hlt) (by omega) rfl
   have q1 := hc i 1 _ (by rw [HN.out]; exact hlt) (by omega) rfl
   rw [Nat.add_zero] at q0
   rw [← Nat.add_assoc] at q1
   have HT := zh (HTK.out i hlt)
   have HLN : Hid (acc.length + (before.size + (jc ((zs.map f).take (i + 1))).length) ≤ 140737488355328) := by
        have h1 := HLE.out (i + 1)
        show _ ≤ _
        omega
   have HFI := zh (HFF.out i hlt)
   generalize zs.getD i w0 = z at *
   have hrow := RowAt.new wr 24 (wv z)
   have HROW := zh hrow
   have hb2 := Q20 HBU.out
   have HB2 := zh (Q1q HBU.out ((zB _ wr).alloc (zL _) (.cells (wv z) 24)))
   have HW2 := zh (HW.out.alloc hBr (.cells (wv z) 24))
   have HO2 := zh (HO.out.alloc (.cells (wv z) 24))
   clear hc hrow
   obtain ⟨s9, p9⟩ := z
   by_cases h0 : 0 < i
   ·rw [if_pos h0] at HT
    have HL1 : Hid ((acc ++ (lst before ++ jc ((zs.map f).take i))).length + 1 ≤ 140737488355328) := by
     have h1 := HLN.out
     rw [HT.out] at h1
     simp only [zA7, zA8, Q0r] at h1 ⊢
     show _ ≤ _
     omega
    have HC1 := zh (Q2W 44 HB2.out (by simp; omega) HL1.out)
    go_wp2_with fail
    refine HC1.out.mono ?_
    rintro e w3 ⟨rfl, k1, k2, k3⟩
    have HR3 := zh (Q0E k3 HROW.out (by omega) (by decide))
    have HK1 := zh k1
    have HW3 := zh (HW2.out.trans k2)
    have HO3 := zh (HO2.out.trans k3)
    obtain ⟨m0, m1, _, _⟩ := row2 HR3.out
    clear k1 k2 k3 HC1
    have HCF := zh (HFI.out w3 B b _ HK1.out (zM hB HW3.out.size) (by
     have h1 := HLN.out
     rw [HT.out] at h1
     simp only [zA7, zA8, zA9, Q0r] at h1 ⊢
     omega) (HKK.out _ _ _ HKW.out HW3.out))
    skip
    go_wp2_with fail
    refine HCF.out.mono ?_
    rintro e w4 ⟨rfl, k1, k2, k3⟩
    have HN4 : Hid (Bld w4 B b (acc ++ (lst before ++ jc ((zs.map f).take (i + 1))))) := by
     rw [HT.out]
     have e1 : acc ++ (lst before ++ (jc ((zs.map f).take i) ++ 44 :: f ⟨s9, p9⟩)) = ((acc ++ (lst before ++ jc ((zs.map f).take i))) ++ [44]) ++ f ⟨s9, p9⟩ := by simp
     rw [e1]; exact zh k1
    have HW4 := zh (HW3.out.trans k2)
    have HO4 := zh (HO3.out.trans k3)
    clear k1 k2 k3 HCF
    go_wp2
    go_roundw
    case rel => exact ⟨i + 1, by omega, by go_num, HN4, HW4, HO4⟩
    case measure => simp [intOf]; omega
   ·rw [if_neg h0] at HT
    obtain rfl : i = 0 := by omega
    simp only [Nat.zero_mul, Nat.add_zero] at q0 q1
    have HCF := zh (HFI.out _ B b _ HB2.out (by simp; omega) (by
     have h1 := HLN.out
     rw [HT.out] at h1
     simp only [zA7, Q0r] at h1 ⊢
     omega) (HKK.out _ _ _ HKW.out HW2.out))
    obtain ⟨m0, m1, _, _⟩ := row2 HROW.out
    skip
    go_wp2_with fail
    refine HCF.out.mono ?_
    rintro e w4 ⟨rfl, k1, k2, k3⟩
    have HN4 : Hid (Bld w4 B b (acc ++ (lst before ++ jc ((zs.map f).take (0 + 1))))) := by
     rw [HT.out]
     have e1 : acc ++ (lst before ++ (jc ((zs.map f).take 0) ++ f ⟨s9, p9⟩)) = (acc ++ (lst before ++ jc ((zs.map f).take 0))) ++ f ⟨s9, p9⟩ := by simp
     rw [e1]; exact zh k1
    have HW4 := zh (HW2.out.trans k2)
    have HO4 := zh (HO2.out.trans k3)
    clear k1 k2 k3 HCF
    go_wp2
    go_roundw
    case rel => exact ⟨1, by omega, rfl, HN4, HW4, HO4⟩
    case measure => simp [intOf]; omega
  ·obtain rfl : i = n := by omega
   rw [HEN.out] at HBU
   have HC9 := zh (Q14 after HBU.out hBr (by
        simp only [zA7, Q0r]
        omega))
   go_wp2_with fail
   refine HC9.out.mono ?_
   rintro e w4 ⟨rfl, k1, k2, k3⟩
   have HN4 : Hid (Bld w4 B b (acc ++ (lst before ++ (J ++ lst after)))) := by
        have e1 : acc ++ (lst before ++ (J ++ lst after)) = (acc ++ (lst before ++ J)) ++ lst after := by simp
        rw [e1]; exact zh k1
   have HW4 := zh (HW.out.trans k2)
   have HO4 := zh (HO.out.trans k3)
   clear k1 k2 k3 HC9
   go_wp2_with fail
   go_end0
   exact ⟨rfl, HN4.out, HW4.out, HO4.out⟩
theorem Q2X {F : FuncId} {f : Nd → List UInt8} {KK : World → Nat → Prop} (hf : ∀ args w, (callFunc F args).run Tryz.prog w = .ok (.enter F args) w) (A : Option Addr) (c : Nat) (zs : List Nd) (hn : zs.length ≤ 1099511627776)
 (HF : ∀ z ∈ zs, Writes F (.agg (nv z)) (f z) KK) (hKK : ∀ wa wb B, KK wa B → Below B wa wb → KK wb B) (before after : ByteArray)
 (w : World) (B b : Nat) (acc : List UInt8) (h : Bld w B b acc) (hB : B ≤ w.heap.size) (hl : acc.length + (lst before ++ (jc (zs.map f) ++ lst after)).length ≤ 140737488355328) (hk : KK w B) (hA : Sl w B A (ncs zs)) :
 Calls Tryz.prog 127 #[.pointer (some ⟨b, 0, none⟩), .string before, .slice A zs.length c, .func (.func F) #[] #[], .string after] w fun e w' => e = .returned (.tuple #[]) ∧ Bld w' B b (acc ++ (lst before ++ (jc (zs.map f) ++ lst after))) ∧ Below B w w' ∧ Lib.OthersKept 5 (some b) w w' := by
 rw [zA7, zA7, Q0r, Q0r] at hl
 have HC0 := zh (Q14 before h hB (by omega))
 have HA := zh hA; clear hA
 have HKW := zh hk; clear hk
 have HKK := zh hKK; clear hKK
 have HFF : Hid (∀ i, i < zs.length → Writes F (.agg (nv (zs.getD i n0))) (f (zs.getD i n0)) KK) := fun i hi => HF _ (by
  rw [List.getD_eq_getElem?_getD, List.getElem?_eq_getElem hi]
  exact List.getElem_mem hi)
 clear HF
 have HTK : Hid (∀ i, i < zs.length → jc ((zs.map f).take (i + 1)) = jc ((zs.map f).take i) ++ (if 0 < i then 44 :: f (zs.getD i n0) else f (zs.getD i n0))) := fun i hi => by
  have h1 := Q7y (l := zs.map f) (i := i) (by simpa using hi)
  rw [show (zs.map f).getD i [] = f (zs.getD i n0) by
   rw [List.getD_eq_getElem?_getD, List.getD_eq_getElem?_getD, List.getElem?_map, List.getElem?_eq_getElem hi]; rfl] at h1
  exact h1
 have HLE : Hid (∀ i, (jc ((zs.map f).take i)).length ≤ (jc (zs.map f)).length) := Q7z _
 have HEN : Hid (jc ((zs.map f).take zs.length) = jc (zs.map f)) := by
  show jc _ = _
  rw [List.take_of_length_le (by simp)]
 have HJ0 : Hid (jc ((zs.map f).take 0) = []) := by rw [List.take_zero]; exact zh rfl
 have hb := Q20 h
 generalize hJ : jc (zs.map f) = J at *
 clear hJ h
 generalize hm : zs.length = n at *
 have HN := zh hm; clear hm
 go_enter Tryz.func127, Tryz.ntmps127
 go_wp2_with fail
 refine HC0.out.mono ?_
 rintro e w1 ⟨rfl, h1, h2, h3⟩
 have H1 : Hid (Bld w1 B b (acc ++ (lst before ++ jc ((zs.map f).take 0)))) := by rw [HJ0.out, List.append_nil]; exact zh h1
 have H2 := zh h2
 have H3 := zh h3
 clear h1 h2 h3 HC0
 go_wp2_with fail
 go_loopw [17] (fun iv wr => ∃ i : Nat, i ≤ n ∧ iv = .int .i64 i ∧ Hid (Bld wr B b (acc ++ (lst before ++ jc ((zs.map f).take i)))) ∧ Hid (Below B w wr) ∧ Hid (Lib.OthersKept 5 (some b) w wr)) (fun iv _ => n - (intOf iv).toNat)
 case atStart => exact ⟨0, by omega, rfl, H1.out, H2.out, H3.out⟩
 case round =>
  obtain ⟨i, hi, rfl, HBU, HW, HO⟩ := hrel
  have hBr : B ≤ wr.heap.size := zM hB HW.out.size
  by_cases hlt : i < n
  ·obtain ⟨bb, o, rfl, hbb, hc⟩ := Q0O (z := n0) Q2m (HA.out.below HW.out) (k := i) (by rw [HN.out]; exact hlt) (by omega)
   have q0 := hc i 0 _ (by rw [HN.out]; exact hlt) (by omega) rfl
   have q1 := hc i 1 _ (by rw [HN.out]; exact hlt) (by omega) rfl
   have q2 := hc i 2 _ (by rw [HN.out]; exact hlt) (by omega) rfl
   have q3 := hc i 3 _ (by rw [HN.out]; exact hlt) (by omega) rfl
   have q4 := hc i 4 _ (by rw [HN.out]; exact hlt) (by omega) rfl
   rw [Nat.add_zero] at q0
   rw [← Nat.add_assoc] at q1 q2 q3 q4
   have HT := zh (HTK.out i hlt)
   have HLN : Hid (acc.length + (before.size + (jc ((zs.map f).take (i + 1))).length) ≤ 140737488355328) := by
        have h1 := HLE.out (i + 1)
        show _ ≤ _
        omega
   have HFI := zh (HFF.out i hlt)
   generalize zs.getD i n0 = z at *
   have hrow := RowAt.new wr 29 (nv z)
   have HROW := zh hrow
   have hb2 := Q20 HBU.out
   have HB2 := zh (Q1q HBU.out ((zB _ wr).alloc (zL _) (.cells (nv z) 29)))
   have HW2 := zh (HW.out.alloc hBr (.cells (nv z) 29))
   have HO2 := zh (HO.out.alloc (.cells (nv z) 29))
   clear hc hrow
   obtain ⟨zk, zp, zs9, zA, zc, zw, zBq, zd, zz⟩ := z
   simp only [Nd.k, Nd.p, Nd.s, Nd.A, Nd.c, Nd.ws, Nd.B, Nd.d, Nd.ks] at q0 q1 q2 q3 q4
   by_cases h0 : 0 < i
   ·rw [if_pos h0] at HT
    have HL1 : Hid ((acc ++ (lst before ++ jc ((zs.map f).take i))).length + 1 ≤ 140737488355328) := by
     have h1 := HLN.out
     rw [HT.out] at h1
     simp only [zA7, zA8, Q0r] at h1 ⊢
     show _ ≤ _
     omega
    have HC1 := zh (Q2W 44 HB2.out (by simp; omega) HL1.out)
    go_wp2_with fail
    refine HC1.out.mono ?_
    rintro e w3 ⟨rfl, k1, k2, k3⟩
    have HR3 := zh (Q0E k3 HROW.out (by omega) (by decide))
    have HK1 := zh k1
    have HW3 := zh (HW2.out.trans k2)
    have HO3 := zh (HO2.out.trans k3)
    have hr3 := HR3.out
    unfold nv at hr3
    simp only [Nd.k, Nd.p, Nd.s, Nd.A, Nd.c, Nd.ws, Nd.B, Nd.d, Nd.ks] at hr3
    obtain ⟨m0, m1, m2, m3, m4, _, _, _, _, _⟩ := row5 hr3
    clear hr3
    clear k1 k2 k3 HC1
    have HCF := zh (HFI.out w3 B b _ HK1.out (zM hB HW3.out.size) (by
     have h1 := HLN.out
     rw [HT.out] at h1
     simp only [zA7, zA8, zA9, Q0r] at h1 ⊢
     omega) (HKK.out _ _ _ HKW.out HW3.out))
    skip
    go_wp2_with fail
    refine HCF.out.mono ?_
    rintro e w4 ⟨rfl, k1, k2, k3⟩
    have HN4 : Hid (Bld w4 B b (acc ++ (lst before ++ jc ((zs.map f).take (i + 1))))) := by
     rw [HT.out]
     have e1 : acc ++ (lst before ++ (jc ((zs.map f).take i) ++ 44 :: f (Nd.mk zk zp zs9 zA zc zw zBq zd zz))) = ((acc ++ (lst before ++ jc ((zs.map f).take i))) ++ [44]) ++ f (Nd.mk zk zp zs9 zA zc zw zBq zd zz) := by simp
     rw [e1]; exact zh k1
    have HW4 := zh (HW3.out.trans k2)
    have HO4 := zh (HO3.out.trans k3)
    clear k1 k2 k3 HCF
    go_wp2
    go_roundw
    case rel => exact ⟨i + 1, by omega, by go_num, HN4, HW4, HO4⟩
    case measure => simp [intOf]; omega
   ·rw [if_neg h0] at HT
    obtain rfl : i = 0 := by omega
    simp only [Nat.zero_mul, Nat.add_zero] at q0 q1 q2 q3 q4
    have HCF := zh (HFI.out _ B b _ HB2.out (by simp; omega) (by
     have h1 := HLN.out
     rw [HT.out] at h1
     simp only [zA7, Q0r] at h1 ⊢
     omega) (HKK.out _ _ _ HKW.out HW2.out))
    have hr3 := HROW.out
    unfold nv at hr3
    simp only [Nd.k, Nd.p, Nd.s, Nd.A, Nd.c, Nd.ws, Nd.B, Nd.d, Nd.ks] at hr3
    obtain ⟨m0, m1, m2, m3, m4, _, _, _, _, _⟩ := row5 hr3
    clear hr3
    skip
    go_wp2_with fail
    refine HCF.out.mono ?_
    rintro e w4 ⟨rfl, k1, k2, k3⟩
    have HN4 : Hid (Bld w4 B b (acc ++ (lst before ++ jc ((zs.map f).take (0 + 1))))) := by
     rw [HT.out]
     have e1 : acc ++ (lst before ++ (jc ((zs.map f).take 0) ++ f (Nd.mk zk zp zs9 zA zc zw zBq zd zz))) = (acc ++ (lst before ++ jc ((zs.map f).take 0))) ++ f (Nd.mk zk zp zs9 zA zc zw zBq zd zz) := by simp
     rw [e1]; exact zh k1
    have HW4 := zh (HW2.out.trans k2)
    have HO4 := zh (HO2.out.trans k3)
    clear k1 k2 k3 HCF
    go_wp2
    go_roundw
    case rel => exact ⟨1, by omega, rfl, HN4, HW4, HO4⟩
    case measure => simp [intOf]; omega
  ·obtain rfl : i = n := by omega
   rw [HEN.out] at HBU
   have HC9 := zh (Q14 after HBU.out hBr (by
        simp only [zA7, Q0r]
        omega))
   go_wp2_with fail
   refine HC9.out.mono ?_
   rintro e w4 ⟨rfl, k1, k2, k3⟩
   have HN4 : Hid (Bld w4 B b (acc ++ (lst before ++ (J ++ lst after)))) := by
        have e1 : acc ++ (lst before ++ (J ++ lst after)) = (acc ++ (lst before ++ J)) ++ lst after := by simp
        rw [e1]; exact zh k1
   have HW4 := zh (HW.out.trans k2)
   have HO4 := zh (HO.out.trans k3)
   clear k1 k2 k3 HC9
   go_wp2_with fail
   go_end0
   exact ⟨rfl, HN4.out, HW4.out, HO4.out⟩
def Nods (w : World) (B : Nat) (l : List Nd) : Prop := ∀ x ∈ TM.all l, (Sl w B x.A (wcs x.ws) ∧ x.ws.length ≤ x.c) ∧ Sl w B x.B (ncs x.ks) ∧ x.ks.length ≤ x.d
section
variable {w w' : World} {B B' : Nat} {l : List Nd} {x : Nd}
theorem Nods.below (h : Nods w B l) (hb : Below B w w') : Nods w' B l := fun x hx => ⟨⟨(h x hx).1.1.below hb, (h x hx).1.2⟩, (h x hx).2.1.below hb, (h x hx).2.2⟩
theorem Nods.mono (h : Nods w B l) (hB : B ≤ B') : Nods w B' l := fun x hx => ⟨⟨(h x hx).1.1.mono hB, (h x hx).1.2⟩, (h x hx).2.1.mono hB, (h x hx).2.2⟩
theorem Nods.mem (h : Nods w B l) (hx : x ∈ l) : Nods w B [x] := fun y hy => by
 rw [all_cons] at hy
 simp only [TM.all, List.append_nil, List.mem_cons] at hy
 rcases hy with rfl | hy
 ·exact h _ (Q6j hx)
 ·exact h _ (TM.mem_kids hx hy)
theorem Nods.kids (h : Nods w B [x]) : Nods w B x.ks := fun y hy => h y (TM.mem_kids (List.mem_singleton.2 rfl) hy)
theorem Nods.at (h : Nods w B [x]) : (Sl w B x.A (wcs x.ws) ∧ x.ws.length ≤ x.c) ∧ Sl w B x.B (ncs x.ks) ∧ x.ks.length ≤ x.d := h x (Q6j (List.mem_singleton.2 rfl))
theorem DeepN.nods {ok : Nat → Prop} (h : DeepN w ok l) : Nods w w.heap.size l := fun x hx => ⟨⟨(h x hx).1.1.sl, (h x hx).1.2⟩, (h x hx).2.1.sl, (h x hx).2.2⟩
end
end
section
open Go.RowKit LX TR TM
section
variable (s : List UInt8) (ws ks : List (List UInt8))
theorem Qce : tx1 1 s ws ks = s := by simp [tx1]
theorem Qcf : tx1 2 s ws ks = s := by simp [tx1]
theorem Qcg : tx1 7 s ws ks = 35 :: ks.headD [] := by simp [tx1]
theorem Qch : tx1 11 s ws ks = s ++ 61 :: ks.headD [] := by simp [tx1]
theorem Qci : tx1 4 s ws ks = 40 :: (jc ks ++ [41]) := by simp [tx1]
theorem Qcj : tx1 8 s ws ks = 43 :: 40 :: (jc ks ++ [41]) := by simp [tx1]
theorem Qck : tx1 9 s ws ks = 38 :: 40 :: (jc ks ++ [41]) := by simp [tx1]
theorem Qcl : tx1 5 s ws ks = 91 :: (jc ks ++ [93]) := by simp [tx1]
theorem Qcm : tx1 3 s ws ks = 123 :: (jc ws ++ [125]) := by simp [tx1]
theorem Qcn : tx1 6 s ws ks = s ++ 58 :: 123 :: (jc ws ++ [125]) := by simp [tx1]
theorem Qco : tx1 10 s ws ks = 91 :: (jc ks ++ (if ws = [] then [93] else 124 :: (jc ws ++ [93]))) := by simp [tx1]
theorem Qcp {k : Int} (h1 : ¬ k = 1) (h2 : ¬ k = 2) (h7 : ¬ k = 7) (h11 : ¬ k = 11) (h4 : ¬ k = 4) (h8 : ¬ k = 8) (h9 : ¬ k = 9) (h5 : ¬ k = 5) (h3 : ¬ k = 3) (h6 : ¬ k = 6) (h10 : ¬ k = 10) : tx1 k s ws ks = [] := by
 simp [tx1, h1, h2, h7, h11, h4, h8, h9, h5, h3, h6, h10]
end
theorem lst_app (a b : ByteArray) : lst (a ++ b) = lst a ++ lst b := by simp [lst]
theorem bsz0 : (⟨#[]⟩ : ByteArray).size = 0 := rfl
theorem bsz1 (c : UInt8) : (⟨#[c]⟩ : ByteArray).size = 1 := rfl
theorem bsz2 (c d : UInt8) : (⟨#[c, d]⟩ : ByteArray).size = 2 := rfl
theorem Q0F (c : UInt8) : lst ⟨#[c]⟩ = [c] := rfl
theorem Q11 (c d : UInt8) : lst ⟨#[c, d]⟩ = [c, d] := rfl
theorem Q0S : lst ⟨#[]⟩ = [] := rfl
theorem Writes.weak {F : FuncId} {v : Value} {t : List UInt8} {K K' : World → Nat → Prop} (h : Writes F v t K) (hk : ∀ w B, K' w B → K w B) : Writes F v t K' := fun w B b acc h1 h2 h3 h4 => h w B b acc h1 h2 h3 (hk w B h4)
theorem Q7C {K : World → Nat → Prop} (A : Option Addr) (c : Nat) (zs : List Nd) (HF : ∀ z ∈ zs, Writes 81 (.agg (nv z)) (tx z) K)
 (w : World) (B b : Nat) (acc : List UInt8) (h : Bld w B b acc) (hB : B ≤ w.heap.size) (hl : acc.length + ((txs zs).headD []).length ≤ 140737488355328) (hk : K w B) (hA : Sl w B A (ncs zs)) :
 Calls Tryz.prog 126 #[.pointer (some ⟨b, 0, none⟩), .slice A zs.length c] w fun e w' => e = .returned (.tuple #[]) ∧ Bld w' B b (acc ++ (txs zs).headD []) ∧ Below B w w' ∧ Lib.OthersKept 5 (some b) w w' := by
 cases zs with
 | nil =>
   have HH := zh h
   rw [show (txs []).headD [] = [] by simp [txs], List.append_nil]
   simp only [zA9]
   clear h hA hl HF
   go_enter Tryz.func126, Tryz.ntmps126
   go_wp2_with fail
   go_end0
   exact ⟨rfl, HH.out, zB _ _, Lib.OthersKept.refl _ _ _⟩
 | cons z zs =>
   rw [Q7A, List.headD_cons] at hl ⊢
   have HC := zh (HF z (by simp) w B b acc h hB hl hk)
   obtain ⟨bb, o, rfl, hbb, hc⟩ := Q0O (z := n0) Q2m hA (k := 0) (by simp) (by omega)
   have q0 := hc 0 0 _ (by simp) (by omega) rfl
   have q1 := hc 0 1 _ (by simp) (by omega) rfl
   have q2 := hc 0 2 _ (by simp) (by omega) rfl
   have q3 := hc 0 3 _ (by simp) (by omega) rfl
   have q4 := hc 0 4 _ (by simp) (by omega) rfl
   simp only [Nat.zero_mul, Nat.add_zero, Nat.zero_add, List.getD_cons_zero] at q0 q1 q2 q3 q4
   simp only [zA8]
   have hlen : (0 : Int) < ((zs.length + 1 : Nat) : Int) := by omega
   generalize zs.length + 1 = n at *
   unfold nv at HC
   clear h hA hl HF hc
   obtain ⟨zk, zp, zs9, zA, zc, zw, zBq, zd, zz⟩ := z
   simp only [Nd.k, Nd.p, Nd.s, Nd.A, Nd.c, Nd.ws, Nd.B, Nd.d, Nd.ks] at q0 q1 q2 q3 q4 HC
   go_enter Tryz.func126, Tryz.ntmps126
   go_wp2_with fail
   refine HC.out.mono ?_
   rintro e w1 ⟨rfl, k1, k2, k3⟩
   have HBU := zh k1
   have HW := zh k2
   have HO := zh k3
   clear k1 k2 k3
   go_wp2_with fail
   go_end0
   exact ⟨rfl, HBU.out, HW.out, HO.out⟩
theorem Qcq (N : Nat) (hN : N ≤ 4294967296) (ih : ∀ y, cnt [y] ≤ N → Writes 81 (.agg (nv y)) (tx y) (fun w B => Nods w B [y])) (z : Nd) (hz : cnt [z] ≤ N + 1) :
 Writes 81 (.agg (nv z)) (tx z) (fun w B => Nods w B [z]) := by
 intro w B b acc h hB hl hnd
 obtain ⟨zk, zp, zs, zA, zc, zw, zBq, zd, zz⟩ := z
 have hcz : 1 + zw.length + cnt zz ≤ N + 1 := by rw [Q10] at hz; simp only [cnt, Nat.add_zero] at hz; exact hz
 have hzl := Q5x zz
 have HKF : Hid (∀ y ∈ zz, Writes 81 (.agg (nv y)) (tx y) (fun w B => Nods w B zz)) := fun y hy => (ih y (by
  have h1 := Q5w hy
  rw [Q10]
  simp only [cnt, Nat.add_zero]
  omega)).weak fun w B h => h.mem hy
 have HNK : Hid (Nods w B zz) := hnd.kids
 have HSW : Hid (Sl w B zA (wcs zw)) := hnd.at.1.1
 have HSK : Hid (Sl w B zBq (ncs zz)) := hnd.at.2.1
 have hgb : w.heap.size ≠ b := Nat.ne_of_gt (Q20 h)
 have HBUw0 := zh (Q1q h ((zB _ _).alloc (zL _) (.cells (nv (.mk zk zp zs zA zc zw zBq zd zz)) 29)))
 have HWw0 : Hid (Below B w (w.alloc (.cells (nv (.mk zk zp zs zA zc zw zBq zd zz)) 29))) := (zB B w).alloc hB _
 have HOw0 : Hid (Lib.OthersKept 5 (some b) w (w.alloc (.cells (nv (.mk zk zp zs zA zc zw zBq zd zz)) 29))) := (Lib.OthersKept.refl _ _ w).alloc _
 have HRw0 := zh (RowAt.new w 29 (nv (.mk zk zp zs zA zc zw zBq zd zz)))
 have hzw0 : B ≤ (w.alloc (.cells (nv (.mk zk zp zs zA zc zw zBq zd zz)) 29)).heap.size := by simp; omega
 unfold nv at HBUw0 HWw0 HOw0 HRw0 hzw0 ⊢
 simp only [Nd.k, Nd.p, Nd.s, Nd.A, Nd.c, Nd.ws, Nd.B, Nd.d, Nd.ks] at HBUw0 HWw0 HOw0 HRw0 hzw0 ⊢
 obtain ⟨m0, m1, m2, m3, m4, _, _, _, _, _⟩ := row5 HRw0.out
 clear h hnd ih
 by_cases h1 : zk = 1
 ·subst h1
  have HTX : Hid (tx (.mk 1 zp zs zA zc zw zBq zd zz) = tx1 1 (lst zs) (wtx zw) (txs zz)) := rfl
  rw [Qce] at HTX
  go_enter Tryz.func81, Tryz.ntmps81
  go_wp2_with fail
  have C1 := zh (Q14 zs HBUw0.out hzw0 (by rw [HTX.out] at hl; (try simp only [wtx, Q0i] at hl); (try simp only [Q0r] at hl); (try simp only [zA7, zA8, zA9, Q0r, lst_app, Q0F, Q11, Q0S, ByteArray.size_append, bsz0, bsz1, bsz2]); (try simp only [Q0i]); first | omega | (simp [ByteArray.size] at hl ⊢; omega)))
  go_wp2_with fail
  refine C1.out.mono ?_
  rintro e w1 ⟨rfl, k1, k2, k3⟩
  have HBUw1 := zh k1
  have HWw1 : Hid (Below B w w1) := HWw0.out.trans k2
  have HOw1 : Hid (Lib.OthersKept 5 (some b) w w1) := HOw0.out.trans k3
  have HRw1 := zh (Q0E k3 HRw0.out hgb (by decide))
  obtain ⟨m0, m1, m2, m3, m4, _, _, _, _, _⟩ := row5 HRw1.out
  have hzw1 : B ≤ w1.heap.size := zM hB HWw1.out.size
  clear k1 k2 k3
  clear C1
  go_wp2_with fail
  go_end0
  exact ⟨rfl, (by have h := HBUw1.out; rw [HTX.out]; simpa [wtx, Q0i, Q0F, Q11, Q0S, lst_app] using h), HWw1.out, HOw1.out⟩
 ·by_cases h2 : zk = 2
  ·subst h2
   have HTX : Hid (tx (.mk 2 zp zs zA zc zw zBq zd zz) = tx1 2 (lst zs) (wtx zw) (txs zz)) := rfl
   rw [Qcf] at HTX
   go_enter Tryz.func81, Tryz.ntmps81
   go_wp2_with fail
   have C1 := zh (Q14 zs HBUw0.out hzw0 (by rw [HTX.out] at hl; (try simp only [wtx, Q0i] at hl); (try simp only [Q0r] at hl); (try simp only [zA7, zA8, zA9, Q0r, lst_app, Q0F, Q11, Q0S, ByteArray.size_append, bsz0, bsz1, bsz2]); (try simp only [Q0i]); first | omega | (simp [ByteArray.size] at hl ⊢; omega)))
   go_wp2_with fail
   refine C1.out.mono ?_
   rintro e w1 ⟨rfl, k1, k2, k3⟩
   have HBUw1 := zh k1
   have HWw1 : Hid (Below B w w1) := HWw0.out.trans k2
   have HOw1 : Hid (Lib.OthersKept 5 (some b) w w1) := HOw0.out.trans k3
   have HRw1 := zh (Q0E k3 HRw0.out hgb (by decide))
   obtain ⟨m0, m1, m2, m3, m4, _, _, _, _, _⟩ := row5 HRw1.out
   have hzw1 : B ≤ w1.heap.size := zM hB HWw1.out.size
   clear k1 k2 k3
   clear C1
   go_wp2_with fail
   go_end0
   exact ⟨rfl, (by have h := HBUw1.out; rw [HTX.out]; simpa [wtx, Q0i, Q0F, Q11, Q0S, lst_app] using h), HWw1.out, HOw1.out⟩
  ·by_cases h7 : zk = 7
   ·subst h7
    have HTX : Hid (tx (.mk 7 zp zs zA zc zw zBq zd zz) = tx1 7 (lst zs) (wtx zw) (txs zz)) := rfl
    rw [Qcg] at HTX
    go_enter Tryz.func81, Tryz.ntmps81
    go_wp2_with fail
    have C1 := zh (Q2W 35 HBUw0.out hzw0 (by rw [HTX.out] at hl; (try simp only [Q0i] at hl); (try simp only [zA8] at hl); (try simp only [zA7, zA8, zA9, Q0r, lst_app, Q0F, Q11, Q0S, ByteArray.size_append, bsz0, bsz1, bsz2]); (try simp only [Q0i]); first | omega | (simp [ByteArray.size] at hl ⊢; omega)))
    go_wp2_with fail
    refine C1.out.mono ?_
    rintro e w1 ⟨rfl, k1, k2, k3⟩
    have HBUw1 := zh k1
    have HWw1 : Hid (Below B w w1) := HWw0.out.trans k2
    have HOw1 : Hid (Lib.OthersKept 5 (some b) w w1) := HOw0.out.trans k3
    have HRw1 := zh (Q0E k3 HRw0.out hgb (by decide))
    obtain ⟨m0, m1, m2, m3, m4, _, _, _, _, _⟩ := row5 HRw1.out
    have hzw1 : B ≤ w1.heap.size := zM hB HWw1.out.size
    clear k1 k2 k3
    clear C1
    have C2 := zh (Q7C (K := fun w B => Nods w B zz) zBq zd zz HKF.out _ _ _ _ HBUw1.out hzw1 (by rw [HTX.out] at hl; (try simp only [Q0i] at hl); (try simp only [zA8] at hl); (try simp only [zA7, zA8, zA9]); (try simp only [Q0i]); first | omega | (simp [ByteArray.size] at hl ⊢; omega)) (HNK.out.below HWw1.out) (HSK.out.below HWw1.out))
    go_wp2_with fail
    refine C2.out.mono ?_
    rintro e w2 ⟨rfl, k1, k2, k3⟩
    have HBUw2 := zh k1
    have HWw2 : Hid (Below B w w2) := HWw1.out.trans k2
    have HOw2 : Hid (Lib.OthersKept 5 (some b) w w2) := HOw1.out.trans k3
    have HRw2 := zh (Q0E k3 HRw1.out hgb (by decide))
    obtain ⟨m0, m1, m2, m3, m4, _, _, _, _, _⟩ := row5 HRw2.out
    have hzw2 : B ≤ w2.heap.size := zM hB HWw2.out.size
    clear k1 k2 k3
    clear C2
    go_wp2_with fail
    go_end0
    exact ⟨rfl, (by have h := HBUw2.out; rw [HTX.out]; simpa [wtx, Q0i, Q0F, Q11, Q0S, lst_app] using h), HWw2.out, HOw2.out⟩
   ·by_cases h11 : zk = 11
    ·subst h11
     have HTX : Hid (tx (.mk 11 zp zs zA zc zw zBq zd zz) = tx1 11 (lst zs) (wtx zw) (txs zz)) := rfl
     rw [Qch] at HTX
     have hsz : zs.size ≤ 140737488355327 := by
      rw [HTX.out] at hl
      simp only [zA7, zA8, Q0r] at hl
      omega
     go_enter Tryz.func81, Tryz.ntmps81
     go_wp2_with fail
     have C1 := zh (Q14 (zs ++ ⟨#[61]⟩) HBUw0.out hzw0 (by rw [HTX.out] at hl; (try simp only [Q0i] at hl); (try simp only [zA7, zA8, Q0r] at hl); (try simp only [ByteArray.size_append, bsz1]); (try simp only [Q0i]); first | omega | (simp [ByteArray.size] at hl ⊢; omega)))
     go_wp2_with fail
     refine C1.out.mono ?_
     rintro e w1 ⟨rfl, k1, k2, k3⟩
     have HBUw1 := zh k1
     have HWw1 : Hid (Below B w w1) := HWw0.out.trans k2
     have HOw1 : Hid (Lib.OthersKept 5 (some b) w w1) := HOw0.out.trans k3
     have HRw1 := zh (Q0E k3 HRw0.out hgb (by decide))
     obtain ⟨m0, m1, m2, m3, m4, _, _, _, _, _⟩ := row5 HRw1.out
     have hzw1 : B ≤ w1.heap.size := zM hB HWw1.out.size
     clear k1 k2 k3
     clear C1
     have C2 := zh (Q7C (K := fun w B => Nods w B zz) zBq zd zz HKF.out _ _ _ _ HBUw1.out hzw1 (by rw [HTX.out] at hl; (try simp only [Q0i] at hl); (try simp only [zA7, zA8, Q0r] at hl); (try simp only [zA7, zA8, zA9, Q0r, lst_app, Q0F]); (try simp only [Q0i]); first | omega | (simp [ByteArray.size] at hl ⊢; omega)) (HNK.out.below HWw1.out) (HSK.out.below HWw1.out))
     go_wp2_with fail
     refine C2.out.mono ?_
     rintro e w2 ⟨rfl, k1, k2, k3⟩
     have HBUw2 := zh k1
     have HWw2 : Hid (Below B w w2) := HWw1.out.trans k2
     have HOw2 : Hid (Lib.OthersKept 5 (some b) w w2) := HOw1.out.trans k3
     have HRw2 := zh (Q0E k3 HRw1.out hgb (by decide))
     obtain ⟨m0, m1, m2, m3, m4, _, _, _, _, _⟩ := row5 HRw2.out
     have hzw2 : B ≤ w2.heap.size := zM hB HWw2.out.size
     clear k1 k2 k3
     clear C2
     go_wp2_with fail
     go_end0
     exact ⟨rfl, (by have h := HBUw2.out; rw [HTX.out]; simpa [wtx, Q0i, Q0F, Q11, Q0S, lst_app] using h), HWw2.out, HOw2.out⟩
    ·by_cases h4 : zk = 4
     ·subst h4
      have HTX : Hid (tx (.mk 4 zp zs zA zc zw zBq zd zz) = tx1 4 (lst zs) (wtx zw) (txs zz)) := rfl
      rw [Qci] at HTX
      go_enter Tryz.func81, Tryz.ntmps81
      go_wp2_with fail
      have C1 := zh ((Q2X (fun _ _ => by kernel_rfl) zBq zd zz (by omega) HKF.out (fun wa wb B h hb => h.below hb) ⟨#[40]⟩ ⟨#[41]⟩ _ _ _ _ HBUw0.out hzw0 (by rw [HTX.out] at hl; (try simp only [Q0i] at hl); (try simp only [zA7, zA8, zA9] at hl); (try simp only [zA7, zA8, zA9, Q0F]); (try simp only [Q0i]); first | omega | (simp [ByteArray.size] at hl ⊢; omega)) (HNK.out.below HWw0.out) (HSK.out.below HWw0.out)))
      go_wp2_with fail
      refine C1.out.mono ?_
      rintro e w1 ⟨rfl, k1, k2, k3⟩
      have HBUw1 := zh k1
      have HWw1 : Hid (Below B w w1) := HWw0.out.trans k2
      have HOw1 : Hid (Lib.OthersKept 5 (some b) w w1) := HOw0.out.trans k3
      have HRw1 := zh (Q0E k3 HRw0.out hgb (by decide))
      obtain ⟨m0, m1, m2, m3, m4, _, _, _, _, _⟩ := row5 HRw1.out
      have hzw1 : B ≤ w1.heap.size := zM hB HWw1.out.size
      clear k1 k2 k3
      clear C1
      go_wp2_with fail
      go_end0
      exact ⟨rfl, (by have h := HBUw1.out; rw [HTX.out]; simpa [wtx, Q0i, Q0F, Q11, Q0S, lst_app] using h), HWw1.out, HOw1.out⟩
     ·by_cases h8 : zk = 8
      ·subst h8
       have HTX : Hid (tx (.mk 8 zp zs zA zc zw zBq zd zz) = tx1 8 (lst zs) (wtx zw) (txs zz)) := rfl
       rw [Qcj] at HTX
       go_enter Tryz.func81, Tryz.ntmps81
       go_wp2_with fail
       have C1 := zh ((Q2X (fun _ _ => by kernel_rfl) zBq zd zz (by omega) HKF.out (fun wa wb B h hb => h.below hb) ⟨#[43, 40]⟩ ⟨#[41]⟩ _ _ _ _ HBUw0.out hzw0 (by rw [HTX.out] at hl; (try simp only [Q0i] at hl); (try simp only [zA7, zA8, zA9] at hl); (try simp only [zA7, zA8, zA9, Q0F, Q11]); (try simp only [Q0i]); first | omega | (simp [ByteArray.size] at hl ⊢; omega)) (HNK.out.below HWw0.out) (HSK.out.below HWw0.out)))
       go_wp2_with fail
       refine C1.out.mono ?_
       rintro e w1 ⟨rfl, k1, k2, k3⟩
       have HBUw1 := zh k1
       have HWw1 : Hid (Below B w w1) := HWw0.out.trans k2
       have HOw1 : Hid (Lib.OthersKept 5 (some b) w w1) := HOw0.out.trans k3
       have HRw1 := zh (Q0E k3 HRw0.out hgb (by decide))
       obtain ⟨m0, m1, m2, m3, m4, _, _, _, _, _⟩ := row5 HRw1.out
       have hzw1 : B ≤ w1.heap.size := zM hB HWw1.out.size
       clear k1 k2 k3
       clear C1
       go_wp2_with fail
       go_end0
       exact ⟨rfl, (by have h := HBUw1.out; rw [HTX.out]; simpa [wtx, Q0i, Q0F, Q11, Q0S, lst_app] using h), HWw1.out, HOw1.out⟩
      ·by_cases h9 : zk = 9
       ·subst h9
        have HTX : Hid (tx (.mk 9 zp zs zA zc zw zBq zd zz) = tx1 9 (lst zs) (wtx zw) (txs zz)) := rfl
        rw [Qck] at HTX
        go_enter Tryz.func81, Tryz.ntmps81
        go_wp2_with fail
        have C1 := zh ((Q2X (fun _ _ => by kernel_rfl) zBq zd zz (by omega) HKF.out (fun wa wb B h hb => h.below hb) ⟨#[38, 40]⟩ ⟨#[41]⟩ _ _ _ _ HBUw0.out hzw0 (by rw [HTX.out] at hl; (try simp only [Q0i] at hl); (try simp only [zA7, zA8, zA9] at hl); (try simp only [zA7, zA8, zA9, Q0F, Q11]); (try simp only [Q0i]); first | omega | (simp [ByteArray.size] at hl ⊢; omega)) (HNK.out.below HWw0.out) (HSK.out.below HWw0.out)))
        go_wp2_with fail
        refine C1.out.mono ?_
        rintro e w1 ⟨rfl, k1, k2, k3⟩
        have HBUw1 := zh k1
        have HWw1 : Hid (Below B w w1) := HWw0.out.trans k2
        have HOw1 : Hid (Lib.OthersKept 5 (some b) w w1) := HOw0.out.trans k3
        have HRw1 := zh (Q0E k3 HRw0.out hgb (by decide))
        obtain ⟨m0, m1, m2, m3, m4, _, _, _, _, _⟩ := row5 HRw1.out
        have hzw1 : B ≤ w1.heap.size := zM hB HWw1.out.size
        clear k1 k2 k3
        clear C1
        go_wp2_with fail
        go_end0
        exact ⟨rfl, (by have h := HBUw1.out; rw [HTX.out]; simpa [wtx, Q0i, Q0F, Q11, Q0S, lst_app] using h), HWw1.out, HOw1.out⟩
       ·by_cases h5 : zk = 5
        ·subst h5
         have HTX : Hid (tx (.mk 5 zp zs zA zc zw zBq zd zz) = tx1 5 (lst zs) (wtx zw) (txs zz)) := rfl
         rw [Qcl] at HTX
         go_enter Tryz.func81, Tryz.ntmps81
         go_wp2_with fail
         have C1 := zh ((Q2X (fun _ _ => by kernel_rfl) zBq zd zz (by omega) HKF.out (fun wa wb B h hb => h.below hb) ⟨#[91]⟩ ⟨#[93]⟩ _ _ _ _ HBUw0.out hzw0 (by rw [HTX.out] at hl; (try simp only [Q0i] at hl); (try simp only [zA7, zA8, zA9] at hl); (try simp only [zA7, zA8, zA9, Q0F]); (try simp only [Q0i]); first | omega | (simp [ByteArray.size] at hl ⊢; omega)) (HNK.out.below HWw0.out) (HSK.out.below HWw0.out)))
         go_wp2_with fail
         refine C1.out.mono ?_
         rintro e w1 ⟨rfl, k1, k2, k3⟩
         have HBUw1 := zh k1
         have HWw1 : Hid (Below B w w1) := HWw0.out.trans k2
         have HOw1 : Hid (Lib.OthersKept 5 (some b) w w1) := HOw0.out.trans k3
         have HRw1 := zh (Q0E k3 HRw0.out hgb (by decide))
         obtain ⟨m0, m1, m2, m3, m4, _, _, _, _, _⟩ := row5 HRw1.out
         have hzw1 : B ≤ w1.heap.size := zM hB HWw1.out.size
         clear k1 k2 k3
         clear C1
         go_wp2_with fail
         go_end0
         exact ⟨rfl, (by have h := HBUw1.out; rw [HTX.out]; simpa [wtx, Q0i, Q0F, Q11, Q0S, lst_app] using h), HWw1.out, HOw1.out⟩
        ·by_cases h3 : zk = 3
         ·subst h3
          have HTX : Hid (tx (.mk 3 zp zs zA zc zw zBq zd zz) = tx1 3 (lst zs) (wtx zw) (txs zz)) := rfl
          rw [Qcm] at HTX
          go_enter Tryz.func81, Tryz.ntmps81
          go_wp2_with fail
          have C1 := zh ((Q5z (f := fun x => lst x.s) (KK := fun _ _ => True) (fun _ _ => by kernel_rfl) zA zc zw (by omega) (fun z _ => Q5y z _) (fun _ _ _ _ _ => trivial) ⟨#[123]⟩ ⟨#[125]⟩ _ _ _ _ HBUw0.out hzw0 (by rw [HTX.out] at hl; (try simp only [wtx] at hl); (try simp only [zA7, zA8, zA9] at hl); (try simp only [zA7, zA8, zA9, Q0F]); (try simp only [Q0i]); first | omega | (simp [ByteArray.size] at hl ⊢; omega)) trivial (HSW.out.below HWw0.out)))
          go_wp2_with fail
          refine C1.out.mono ?_
          rintro e w1 ⟨rfl, k1, k2, k3⟩
          have HBUw1 := zh k1
          have HWw1 : Hid (Below B w w1) := HWw0.out.trans k2
          have HOw1 : Hid (Lib.OthersKept 5 (some b) w w1) := HOw0.out.trans k3
          have HRw1 := zh (Q0E k3 HRw0.out hgb (by decide))
          obtain ⟨m0, m1, m2, m3, m4, _, _, _, _, _⟩ := row5 HRw1.out
          have hzw1 : B ≤ w1.heap.size := zM hB HWw1.out.size
          clear k1 k2 k3
          clear C1
          go_wp2_with fail
          go_end0
          exact ⟨rfl, (by have h := HBUw1.out; rw [HTX.out]; simpa [wtx, Q0i, Q0F, Q11, Q0S, lst_app] using h), HWw1.out, HOw1.out⟩
         ·by_cases h6 : zk = 6
          ·subst h6
           have HTX : Hid (tx (.mk 6 zp zs zA zc zw zBq zd zz) = tx1 6 (lst zs) (wtx zw) (txs zz)) := rfl
           rw [Qcn] at HTX
           go_enter Tryz.func81, Tryz.ntmps81
           go_wp2_with fail
           have C1 := zh (Q14 zs HBUw0.out hzw0 (by rw [HTX.out] at hl; (try simp only [wtx] at hl); (try simp only [zA7, zA8, zA9, Q0r] at hl); (try simp only [zA7, zA8, zA9, Q0r, lst_app, Q0F, Q11, Q0S, ByteArray.size_append, bsz0, bsz1, bsz2]); (try simp only [Q0i]); first | omega | (simp [ByteArray.size] at hl ⊢; omega)))
           go_wp2_with fail
           refine C1.out.mono ?_
           rintro e w1 ⟨rfl, k1, k2, k3⟩
           have HBUw1 := zh k1
           have HWw1 : Hid (Below B w w1) := HWw0.out.trans k2
           have HOw1 : Hid (Lib.OthersKept 5 (some b) w w1) := HOw0.out.trans k3
           have HRw1 := zh (Q0E k3 HRw0.out hgb (by decide))
           obtain ⟨m0, m1, m2, m3, m4, _, _, _, _, _⟩ := row5 HRw1.out
           have hzw1 : B ≤ w1.heap.size := zM hB HWw1.out.size
           clear k1 k2 k3
           clear C1
           have C2 := zh ((Q5z (f := fun x => lst x.s) (KK := fun _ _ => True) (fun _ _ => by kernel_rfl) zA zc zw (by omega) (fun z _ => Q5y z _) (fun _ _ _ _ _ => trivial) ⟨#[58, 123]⟩ ⟨#[125]⟩ _ _ _ _ HBUw1.out hzw1 (by rw [HTX.out] at hl; (try simp only [wtx] at hl); (try simp only [zA7, zA8, zA9, Q0r] at hl); (try simp only [zA7, zA8, zA9, Q0r, Q0F, Q11]); (try simp only [Q0i]); first | omega | (simp [ByteArray.size] at hl ⊢; omega)) trivial (HSW.out.below HWw1.out)))
           go_wp2_with fail
           refine C2.out.mono ?_
           rintro e w2 ⟨rfl, k1, k2, k3⟩
           have HBUw2 := zh k1
           have HWw2 : Hid (Below B w w2) := HWw1.out.trans k2
           have HOw2 : Hid (Lib.OthersKept 5 (some b) w w2) := HOw1.out.trans k3
           have HRw2 := zh (Q0E k3 HRw1.out hgb (by decide))
           obtain ⟨m0, m1, m2, m3, m4, _, _, _, _, _⟩ := row5 HRw2.out
           have hzw2 : B ≤ w2.heap.size := zM hB HWw2.out.size
           clear k1 k2 k3
           clear C2
           go_wp2_with fail
           go_end0
           exact ⟨rfl, (by have h := HBUw2.out; rw [HTX.out]; simpa [wtx, Q0i, Q0F, Q11, Q0S, lst_app] using h), HWw2.out, HOw2.out⟩
          ·by_cases h10 : zk = 10
           ·subst h10
            have HTX : Hid (tx (.mk 10 zp zs zA zc zw zBq zd zz) = tx1 10 (lst zs) (wtx zw) (txs zz)) := rfl
            rw [Qco] at HTX
            by_cases hw : zw = []
            ·subst hw
             rw [if_pos (show wtx [] = [] from rfl)] at HTX
             simp only [zA9] at *
             go_enter Tryz.func81, Tryz.ntmps81
             go_wp2_with fail
             have C1 := zh ((Q2X (fun _ _ => by kernel_rfl) zBq zd zz (by omega) HKF.out (fun wa wb B h hb => h.below hb) ⟨#[91]⟩ ⟨#[]⟩ _ _ _ _ HBUw0.out hzw0 (by rw [HTX.out] at hl; (try simp only [Q0i] at hl); (try simp only [zA7, zA8, zA9] at hl); (try simp only [zA7, zA8, zA9, Q0F, Q0S]); (try simp only [Q0i]); first | omega | (simp [ByteArray.size] at hl ⊢; omega)) (HNK.out.below HWw0.out) (HSK.out.below HWw0.out)))
             go_wp2_with fail
             refine C1.out.mono ?_
             rintro e w1 ⟨rfl, k1, k2, k3⟩
             have HBUw1 := zh k1
             have HWw1 : Hid (Below B w w1) := HWw0.out.trans k2
             have HOw1 : Hid (Lib.OthersKept 5 (some b) w w1) := HOw0.out.trans k3
             have HRw1 := zh (Q0E k3 HRw0.out hgb (by decide))
             obtain ⟨m0, m1, m2, m3, m4, _, _, _, _, _⟩ := row5 HRw1.out
             have hzw1 : B ≤ w1.heap.size := zM hB HWw1.out.size
             clear k1 k2 k3
             clear C1
             have C2 := zh (Q2W 93 HBUw1.out hzw1 (by rw [HTX.out] at hl; (try simp only [Q0i] at hl); (try simp only [zA7, zA8, zA9] at hl); (try simp only [zA7, zA8, zA9, Q0F, Q0S]); (try simp only [Q0i]); first | omega | (simp [ByteArray.size] at hl ⊢; omega)))
             go_wp2_with fail
             refine C2.out.mono ?_
             rintro e w2 ⟨rfl, k1, k2, k3⟩
             have HBUw2 := zh k1
             have HWw2 : Hid (Below B w w2) := HWw1.out.trans k2
             have HOw2 : Hid (Lib.OthersKept 5 (some b) w w2) := HOw1.out.trans k3
             have HRw2 := zh (Q0E k3 HRw1.out hgb (by decide))
             obtain ⟨m0, m1, m2, m3, m4, _, _, _, _, _⟩ := row5 HRw2.out
             have hzw2 : B ≤ w2.heap.size := zM hB HWw2.out.size
             clear k1 k2 k3
             clear C2
             go_wp2_with fail
             go_end0
             exact ⟨rfl, (by have h := HBUw2.out; rw [HTX.out]; simpa [wtx, Q0i, Q0F, Q0S] using h), HWw2.out, HOw2.out⟩
            ·rw [if_neg (show ¬ wtx zw = [] from fun e => hw (List.map_eq_nil_iff.1 e))] at HTX
             have hwl : 0 < zw.length := List.length_pos_iff.2 hw
             go_enter Tryz.func81, Tryz.ntmps81
             go_wp2_with fail
             have C1 := zh ((Q2X (fun _ _ => by kernel_rfl) zBq zd zz (by omega) HKF.out (fun wa wb B h hb => h.below hb) ⟨#[91]⟩ ⟨#[]⟩ _ _ _ _ HBUw0.out hzw0 (by rw [HTX.out] at hl; (try simp only [wtx, Q0i] at hl); (try simp only [zA7, zA8, zA9] at hl); (try simp only [zA7, zA8, zA9, Q0F, Q0S]); (try simp only [Q0i]); first | omega | (simp [ByteArray.size] at hl ⊢; omega)) (HNK.out.below HWw0.out) (HSK.out.below HWw0.out)))
             go_wp2_with fail
             refine C1.out.mono ?_
             rintro e w1 ⟨rfl, k1, k2, k3⟩
             have HBUw1 := zh k1
             have HWw1 : Hid (Below B w w1) := HWw0.out.trans k2
             have HOw1 : Hid (Lib.OthersKept 5 (some b) w w1) := HOw0.out.trans k3
             have HRw1 := zh (Q0E k3 HRw0.out hgb (by decide))
             obtain ⟨m0, m1, m2, m3, m4, _, _, _, _, _⟩ := row5 HRw1.out
             have hzw1 : B ≤ w1.heap.size := zM hB HWw1.out.size
             clear k1 k2 k3
             clear C1
             have C2 := zh ((Q5z (f := fun x => lst x.s) (KK := fun _ _ => True) (fun _ _ => by kernel_rfl) zA zc zw (by omega) (fun z _ => Q5y z _) (fun _ _ _ _ _ => trivial) ⟨#[124]⟩ ⟨#[]⟩ _ _ _ _ HBUw1.out hzw1 (by rw [HTX.out] at hl; (try simp only [wtx, Q0i] at hl); (try simp only [zA7, zA8, zA9] at hl); (try simp only [zA7, zA8, zA9, Q0F, Q0S]); (try simp only [Q0i]); first | omega | (simp [ByteArray.size] at hl ⊢; omega)) trivial (HSW.out.below HWw1.out)))
             go_wp2_with fail
             refine C2.out.mono ?_
             rintro e w2 ⟨rfl, k1, k2, k3⟩
             have HBUw2 := zh k1
             have HWw2 : Hid (Below B w w2) := HWw1.out.trans k2
             have HOw2 : Hid (Lib.OthersKept 5 (some b) w w2) := HOw1.out.trans k3
             have HRw2 := zh (Q0E k3 HRw1.out hgb (by decide))
             obtain ⟨m0, m1, m2, m3, m4, _, _, _, _, _⟩ := row5 HRw2.out
             have hzw2 : B ≤ w2.heap.size := zM hB HWw2.out.size
             clear k1 k2 k3
             clear C2
             have C3 := zh (Q2W 93 HBUw2.out hzw2 (by rw [HTX.out] at hl; (try simp only [wtx, Q0i] at hl); (try simp only [zA7, zA8, zA9] at hl); (try simp only [zA7, zA8, zA9, Q0F, Q0S]); (try simp only [Q0i]); first | omega | (simp [ByteArray.size] at hl ⊢; omega)))
             go_wp2_with fail
             refine C3.out.mono ?_
             rintro e w3 ⟨rfl, k1, k2, k3⟩
             have HBUw3 := zh k1
             have HWw3 : Hid (Below B w w3) := HWw2.out.trans k2
             have HOw3 : Hid (Lib.OthersKept 5 (some b) w w3) := HOw2.out.trans k3
             have HRw3 := zh (Q0E k3 HRw2.out hgb (by decide))
             obtain ⟨m0, m1, m2, m3, m4, _, _, _, _, _⟩ := row5 HRw3.out
             have hzw3 : B ≤ w3.heap.size := zM hB HWw3.out.size
             clear k1 k2 k3
             clear C3
             go_wp2_with fail
             go_end0
             exact ⟨rfl, (by have h := HBUw3.out; rw [HTX.out]; simpa [wtx, Q0i, Q0F, Q0S] using h), HWw3.out, HOw3.out⟩
           ·have q1 : (zk == 1) = false := by rw [beq_eq_false_iff_ne]; exact h1
            have q2 : (zk == 2) = false := by rw [beq_eq_false_iff_ne]; exact h2
            have q7 : (zk == 7) = false := by rw [beq_eq_false_iff_ne]; exact h7
            have q11 : (zk == 11) = false := by rw [beq_eq_false_iff_ne]; exact h11
            have q4 : (zk == 4) = false := by rw [beq_eq_false_iff_ne]; exact h4
            have q8 : (zk == 8) = false := by rw [beq_eq_false_iff_ne]; exact h8
            have q9 : (zk == 9) = false := by rw [beq_eq_false_iff_ne]; exact h9
            have q5 : (zk == 5) = false := by rw [beq_eq_false_iff_ne]; exact h5
            have q3 : (zk == 3) = false := by rw [beq_eq_false_iff_ne]; exact h3
            have q6 : (zk == 6) = false := by rw [beq_eq_false_iff_ne]; exact h6
            have q10 : (zk == 10) = false := by rw [beq_eq_false_iff_ne]; exact h10
            have HTX : Hid (tx (.mk zk zp zs zA zc zw zBq zd zz) = []) := Qcp _ _ _ h1 h2 h7 h11 h4 h8 h9 h5 h3 h6 h10
            go_enter Tryz.func81, Tryz.ntmps81
            go_wp2_with fail
            go_end0
            exact ⟨rfl, (by rw [HTX.out, List.append_nil]; exact HBUw0.out), HWw0.out, HOw0.out⟩
theorem Qcr : ∀ N, N ≤ 4294967296 → ∀ z, cnt [z] ≤ N → Writes 81 (.agg (nv z)) (tx z) (fun w B => Nods w B [z]) := by
 intro N
 induction N with
 | zero => intro _ z hz; rw [Q10] at hz; omega
 | succ N ih => intro h z hz; exact Qcq N (by omega) (ih (by omega)) z hz
def Q2t (z : Nd) : ByteArray := ⟨(tx z).toArray⟩
theorem Q7D (z : Nd) (w : World) (hz : cnt [z] ≤ 4294967296) (hl : (tx z).length ≤ 140737488355328) (h : Nods w w.heap.size [z]) :
 Calls Tryz.prog 36 #[.agg (nv z)] w fun e w' => e = .returned (.string (Q2t z)) ∧ Below w.heap.size w w' := by
 have HB0 : Hid (Below w.heap.size w ((w.alloc (.cells (nv z) 29)).alloc (.cells #[.pointer none, .slice none 0 0] 65))) := ((zB _ _).alloc (zL _) _).alloc (by simp) _
 have hbl : Bld ((w.alloc (.cells (nv z) 29)).alloc (.cells #[.pointer none, .slice none 0 0] 65)) (w.heap.size + 1) (w.heap.size + 1) [] := by
  have h1 := Lib.fresh_isBuilder 65 5 (w.alloc (.cells (nv z) 29))
  rw [show (w.alloc (.cells (nv z) 29)).heap.size = w.heap.size + 1 by simp] at h1
  exact h1
 have HC := zh (Qcr _ (zL _) z hz _ _ _ _ hbl (by simp) (by simpa using hl) ((h.below HB0.out).mono (Nat.le_succ _)))
 have hn := (RowAt.new w 29 (nv z)).alloc (.cells #[.pointer none, .slice none 0 0] 65)
 rw [List.nil_append] at HC
 clear hbl h
 have HTX : Hid (Q2t z = ⟨(tx z).toArray⟩) := rfl
 generalize tx z = t at *
 generalize Q2t z = tt at *
 obtain ⟨zk, zp, zs, zA, zc, zw, zBq, zd, zz⟩ := z
 unfold nv at HB0 HC hn ⊢
 simp only [Nd.k, Nd.p, Nd.s, Nd.A, Nd.c, Nd.ws, Nd.B, Nd.d, Nd.ks] at HB0 HC hn ⊢
 obtain ⟨m0, m1, m2, m3, m4, _, _, _, _, _⟩ := row5 hn
 clear hn
 go_enter Tryz.func36, Tryz.ntmps36
 go_wp2_with fail
 refine HC.out.mono ?_
 rintro e w1 ⟨rfl, k1, k2, _⟩
 have HBU := zh k1
 have HW := zh (HB0.out.trans (k2.mono (Nat.le_succ _)))
 have hsz : w.heap.size + 1 ≤ w1.heap.size := Nat.le_of_lt (Q20 k1)
 clear k1 k2
 go_wp2_with fail
 refine (Tryz.Builder_String_any _ _ _ _ HBU.out hsz).mono ?_
 rintro e w2 ⟨rfl, hb⟩
 have HW1 := zh (HW.out.trans (hb.mono (Nat.le_succ _))); clear hb
 go_wp2
 go_ret
 exact ⟨Q0o (by rw [HTX.out]; rfl), HW1.out⟩
end
section
namespace TM
open LX TR
theorem Q15 (x : Tr) (r : List Tr) : TR.er (x :: r) = .mk x.t none 0 (TR.er x.ks) x.e :: TR.er r := by cases x; rw [TR.er]; rfl
theorem Q16 : TR.er [] = [] := by simp [TR.er]
def mapR {α : Type} (x : Res α) : Res α := match x with
 | .error p => .error p
 | .ok (a, r) => .ok (a, TR.er r)
def EI {α : Type} (rd : Rdr α) : Prop := ∀ ts e, rd (TR.er ts) e = mapR (rd ts e)
theorem EI.bind {α β : Type} {rd : Rdr α} {rd2 : α → Rdr β} (h : EI rd) (h2 : ∀ a, EI (rd2 a)) : EI (fun ts e => bnd (rd ts e) fun a r => rd2 a r e) := fun ts e => by
 show bnd (rd (TR.er ts) e) _ = mapR (bnd (rd ts e) _)
 rw [h]
 cases rd ts e with
 | error p => rfl
 | ok ar => obtain ⟨a, r⟩ := ar; exact h2 a r e
theorem EI.pure {α : Type} (x : α) : EI (fun ts _ => .ok (x, ts)) := fun _ _ => rfl
theorem EI.map {α β : Type} {rd : Rdr α} (g : α → β) (h : EI rd) : EI (fun ts e => bnd (rd ts e) fun a r => .ok (g a, r)) := EI.bind (rd2 := fun a ts _ => .ok (g a, ts)) h fun a => EI.pure _
theorem ei_take (k : Nat) : EI (Q0d k) := fun ts e => by
 cases ts with
 | nil => rw [Q16]; rfl
 | cons x r =>
   rw [Q15]
   simp only [Q0d]
   show (if x.t.k = k then _ else _) = _
   split <;> rfl
theorem Q1O : EI Q05 := EI.map (fun t : Tk => (⟨t.s, t.p⟩ : Wd)) (ei_take 97)
theorem Q7E {α : Type} {el : Rdr α} (h : EI el) : ∀ n, EI (Q0v el n)
 | 0 => fun _ _ => rfl
 | n + 1 => fun ts e => by
   cases ts with
   | nil => rw [Q16]; simp only [Q0v]; simp [mapR, Q16]
   | cons c r =>
     have h2 := EI.bind (rd2 := fun x ts e => bnd (Q0v el n ts e) fun xs r3 => .ok (x :: xs, r3)) h (fun x => EI.map (fun xs => x :: xs) (Q7E h n)) r e
     rw [Q15]
     simp only [Q0v]
     show (if c.t.k = 44 then _ else _) = _
     split
     ·exact h2
     ·simp [mapR, Q15]
theorem Q3w {α : Type} {el : Rdr α} (h : EI el) : EI (Q0c el) := fun ts e => by
 have h2 := EI.bind (rd2 := fun x ts2 e => bnd (Q0v el ts.length ts2 e) fun xs r3 => .ok (x :: xs, r3)) h (fun x => EI.map (fun xs => x :: xs) (Q7E h _)) ts e
 unfold Q0c
 rw [TR.er_length]
 exact h2
theorem Q4m {α : Type} {el : Rdr α} (h : EI el) : EI (optR el) := fun ts e => by
 cases ts with
 | nil => rw [Q16]; simp [optR, mapR, Q16]
 | cons x r =>
   have h2 := Q3w h (x :: r) e
   rw [Q15] at h2 ⊢
   simp only [optR]
   show (if x.t.k = 124 then _ else _) = _
   split
   ·simp [mapR, Q15]
   ·exact h2
theorem Q2g {α : Type} {rd : Rdr α} (k : Nat) (h : EI rd) : EI (Q0f k rd) := fun ts e => by
 cases ts with
 | nil => rw [Q16]; rfl
 | cons x r =>
   rw [Q15]
   simp only [Q0f]
   show (if x.t.k = k then bnd (rd (TR.er x.ks) x.e) _ else _) = _
   split
   ·rw [h x.ks x.e]
    cases rd x.ks x.e with
    | error p => rfl
    | ok ar =>
      obtain ⟨a, r2⟩ := ar
      cases r2 with
      | nil => simp [bnd, mapR, Q16]
      | cons y r3 => simp [bnd, mapR, Q15]; rfl
   ·rfl
theorem Q7F : EI setR := Q2g 123 (Q4m Q1O)
theorem Qcs : EI Q0K := Q2g 123 (Q3w Q1O)
theorem Qct : EI Q0z := by
 have h1 : ∀ w : Wd, EI (fun ts e => bnd (Q0d 58 ts e) fun _ r2 => bnd (setR r2 e) fun ws r3 => .ok (nd 6 w.p w.s ws [], r3)) := fun w =>
  EI.bind (rd2 := fun _ ts e => bnd (setR ts e) fun ws r3 => .ok (nd 6 w.p w.s ws [], r3)) (ei_take 58) fun _ => EI.map (fun ws => nd 6 w.p w.s ws []) Q7F
 have h2 := EI.bind (rd2 := fun w ts e => bnd (Q0d 58 ts e) fun _ r2 => bnd (setR r2 e) fun ws r3 => .ok (nd 6 w.p w.s ws [], r3)) Q1O h1
 exact h2
theorem Q7G : ∀ d, EI (Q0a d)
 | 0 => fun _ _ => rfl
 | d + 1 => fun ts e => by
   cases ts with
   | nil => rw [Q16]; rfl
   | cons x r =>
     have h1 := (EI.map (fun ws => nd 3 x.t.p e0 ws []) Q7F) (x :: r) e
     have h2 := (EI.map (fun ks => nd 4 x.t.p e0 [] ks) (Q2g 40 (Q3w (Q7G d)))) (x :: r) e
     have h3 := (EI.map (fun ks => nd 5 x.t.p e0 [] ks) (Q2g 91 (Q4m Qct))) (x :: r) e
     rw [Q15] at h1 h2 h3 ⊢
     simp only [Q0a]
     show (if x.t.k = 97 then _ else if x.t.k = 123 then _ else if x.t.k = 40 then _ else if x.t.k = 91 then _ else _) = _
     split
     ·rfl
     ·split
      ·exact h1
      ·split
       ·exact h2
       ·split
        ·exact h3
        ·rfl
theorem Q7H : EI varR := EI.map (fun w : Wd => nd 1 w.p w.s [] []) Q1O
theorem Q7I (d : Nat) : EI (Q0n d) := fun ts e => by
 cases ts with
 | nil => rw [Q16]; rfl
 | cons x r =>
   have h1 := (EI.map (fun n => nd 7 x.t.p e0 [] [n]) (Q7G d)) r e
   have h2 := Q7H (x :: r) e
   rw [Q15] at h2 ⊢
   simp only [Q0n]
   show (if x.t.k = 35 then _ else _) = _
   split
   ·exact h1
   ·exact h2
theorem Q5A : ∀ d, EI (Q09 d)
 | 0 => fun _ _ => rfl
 | d + 1 => fun ts e => by
   cases ts with
   | nil => rw [Q16]; rfl
   | cons x r =>
     have h1 := (EI.map (fun ks => nd 8 x.t.p e0 [] ks) (Q2g 40 (Q3w (Q5A d)))) r e
     have h2 := (EI.map (fun ks => nd 9 x.t.p e0 [] ks) (Q2g 40 (Q3w (Q5A d)))) r e
     have h3 := Q7I (d + 1) (x :: r) e
     rw [Q15] at h3 ⊢
     simp only [Q09]
     show (if x.t.k = 43 then _ else if x.t.k = 38 then _ else _) = _
     split
     ·exact h1
     ·split
      ·exact h2
      ·exact h3
theorem Qcu (d : Nat) : EI (Q0G d) := by
 have h1 : ∀ w : Wd, EI (fun ts e => bnd (Q0d 61 ts e) fun _ r2 => bnd (Q0n d r2 e) fun n r3 => .ok (nd 11 w.p w.s [] [n], r3)) := fun w =>
  EI.bind (rd2 := fun _ ts e => bnd (Q0n d ts e) fun n r3 => .ok (nd 11 w.p w.s [] [n], r3)) (ei_take 61) fun _ => EI.map (fun n => nd 11 w.p w.s [] [n]) (Q7I d)
 have h2 := EI.bind (rd2 := fun w ts e => bnd (Q0d 61 ts e) fun _ r2 => bnd (Q0n d r2 e) fun n r3 => .ok (nd 11 w.p w.s [] [n], r3)) Q1O h1
 exact h2
theorem Qcv (ks : List Nd) : EI (Q0W ks) := fun ts e => by
 cases ts with
 | nil => rw [Q16]; simp [Q0W, mapR, Q16]
 | cons x r =>
   have h1 := (EI.map (fun w : Wd => (ks, [w])) Q1O) r e
   rw [Q15]
   simp only [Q0W]
   show (if x.t.k = 124 then _ else _) = _
   split
   ·exact h1
   ·simp [mapR, Q15]
theorem Qcw (d : Nat) : EI (Q0Y d) := EI.bind (rd2 := fun ks ts e => Q0W ks ts e) (Q4m (Qcu d)) fun ks => Qcv ks
theorem Qcx (d : Nat) : EI (rowR d) := fun ts e => by
 cases ts with
 | nil => rw [Q16]; rfl
 | cons x r =>
   have h1 := (EI.map (fun kw : List Nd × List Wd => nd 10 x.t.p e0 kw.2 kw.1) (Q2g 91 (Qcw d))) (x :: r) e
   have h2 := Q7H (x :: r) e
   rw [Q15] at h1 h2 ⊢
   simp only [rowR]
   show (if x.t.k = 91 then _ else _) = _
   split
   ·exact h1
   ·exact h2
theorem Q1j (l : List Tr) : rest l 0 = l := by simp [rest]
def trOf (s : ByteArray) : List Tr := match scan s 0 [] with
 | .error _ => []
 | .ok R => match parse R with
   | .error _ => []
   | .ok ts => ts
theorem Q7J : ∀ l, ∀ x ∈ nodes l, x.ks.length ≤ (nodes l).length := by
 refine TR.ind (fun x hx => by simp [nodes] at hx) fun t A c ks e r h1 h2 x hx => ?_
 rw [nodes] at hx ⊢
 simp only [zA8, zA7]
 rcases List.mem_cons.1 hx with rfl | hx
 ·have := Q1C ks
  show ks.length ≤ _
  omega
 ·rcases List.mem_append.1 hx with hx | hx
  ·have := h1 x hx; omega
  ·have := h2 x hx; omega
theorem Q5B {s : ByteArray} (i : Nat) : ∀ (acc R : List Tk), scan s i acc = .ok R → i ≤ s.size → R.length ≤ acc.length + (s.size - i) := by
 induction i using Q4G (s := s) with
 | h i ih =>
   intro acc R hR hi
   by_cases hlt : i < s.size
   ·cases hst : st s i with
    | skip =>
      rw [Q38 acc hlt hst] at hR
      have := ih (i + 1) (by omega) acc R hR (by omega)
      omega
    | stop =>
      rw [Q39 acc hlt hst] at hR
      injection hR with hR
      subst hR
      omega
    | bad => rw [Q2i acc hlt hst] at hR; cases hR
    | tok k e =>
      rw [Q2j acc hlt hst] at hR
      have he := Q37 hlt hst
      have := ih e he.1 _ R hR he.2
      rw [zA7, List.length_singleton] at this
      omega
   ·rw [Q23 acc hlt] at hR
    injection hR with hR
    subst hR
    omega
 | hend i hi =>
   intro acc R hR _
   rw [Q23 acc hi] at hR
   injection hR with hR
   subst hR
   omega
theorem Q4n {s : ByteArray} {R : List Tk} {ts : List Tr} (hs : scan s 0 [] = .ok R) (hp : parse R = .ok ts) : trOf s = ts := by
 unfold trOf; rw [hs]; simp only; rw [hp]
theorem Qcy {s : ByteArray} {p : Nat} (hs : scan s 0 [] = .error p) : trOf s = [] := by unfold trOf; rw [hs]
theorem Qcz {s : ByteArray} {R : List Tk} {p : Int} (hs : scan s 0 [] = .ok R) (hp : parse R = .error p) : trOf s = [] := by
 unfold trOf; rw [hs]; simp only; rw [hp]
theorem Q5C (s : ByteArray) : (nodes (trOf s)).length ≤ s.size := by
 cases hs : scan s 0 [] with
 | error p => rw [Qcy hs]; simp [nodes]
 | ok R =>
   have h1 := Q5B 0 [] R hs (Nat.zero_le _)
   cases hp : parse R with
   | error p => rw [Qcz hs hp]; simp [nodes]
   | ok ts =>
     rw [Q4n hs hp]
     have h2 := Q87 (Q4v hp).1
     simp only [zA9, Nat.zero_add, Nat.sub_zero] at h1
     omega
end TM
open Go.RowKit LX TR TM
end
section
open Go.RowKit LX TR TM
end
section
open Go.RowKit
theorem QcA {P : Program} {w : World} {o : Oper} {a : Act} {K : Act → World → Prop} {Q : Exit → Act → World → Prop} (s x : Operand) (t : TypeId)
 (ho : o.op = .call { callee := .builtin .append, args := #[s, x], argTypes := #[t, t] })
 (e : TypeId) (z : Value) (size bytes : Nat) (ht : P.underlying t = some (.slice e))
 (hinf : (P.info? e).map (fun i => (i.zero, i.size, i.bytes)) = some (some z, size, bytes)) (hzs : z.cells.size = size) (hsz : 0 < size)
 (base : Nat) (A : Option Addr) (n c : Nat) (cs : List Value) (hs : a.eval s = .slice A n c) (hown : w.ownsRow base e size (.slice A n c) n cs)
 (g : Nat) (news : List Value) (hx : a.eval x = .slice (some ⟨g, 0, none⟩) 1 1) (hl : news.length = size)
 (hnews : ∀ j u, news[j]? = some u → w.cell? ⟨g, j, none⟩ = some u) (h1 : ∀ u ∈ news, u.oneCell' = true)
 (hn : n + 1 ≤ maxLen) (hb2 : (n + 1) * bytes ≤ 140737488355328) (hbase : base ≤ w.heap.size)
 (h : ∀ A' c' w', w'.ownsRow base e size (.slice A' (n + 1) c') (n + 1) (cs ++ news) → Below base w w' → w.grownBy w' (Value.slice A n c).ownBlock → ((Value.slice A' (n + 1) c').ownBlock = (Value.slice A n c).ownBlock ∨ (Value.slice A' (n + 1) c').ownBlock = some w.heap.size) → K (a.put o.dst (.slice A' (n + 1) c')) w') :
 o.wp P a w K Q := by
 obtain ⟨i, hi, hz, hi1, hi2⟩ := info_parts hinf
 have hadd : ∀ j, (⟨g, 0, none⟩ : Addr).add j = ⟨g, j, none⟩ := fun j => by unfold Addr.add; split <;> simp_all
 obtain ⟨v', w', hr, hown', hg, _, hat⟩ := run_append_own_at (P := P) w base t o.type e i z size bytes ht hi hz hi1 hi2 hzs hsz (.slice A n c) n cs hown ⟨g, 0, none⟩ 1 1 news (by rw [hl, Nat.one_mul])
  (fun j u hu => by rw [hadd]; exact hnews j u hu) h1 hn hb2 hbase
 obtain ⟨A', c', rfl, _, _⟩ := Q2I hown'
 unfold Oper.wp execOp
 simp only [ho, resolve, invoke, builtin, Sem.run_bind, Sem.run_pure, Result.andThen_ok, List.map_toArray, List.map_cons, List.map_nil, hs, hx, hr]
 exact h A' c' w' hown' ((zB base w).grown hg hbase (fun k hk => (hown.lt k hk).1)) hg hat
end
section
open Go.RowKit LX TR TM
theorem Q0k (a b c d e f g h : Value) : (Tryz.prog.info? 103).map (·.size) = some (#[a, b, c, d, e, f, g, h] : Array Value).size := by kernel_rfl
def gok (s : ByteArray) (p n : Int) : Value := .agg #[.int .i64 0, .int .i64 p, .string s, .slice none 0 0, .slice none 0 0, .int .i64 n, .bool false, .int .i64 0]
def gbad (p : Int) : Value := .agg #[.int .i64 0, .int .i64 0, .string ⟨#[]⟩, .slice none 0 0, .slice none 0 0, .int .i64 0, .bool true, .int .i64 p]
theorem Q2Y {l : List Tr} {i : Int} : kindOf (rest l i) none = if 0 ≤ i ∧ i < l.length then (l.getD i.toNat r0).t.k else 0 := by
 by_cases h : 0 ≤ i ∧ i < l.length
 ·rw [if_pos h, Q1E h.1 h.2]; rfl
 ·rw [if_neg h, Q24.2 (by omega)]; rfl
theorem Q1H (A : Option Addr) (c : Nat) (l : List Tr) (i : Int) (k : Nat) (hk : 0 < k) (w : World) (hT : Trs w w.heap.size A l) :
 Calls Tryz.prog 117 #[.slice A l.length c, .int .i64 i, .int .u8 (k : Int)] w fun e w' => e = .returned (.bool (decide (kindOf (rest l i) none = k))) ∧ w' = w := by
 by_cases h0 : 0 ≤ i
 ·by_cases h1 : i < l.length
  ·have hkk := Q2Y (l := l) (i := i)
   rw [if_pos ⟨h0, h1⟩] at hkk
   obtain ⟨j, rfl⟩ := Int.eq_ofNat_of_zero_le h0
   rw [Int.toNat_natCast] at hkk
   have hj : j < l.length := by omega
   obtain ⟨bb, o, rfl, _, hc⟩ := hT.at hj
   obtain ⟨q0, _, _, _, _⟩ := hc j hj
   rw [hkk]
   have e0 : decide ((j : Int) < (l.length : Int)) = true := zE h1
   have hq := Q5Y (l.getD j r0).t.k k
   clear hc hT hkk h0
   generalize (l.getD j r0).t.k = q at *
   generalize l.length = n at *
   generalize hd : decide (q = k) = d at *
   have HD := zh hd; clear hd
   go_enter Tryz.func117, Tryz.ntmps117
   go_wp2_with fail
   go_ret
   exact ⟨rfl, rfl⟩
  ·have hkk := Q2Y (l := l) (i := i)
   rw [if_neg (by omega)] at hkk
   rw [hkk, zF (by omega)]
   have e0 : decide (0 ≤ i) = true := zE h0
   have e1 : decide (i < (l.length : Int)) = false := zF h1
   clear hT hkk
   generalize l.length = n at *
   go_enter Tryz.func117, Tryz.ntmps117
   go_wp2_with fail
   go_ret
   exact ⟨rfl, rfl⟩
 ·have hkk := Q2Y (l := l) (i := i)
  rw [if_neg (by omega)] at hkk
  rw [hkk, zF (by omega)]
  have e0 : decide (0 ≤ i) = false := zF h0
  clear hT hkk
  generalize l.length = n at *
  go_enter Tryz.func117, Tryz.ntmps117
  go_wp2_with fail
  go_ret
  exact ⟨rfl, rfl⟩
theorem Q1P (A : Option Addr) (c : Nat) (l : List Tr) (i e : Int) (w : World) (hT : Trs w w.heap.size A l) :
 Calls Tryz.prog 118 #[.slice A l.length c, .int .i64 i, .int .i64 e] w fun e' w' => e' = .returned (gbad (Q00 (rest l i) e)) ∧ Below w.heap.size w w' := by
 have HG := zh (RowAt.new w 103 #[.int .i64 0, .int .i64 0, .string ⟨#[]⟩, .slice none 0 0, .slice none 0 0, .int .i64 0, .bool false, .int .i64 0])
 have HB : Hid (Below w.heap.size w (w.alloc (.cells #[.int .i64 0, .int .i64 0, .string ⟨#[]⟩, .slice none 0 0, .slice none 0 0, .int .i64 0, .bool false, .int .i64 0] 103))) := (zB _ _).alloc (zL _) _
 refine Q0e fun Q' hQ => ?_
 have HQ := zh hQ; clear hQ
 by_cases h0 : 0 ≤ i
 ·by_cases h1 : i < l.length
  ·have hr := Q1E h0 h1
   obtain ⟨j, rfl⟩ := Int.eq_ofNat_of_zero_le h0
   rw [Int.toNat_natCast] at hr
   have hj : j < l.length := by omega
   obtain ⟨bb, o, rfl, hbb, hc⟩ := (hT.below HB.out).at hj
   obtain ⟨_, _, q2, _, _⟩ := hc j hj
   rw [hr] at HQ
   have HOF : Hid (Q00 (l.getD j r0 :: rest l ((j : Int) + 1)) e = (l.getD j r0).t.p) := rfl
   rw [HOF.out] at HQ
   have e0 : decide ((j : Int) < (l.length : Int)) = true := zE h1
   have hne : bb ≠ w.heap.size := by omega
   clear hc hT hr h0 HOF
   generalize (l.getD j r0).t.p = q at *
   generalize l.length = n at *
   go_enter Tryz.func118, Tryz.ntmps118
   go_wp2_with fail
   exact bodyPost_ret (Q04 rfl _ _ w.heap.size _ _ (0, 0) _ rfl (RowAt.new w 103 #[.int .i64 0, .int .i64 0, .string ⟨#[]⟩, .slice none 0 0, .slice none 0 0, .int .i64 0, .bool true, .int .i64 q]) Tryz.underlying103 rfl (Q0k _ _ _ _ _ _ _ _)) rfl (HQ.out _ _ ⟨rfl, (zB _ _).alloc (zL _) _⟩)
  ·have e0 : decide (0 ≤ i) = true := zE h0
   rw [Q24.2 (by omega)] at HQ
   have e1 : decide (i < (l.length : Int)) = false := zF h1
   clear hT
   generalize l.length = n at *
   go_enter Tryz.func118, Tryz.ntmps118
   go_wp2_with fail
   exact bodyPost_ret (Q04 rfl _ _ w.heap.size _ _ (0, 0) _ rfl (RowAt.new w 103 #[.int .i64 0, .int .i64 0, .string ⟨#[]⟩, .slice none 0 0, .slice none 0 0, .int .i64 0, .bool true, .int .i64 e]) Tryz.underlying103 rfl (Q0k _ _ _ _ _ _ _ _)) rfl (HQ.out _ _ ⟨rfl, (zB _ _).alloc (zL _) _⟩)
 ·have e0 : decide (0 ≤ i) = false := zF h0
  rw [Q24.2 (by omega)] at HQ
  clear hT
  generalize l.length = n at *
  go_enter Tryz.func118, Tryz.ntmps118
  go_wp2_with fail
  exact bodyPost_ret (Q04 rfl _ _ w.heap.size _ _ (0, 0) _ rfl (RowAt.new w 103 #[.int .i64 0, .int .i64 0, .string ⟨#[]⟩, .slice none 0 0, .slice none 0 0, .int .i64 0, .bool true, .int .i64 e]) Tryz.underlying103 rfl (Q0k _ _ _ _ _ _ _ _)) rfl (HQ.out _ _ ⟨rfl, (zB _ _).alloc (zL _) _⟩)
def set8 (w : World) (g : Nat) (a b c d e f x y : Value) : World := (((set5 w g a b c d e).setCell ⟨g, 5, none⟩ f).setCell ⟨g, 6, none⟩ x).setCell ⟨g, 7, none⟩ y
section
variable {w : World} {B g : Nat} {a b c d e f x y u0 u1 u2 u3 u4 u5 u6 u7 : Value} {t : TypeId}
theorem put2 (h : RowAt w g t #[u0, u1, u2, u3, u4, u5, u6, u7]) : RowAt ((w.setCell ⟨g, 0, none⟩ a).setCell ⟨g, 1, none⟩ b) g t #[a, b, u2, u3, u4, u5, u6, u7] := (h.put 0 a).put 1 b
theorem put4 (h : RowAt w g t #[u0, u1, u2, u3, u4, u5, u6, u7]) : RowAt ((w.setCell ⟨g, 2, none⟩ c).setCell ⟨g, 3, none⟩ d) g t #[u0, u1, c, d, u4, u5, u6, u7] := (h.put 2 c).put 3 d
theorem put6 (h : RowAt w g t #[u0, u1, u2, u3, u4, u5, u6, u7]) : RowAt ((w.setCell ⟨g, 4, none⟩ e).setCell ⟨g, 5, none⟩ f) g t #[u0, u1, u2, u3, e, f, u6, u7] := (h.put 4 e).put 5 f
theorem put8 (h : RowAt w g t #[u0, u1, u2, u3, u4, u5, u6, u7]) : RowAt ((w.setCell ⟨g, 6, none⟩ x).setCell ⟨g, 7, none⟩ y) g t #[u0, u1, u2, u3, u4, u5, x, y] := (h.put 6 x).put 7 y
theorem Q0t (h : RowAt w g t #[u0, u1, u2, u3, u4, u5, u6, u7]) : RowAt (set8 w g a b c d e f x y) g t #[a, b, c, d, e, f, x, y] := put8 (put6 (put4 (put2 h)))
theorem Q0u (h : B ≤ g) : Below B w (set8 w g a b c d e f x y) :=
 (((Q1Q h).setCell (p := ⟨g, 5, none⟩) h _).setCell (p := ⟨g, 6, none⟩) h _).setCell (p := ⟨g, 7, none⟩) h _
theorem Q1k {k : Nat} (hk : k ≠ g) : (set8 w g a b c d e f x y).heap[k]? = w.heap[k]? :=
 (World.setCell_other9 (p := ⟨g, 7, none⟩) (Ne.symm hk)).trans ((World.setCell_other9 (p := ⟨g, 6, none⟩) (Ne.symm hk)).trans ((World.setCell_other9 (p := ⟨g, 5, none⟩) (Ne.symm hk)).trans (Q1I hk)))
theorem row8 (h : RowAt w g t #[u0, u1, u2, u3, u4, u5, u6, u7]) : (w.cell? ⟨g, 0, none⟩ = some u0 ∧ w.cell? ⟨g, 1, none⟩ = some u1 ∧ w.cell? ⟨g, 2, none⟩ = some u2 ∧ w.cell? ⟨g, 3, none⟩ = some u3 ∧ w.cell? ⟨g, 4, none⟩ = some u4 ∧ w.cell? ⟨g, 5, none⟩ = some u5 ∧ w.cell? ⟨g, 6, none⟩ = some u6 ∧ w.cell? ⟨g, 7, none⟩ = some u7) ∧ ∀ o, w.frozen? ⟨g, o, none⟩ = false :=
 ⟨⟨(h.cell 0).trans rfl, (h.cell 1).trans rfl, (h.cell 2).trans rfl, (h.cell 3).trans rfl, (h.cell 4).trans rfl, (h.cell 5).trans rfl, (h.cell 6).trans rfl, (h.cell 7).trans rfl⟩, h.free⟩
end
theorem QcB {l : List Tr} {j : Nat} {e : Int} (hj : j < l.length) (h : (l.getD j r0).t.k = 97) : Step Q05 l j e none ⟨(l.getD j r0).t.s, (l.getD j r0).t.p⟩ ((j : Int) + 1) none := by
 have hr := Q1E (l := l) (i := (j : Int)) (by omega) (by omega)
 rw [Int.toNat_natCast] at hr
 refine Step.ok ⟨1, rfl, by rw [hr]; simp⟩ ?_
 rw [hr]
 unfold Q05
 rw [Q0P h]; rfl
theorem QcC (A : Option Addr) (c : Nat) (l : List Tr) (i e : Int) (w : World) (hT : Trs w w.heap.size A l) (hl : l.length ≤ 2147483648) :
 Calls Tryz.prog 123 #[.int .i64 6, .slice A l.length c, .int .i64 i, .int .i64 e] w fun e' w' =>
  ((∃ x, e' = .returned (gok x.s x.p (i + 1)) ∧ Step Q05 l i e none x (i + 1) none) ∨ (∃ p, e' = .returned (gbad p) ∧ Step Q05 l i e none w0 i (some p))) ∧ Below w.heap.size w w' := by
 have HG := zh (RowAt.new w 103 #[.int .i64 0, .int .i64 0, .string ⟨#[]⟩, .slice none 0 0, .slice none 0 0, .int .i64 0, .bool false, .int .i64 0])
 have hB : Below w.heap.size w (w.alloc (.cells #[.int .i64 0, .int .i64 0, .string ⟨#[]⟩, .slice none 0 0, .slice none 0 0, .int .i64 0, .bool false, .int .i64 0] 103)) := (zB _ _).alloc (zL _) _
 have HB := zh hB
 have hT1 := (hT.below hB).mono hB.size
 have HI := zh (Q1H A c l i 97 (by decide) _ hT1)
 have HW := zh (Q1P A c l i e _ hT1)
 refine Q0e fun Q' hQ => ?_
 have HQ := zh hQ; clear hQ
 by_cases hk : kindOf (rest l i) none = 97
 ·rw [zE hk] at HI
  have h9 := Q2Y (l := l) (i := i)
  by_cases hin : 0 ≤ i ∧ i < l.length
  ·rw [if_pos hin, hk] at h9
   obtain ⟨j, rfl⟩ := Int.eq_ofNat_of_zero_le hin.1
   rw [Int.toNat_natCast] at h9
   have hj : j < l.length := by omega
   obtain ⟨bb, o, rfl, hbb, hc⟩ := hT1.at hj
   obtain ⟨_, q1, q2, _, _⟩ := hc j hj
   have HST := zh (QcB (e := e) hj h9.symm)
   have hjn : (j : Int) < (l.length : Int) := by omega
   clear hT hT1 hc h9 hk HW
   generalize (l.getD j r0).t.p = p at *
   generalize (l.getD j r0).t.s = s at *
   generalize l.length = n at *
   go_enter Tryz.func123, Tryz.ntmps123
   go_wp2_with fail
   refine HI.out.mono ?_
   rintro e' w' ⟨rfl, rfl⟩
   obtain ⟨⟨h0, h1, h2, h3, h4, h5, h6, h7⟩, ff⟩ := row8 HG.out
   go_wp2_with fail
   go_region
   go_wp2_with fail
   exact bodyPost_ret (Q04 rfl _ _ w.heap.size _ _ (0, 0) _ rfl ((RowAt.new w 103 #[.int .i64 0, .int .i64 p, .string s, .slice none 0 0, .slice none 0 0, .int .i64 ((j : Int) + 1), .bool false, .int .i64 0]).drew) Tryz.underlying103 rfl (Q0k _ _ _ _ _ _ _ _)) rfl (HQ.out _ _ ⟨.inl ⟨⟨s, p⟩, rfl, HST.out⟩, ((zB _ _).alloc (zL _) _).drew⟩)
  ·rw [if_neg hin, hk] at h9; omega
 ·rw [zF hk] at HI
  have HST : Hid (Step Q05 l i e none w0 i (some (Q00 (rest l i) e))) := Step.fault (Adv.refl _ _) (by unfold Q05; rw [Q1T hk]; rfl)
  clear hT hT1 hk
  generalize Q00 (rest l i) e = p at *
  generalize l.length = n at *
  go_enter Tryz.func123, Tryz.ntmps123
  go_wp2_with fail
  refine HI.out.mono ?_
  rintro e' w' ⟨rfl, rfl⟩
  go_wp2_with fail
  refine HW.out.mono ?_
  rintro e' w1 ⟨rfl, hb1⟩
  have HG1 := zh (HG.out.below hb1 HG.out.lt)
  have HB1 := zh (HB.out.trans (hb1.mono HB.out.size))
  obtain ⟨⟨h0, h1, h2, h3, h4, h5, h6, h7⟩, ff⟩ := row8 HG1.out
  clear hb1
  unfold gbad
  go_wp2_with fail
  change bodyPost _ _ _ _ _ (set8 w1 w.heap.size (.int .i64 0) (.int .i64 0) (.string ⟨#[]⟩) (.slice none 0 0) (.slice none 0 0) (.int .i64 0) (.bool true) (.int .i64 p))
  exact bodyPost_ret (Q04 rfl _ _ w.heap.size _ _ (0, 0) _ rfl (Q0t HG1.out) Tryz.underlying103 rfl (Q0k _ _ _ _ _ _ _ _)) rfl (HQ.out _ _ ⟨.inr ⟨p, rfl, HST.out⟩, HB1.out.trans (Q0u (zL _))⟩)
theorem QcD {w : World} {base size n g : Nat} {e t : TypeId} {x : Value} {cs : List Value} {ds : Array Value} (h : w.ownsRow base e size x n cs) (hr : RowAt w g t ds) (he : e ≠ t) : x.ownBlock ≠ some g := by
 rcases h.2 with ⟨rfl, _⟩ | ⟨g', cap, cur, rfl, _, hh, _⟩
 ·simp [Value.ownBlock]
 ·intro hx
  have hx' : g' = g := by simpa [Value.ownBlock] using hx
  subst hx'
  have hb' : w.heap[g']? = some (.cells ds t (0, 0)) := hr
  rw [hh] at hb'
  simp only [Option.some.injEq, Obj.cells.injEq] at hb'
  exact he hb'.2.1
def wnd (x : Wd) : Nd := nd 0 x.p x.s [] []
end
section
open Go.RowKit LX TR TM
end
section
open Go.RowKit LX TR TM
end
section
open Go.RowKit LX TR TM
theorem QcE {ts : List Tr} {e : Int} (hk : kindOf ts none ≠ 123) : Q0K ts e = .error (Q00 ts e) := by
 cases ts with
 | nil => rfl
 | cons x r =>
   have h' : ¬ x.t.k = 123 := hk
   unfold Q0K
   simp only [Q0f]
   rw [if_neg h']; rfl
end
section
open Go.RowKit LX TR TM
theorem QcF (A B : Option Addr) (c d : Nat) (ws : List Wd) (K : Nat) (w : World) (hK : K ≤ w.heap.size) (hA : Sl w K A (wcs ws)) (hB : Sl w K B (wcs ws)) (hl : ws.length ≤ 2147483648) :
 Calls Tryz.prog 27 #[.slice A ws.length c, .slice B ws.length d] w fun e w' => e = .returned (.bool true) ∧ Dr w w' := by
 have HA := zh hA; clear hA
 have HB := zh hB; clear hB
 generalize hn : ws.length = n at *
 have HN := zh hn; clear hn
 go_enter Tryz.func27, Tryz.ntmps27
 go_wp2_with fail
 go_loopw [5] (fun iv wr => ∃ i : Nat, i ≤ n ∧ iv = .int .i64 i ∧ Hid (Dr w wr)) (fun iv _ => n - (intOf iv).toNat)
 case atStart => exact ⟨0, by omega, rfl, Dr.refl _⟩
 case round =>
  obtain ⟨i, hi, rfl, HW⟩ := hrel
  by_cases hlt : i < n
  ·have hb := HW.out.below
   obtain ⟨b1, o1, rfl, _, hc1⟩ := Q0O (z := w0) Q1M (HA.out.below (hb.mono hK)) (k := i) (by rw [HN.out]; exact hlt) (by omega)
   obtain ⟨b2, o2, rfl, _, hc2⟩ := Q0O (z := w0) Q1M (HB.out.below (hb.mono hK)) (k := i) (by rw [HN.out]; exact hlt) (by omega)
   have p0 := hc1 i 0 _ (by rw [HN.out]; exact hlt) (by omega) rfl
   have p1 := hc1 i 1 _ (by rw [HN.out]; exact hlt) (by omega) rfl
   have q0 := hc2 i 0 _ (by rw [HN.out]; exact hlt) (by omega) rfl
   have q1 := hc2 i 1 _ (by rw [HN.out]; exact hlt) (by omega) rfl
   rw [Nat.add_zero] at p0 q0
   rw [← Nat.add_assoc] at p1 q1
   have hin : (i : Int) < (n : Int) := by omega
   clear hc1 hc2 hb
   generalize (ws.getD i w0) = x at *
   obtain ⟨s, p⟩ := x
   simp only at p0 p1 q0 q1
   go_wp2_with fail
   go_quiet (fail)
   go_wp2_with fail
   go_roundw
   case rel => exact ⟨i + 1, by omega, by go_num, HW.out.more _⟩
   case measure => simp [intOf]; omega
  ·obtain rfl : i = n := by omega
   go_wp2_with fail
   go_ret
   exact ⟨rfl, HW.out⟩
end
section
open Go.RowKit LX TR TM
namespace DT
def gv (z : Nd) (n : Int) (f : Option Int) : Array Value := #[.int .i64 z.k, .int .i64 z.p, .string z.s, .slice z.A z.ws.length z.c, .slice z.B z.ks.length z.d, .int .i64 n, .bool f.isSome, .int .i64 (f.getD 0)]
theorem Q7K (p : Int) : gbad p = .agg (gv n0 0 (some p)) := rfl
def Gt (s : Nat) (rd : Rdr Nd) (l : List Tr) (i e : Int) (z : Nd) (n : Int) (f : Option Int) (w : World) : Prop :=
 (∃ p, f = some p ∧ rd (rest l i) e = .error p) ∨ (f = none ∧ Step rd l i e none (er1 z) n none ∧ DeepN w (fun k => s ≤ k) [z])
def Fw (l : List Tr) : Prop := l.length ≤ 1048576 ∧ ∀ x ∈ nodes l, x.ks.length ≤ 1048576
theorem Fw.kid {l : List Tr} (h : Fw l) {x : Tr} (hx : x ∈ l) : Fw x.ks := ⟨h.2 x (Q31 hx), fun y hy => h.2 y (mem_kids hx hy)⟩
theorem QcG {l : List Tr} (h : (nodes l).length ≤ 1048576) : Fw l := by
 have h2 := Q1C l
 exact ⟨by omega, fun x hx => by have := Q7J l x hx; omega⟩
def Gc (F : FuncId) (rd : Rdr Nd) (N : Nat) : Prop := ∀ (A : Option Addr) (c : Nat) (l : List Tr) (i e : Int) (w : World), Trs w w.heap.size A l → Fw l → 0 ≤ i → i ≤ l.length → (nodes (rest l i)).length ≤ N →
 Calls Tryz.prog F #[.slice A l.length c, .int .i64 i, .int .i64 e] w fun e' w' => ∃ z n f, e' = .returned (.agg (gv z n f)) ∧ Gt w.heap.size rd l i e z n f w' ∧ Below w.heap.size w w'
def Oc (what : Int) (rd : Rdr Nd) (N : Nat) : Prop := ∀ (A : Option Addr) (c : Nat) (l : List Tr) (i e : Int) (w : World), Trs w w.heap.size A l → Fw l → 0 ≤ i → i ≤ l.length → (nodes (rest l i)).length ≤ N →
 Calls Tryz.prog 123 #[.int .i64 what, .slice A l.length c, .int .i64 i, .int .i64 e] w fun e' w' => ∃ z n f, e' = .returned (.agg (gv z n f)) ∧ Gt w.heap.size rd l i e z n f w' ∧ Below w.heap.size w w'
def Gs (s : Nat) (rd : Rdr Nd) (l : List Tr) (e : Int) (out : Value) (n : Int) (f : Option Int) (w : World) : Prop :=
 (∃ p, f = some p ∧ out = .slice none 0 0 ∧ Q0c rd l e = .error p) ∨ (f = none ∧ ∃ zs X d, out = .slice X zs.length d ∧ zs.length ≤ d ∧ zs.length ≤ l.length + 1 ∧ Step (Q0c rd) l 0 e none (er zs) n none ∧ SlC w (fun k => s ≤ k) X (ncs zs) ∧ DeepN w (fun k => s ≤ k) zs)
def HdN (rd : Rdr Nd) (l : List Tr) (e : Int) (acc : List Nd) (a : Int) : Prop := (acc = [] ∧ a = 0) ∨ ∃ i2, LSt rd l 0 e none acc i2 none ∧ kindOf (rest l i2) none = 44 ∧ a = i2 + 1 ∧ 0 ≤ i2 ∧ i2 < l.length
theorem HdN.more {rd : Rdr Nd} {l : List Tr} {e : Int} {acc : List Nd} {a : Int} {x : Nd} {i3 : Int} {f3 : Option Int} (h : HdN rd l e acc a) (h2 : Step rd l a e none x i3 f3) : LSt rd l 0 e none (acc ++ [x]) i3 f3 := by
 rcases h with ⟨rfl, rfl⟩ | ⟨i2, hL, hk, rfl, h0, h1⟩
 ·exact LSt.start h2
 ·have hr := Q1E h0 h1
  have h9 : (l.getD i2.toNat r0).t.k = 44 := by rw [hr] at hk; exact hk
  have ht : Step (Q0d 44) l i2 e none (l.getD i2.toNat r0).t (i2 + 1) none := Step.ok ⟨1, rfl, by rw [hr]; simp⟩ (by rw [hr]; exact Q0P h9)
  exact (hL.next hk ht h2).1
theorem HdN.le {rd : Rdr Nd} {l : List Tr} {e : Int} {acc : List Nd} {a : Int} (h : HdN rd l e acc a) : 0 ≤ a ∧ a ≤ l.length ∧ (acc.length : Int) ≤ a := by
 rcases h with ⟨rfl, rfl⟩ | ⟨i2, hL, hk, rfl, h0, h1⟩
 ·exact ⟨by omega, by omega, by simp⟩
 ·refine ⟨by omega, by omega, ?_⟩
  rcases hL.few with h | h
  ·omega
  ·exact absurd rfl h
theorem HdN.fault {rd : Rdr Nd} {l : List Tr} {e : Int} {acc : List Nd} {a : Int} {p : Int} (h : HdN rd l e acc a) (h2 : rd (rest l a) e = .error p) : Q0c rd l e = .error p := by
 have h3 := h.more (Step.fault (x := n0) (Adv.refl _ _) h2)
 rcases h3.good rfl with ⟨q, h4, h5⟩ | ⟨h4, _⟩
 ·obtain rfl := Option.some.inj h4
  rwa [Q1j] at h5
 ·cases h4
theorem Adv.range {l : List Tr} {i n : Int} (h : Adv l i n) (h0 : 0 ≤ i) (h1 : i ≤ l.length) : i ≤ n ∧ n ≤ l.length := by
 obtain ⟨m, rfl, hm⟩ := h
 have : (rest l i).length ≤ l.length - i.toNat := by
  unfold rest
  rw [if_neg (by omega), List.length_drop]
  exact zL _
 omega
theorem Q7L {l : List Tr} {i : Int} (h0 : 0 ≤ i) : (nodes (rest l i)).length ≤ (nodes l).length := by
 unfold rest
 rw [if_neg (by omega)]
 exact Q2k _ _
theorem QcH {B : Nat} {w4 w5 : World} {n d d5 m : Nat} {X X5 : Option Addr} {zs : List Nd} (h : DeepN w4 (fun k => B ≤ k ∧ (Value.slice X n d).ownBlock ≠ some k) zs) (hg : w4.grownBy w5 (Value.slice X n d).ownBlock)
 (hat : (Value.slice X5 m d5).ownBlock = (Value.slice X n d).ownBlock ∨ (Value.slice X5 m d5).ownBlock = some w4.heap.size) : DeepN w5 (fun k => B ≤ k ∧ (Value.slice X5 m d5).ownBlock ≠ some k) zs :=
 h.keep hg.size (fun k hk h => hg.block k hk (fun e => h.2 e.symm)) fun k hk h => ⟨h.1, fun e => by
  rcases hat with e2 | e2
  ·exact h.2 (e2 ▸ e)
  ·rw [e2] at e
   injection e with e
   omega⟩
end DT
open DT
theorem Q7M {what : Int} {rd : Rdr Nd} {N : Nat} (hOne : Oc what rd N) (A : Option Addr) (c : Nat) (l : List Tr) (e : Int) (w : World) (hT : Trs w w.heap.size A l) (hF : Fw l) (hN : (nodes l).length ≤ N) :
 Calls Tryz.prog 122 #[.int .i64 what, .slice A l.length c, .int .i64 0, .int .i64 e] w fun e' w' =>
  ∃ out z n f, e' = .returned (.tuple #[out, .agg (gv z n f)]) ∧ Gs (w.heap.size + 1) rd l e out n f w' ∧ Below w.heap.size w w' := by
 have HG := zh (RowAt.new w 103 #[.int .i64 0, .int .i64 0, .string ⟨#[]⟩, .slice none 0 0, .slice none 0 0, .int .i64 0, .bool false, .int .i64 0])
 have hB : Below w.heap.size w (w.alloc (.cells #[.int .i64 0, .int .i64 0, .string ⟨#[]⟩, .slice none 0 0, .slice none 0 0, .int .i64 0, .bool false, .int .i64 0] 103)) := (zB _ _).alloc (zL _) _
 have HB := zh hB
 have HT := zh hT
 have HON := zh hOne
 have HFW := zh hF
 have hl := hF.1
 clear hT hB hOne hF
 refine Q0e fun Q' hQ => ?_
 have HQ := zh hQ; clear hQ
 generalize hn : l.length = n at *
 have HN := zh hn; clear hn
 go_enter Tryz.func122, Tryz.ntmps122
 go_wp2_with fail
 go_loopw [10, 2] (fun ov av wr => ∃ (acc : List Nd) (X : Option Addr) (d : Nat) (a : Int), ov = .slice X acc.length d ∧ av = .int .i64 a ∧ Hid (HdN rd l e (TM.er acc) a) ∧ Hid (wr.ownsRow (w.heap.size + 1) 29 5 (.slice X acc.length d) acc.length (ncs acc)) ∧ Hid (DeepN wr (fun k => w.heap.size + 1 ≤ k ∧ (Value.slice X acc.length d).ownBlock ≠ some k) acc) ∧ Hid (RowAt wr w.heap.size 103 #[.int .i64 0, .int .i64 0, .string ⟨#[]⟩, .slice none 0 0, .slice none 0 0, .int .i64 0, .bool false, .int .i64 0]) ∧ Hid (Below w.heap.size w wr) ∧ Hid (w.heap.size < wr.heap.size)) (fun _ av _ => n + 1 - (intOf av).toNat)
 case atStart => exact ⟨[], none, 0, 0, rfl, rfl, .inl ⟨by simp [TM.er], rfl⟩, World.ownsRow_nil _ _ _ _, DeepN.nil _ _, HG.out, HB.out, HG.out.lt⟩
 case round =>
  obtain ⟨acc, X, d, a, rfl, rfl, HH, HO, HD, HR, HW, HSZ⟩ := hrel
  have hszr := HSZ.out
  obtain ⟨ha0, ha1, ha2⟩ := HH.out.le
  rw [TM.er_length] at ha2
  rw [HN.out] at ha1
  have hT1 := (HT.out.below HW.out).mono HW.out.size
  have hone := HON.out A c l a e wr hT1 HFW.out ha0 (by rw [HN.out]; exact ha1) (zM (Q7L ha0) hN)
  rw [HN.out] at hone
  have HONE := zh hone; clear hone hT1
  go_wp2_with fail
  refine HONE.out.mono ?_
  rintro e' w1 ⟨z, nx, f, rfl, ⟨p, rfl, hst⟩ | ⟨rfl, hst, hdz⟩, hb1⟩
  ·have HE : Hid (Q0c rd l e = .error p) := zh (HH.out.fault hst)
   have hb2 : Below w1.heap.size w1 (w1.alloc (.cells #[.int .i64 z.k, .int .i64 z.p, .string z.s, .slice z.A z.ws.length z.c, .slice z.B z.ks.length z.d, .int .i64 nx, .bool true, .int .i64 p] 103)) := (zB _ _).alloc (zL _) _
   have HW2 := zh ((HW.out.trans (hb1.mono HW.out.size)).trans (hb2.mono (zM HW.out.size hb1.size)))
   have HR2 := zh ((HR.out.below hb1 hszr).below hb2 (zT hszr hb1.size))
   have HG2 := zh (RowAt.new w1 103 #[.int .i64 z.k, .int .i64 z.p, .string z.s, .slice z.A z.ws.length z.c, .slice z.B z.ks.length z.d, .int .i64 nx, .bool true, .int .i64 p])
   have hz1 : wr.heap.size ≤ w1.heap.size := hb1.size
   clear hb1 hb2 hst HH HO HR HW HD
   unfold gv
   simp only [Option.isSome_some, Option.getD_some]
   go_upto_region 3 with fail
   generalize w1.alloc (.cells #[.int .i64 z.k, .int .i64 z.p, .string z.s, .slice z.A z.ws.length z.c, .slice z.B z.ks.length z.d, .int .i64 nx, .bool true, .int .i64 p] 103) = w2 at *
   have hz2 : w1.heap.size < w2.heap.size := HG2.out.lt
   obtain ⟨⟨h0, h1, h2, h3, h4, h5, h6, h7⟩, ff⟩ := row8 HG2.out
   obtain ⟨⟨k0, k1, k2, k3, k4, k5, k6, k7⟩, fk⟩ := row8 HR2.out
   go_wp2_with fail
   go_region
   go_wp2_with fail
   change bodyPost _ _ _ _ _ ((set8 w2 w.heap.size (.int .i64 z.k) (.int .i64 z.p) (.string z.s) (.slice z.A z.ws.length z.c) (.slice z.B z.ks.length z.d) (.int .i64 nx) (.bool true) (.int .i64 p)).drew)
   have e1 : RowAt (set8 w2 w.heap.size (.int .i64 z.k) (.int .i64 z.p) (.string z.s) (.slice z.A z.ws.length z.c) (.slice z.B z.ks.length z.d) (.int .i64 nx) (.bool true) (.int .i64 p)) w.heap.size 103 #[.int .i64 z.k, .int .i64 z.p, .string z.s, .slice z.A z.ws.length z.c, .slice z.B z.ks.length z.d, .int .i64 nx, .bool true, .int .i64 p] := Q0t HR2.out
   have e2 : Below w.heap.size w (set8 w2 w.heap.size (.int .i64 z.k) (.int .i64 z.p) (.string z.s) (.slice z.A z.ws.length z.c) (.slice z.B z.ks.length z.d) (.int .i64 nx) (.bool true) (.int .i64 p)) := HW2.out.trans (Q0u (zL _))
   generalize set8 w2 w.heap.size (.int .i64 z.k) (.int .i64 z.p) (.string z.s) (.slice z.A z.ws.length z.c) (.slice z.B z.ks.length z.d) (.int .i64 nx) (.bool true) (.int .i64 p) = w8 at *
   exact bodyPost_ret (Q0C rfl _ _ (.slice none 0 0) w.heap.size _ _ (0, 0) _ rfl rfl e1.drew Tryz.underlying103 rfl (Q0k _ _ _ _ _ _ _ _)) rfl (HQ.out _ _ ⟨.slice none 0 0, z, nx, some p, rfl, .inl ⟨p, rfl, rfl, HE.out⟩, e2.drew⟩)
  ·have hb2 : Below w1.heap.size w1 (w1.alloc (.cells #[.int .i64 z.k, .int .i64 z.p, .string z.s, .slice z.A z.ws.length z.c, .slice z.B z.ks.length z.d, .int .i64 nx, .bool false, .int .i64 0] 103)) := (zB _ _).alloc (zL _) _
   have HW2 := zh ((HW.out.trans (hb1.mono HW.out.size)).trans (hb2.mono (zM HW.out.size hb1.size)))
   have HO2 := zh (own_below (own_below HO.out hb1 (zL _)) hb2 (zL _))
   have HD2 : Hid (DeepN (w1.alloc (.cells #[.int .i64 z.k, .int .i64 z.p, .string z.s, .slice z.A z.ws.length z.c, .slice z.B z.ks.length z.d, .int .i64 nx, .bool false, .int .i64 0] 103)) (fun k => w.heap.size + 1 ≤ k ∧ (Value.slice X acc.length d).ownBlock ≠ some k) (acc ++ [z])) := by
        refine zh (DeepN.append ((HD.out.keep9 fun k hk _ => hb1.block k hk).keep9 fun k hk _ => hb2.block k hk) ((hdz.weak fun k _ h => ⟨by omega, fun e => ?_⟩).keep9 fun k hk _ => hb2.block k hk))
        have := (HO.out.lt k e).2
        omega
   have HR2 := zh ((HR.out.below hb1 hszr).below hb2 (zT hszr hb1.size))
   have HG2 := zh (RowAt.new w1 103 #[.int .i64 z.k, .int .i64 z.p, .string z.s, .slice z.A z.ws.length z.c, .slice z.B z.ks.length z.d, .int .i64 nx, .bool false, .int .i64 0])
   have HLS : Hid (LSt rd l 0 e none (TM.er (acc ++ [z])) nx none) := by rw [TM.er_append, Q1V]; exact zh (HH.out.more hst)
   obtain ⟨hn1, hn2⟩ := Adv.range hst.1 ha0 (by rw [HN.out]; exact ha1)
   rw [HN.out] at hn2
   have hz1 : wr.heap.size ≤ w1.heap.size := hb1.size
   clear hb1 hb2 hst HH HO HR HW HD hdz
   unfold gv
   simp only [Option.isSome_none, Option.getD_none]
   go_upto_region 3 with fail
   generalize w1.alloc (.cells #[.int .i64 z.k, .int .i64 z.p, .string z.s, .slice z.A z.ws.length z.c, .slice z.B z.ks.length z.d, .int .i64 nx, .bool false, .int .i64 0] 103) = w2 at *
   have hz2 : w1.heap.size < w2.heap.size := HG2.out.lt
   obtain ⟨⟨h0, h1, h2, h3, h4, h5, h6, h7⟩, ff⟩ := row8 HG2.out
   have hbase : w.heap.size + 1 ≤ w2.heap.size := by omega
   generalize hm : acc.length = m at *
   have HM := zh hm; clear hm
   have hms : m ≤ 1048576 := by omega
   go_wp2_with (at_builtin; refine Q25 _ rfl _ _ 27 rfl 29 (.agg #[.int .i64 0, .int .i64 0, .string ⟨#[]⟩, .slice none 0 0, .slice none 0 0]) 5 80 Tryz.underlying27 Q6u rfl (by decide) (w.heap.size + 1) X m d (ncs acc) rfl ?c1 w2.heap.size (Q0g z) rfl rfl ?c2 (Q6v _) ?c3 ?c4 ?c5 ?_)
   case c1 => exact own_below HO2.out ((zB _ _).alloc (zL _) _) (zL _)
   case c2 => intro j u hu; have h := (RowAt.new w2 29 (Q0g z).toArray).cell j; exact h.trans (by simpa using hu)
   case c3 => simp only [maxLen]; omega
   case c4 => omega
   case c5 => simp; omega
   intro X3 d3 w3 hown3 hb3 hg3 hat3
   have hb23 : Below (w.heap.size + 1) w2 w3 := ((zB _ w2).alloc hbase _).trans hb3
   have HW3 := zh (HW2.out.trans (hb23.mono (Nat.le_succ _)))
   have HR3 := zh (HR2.out.below hb23 (zS _))
   have hz3 : w2.heap.size < w3.heap.size := by have h := hg3.size; simp at h; omega
   have HG3 : Hid (RowAt w3 w1.heap.size 103 #[.int .i64 z.k, .int .i64 z.p, .string z.s, .slice z.A z.ws.length z.c, .slice z.B z.ks.length z.d, .int .i64 nx, .bool false, .int .i64 0]) := by
        have hne := QcD HO2.out HG2.out (by decide)
        exact zh ((HG2.out.alloc _).grown hg3 hne)
   have HO3 : Hid (w3.ownsRow (w.heap.size + 1) 29 5 (.slice X3 (acc ++ [z]).length d3) (acc ++ [z]).length (ncs (acc ++ [z]))) := by
        rw [zA7, List.length_singleton, HM.out, Q6t, Q3e]; exact zh hown3
   have HD3 : Hid (DeepN w3 (fun k => w.heap.size + 1 ≤ k ∧ (Value.slice X3 (acc ++ [z]).length d3).ownBlock ≠ some k) (acc ++ [z])) := by
        rw [zA7, List.length_singleton, HM.out]
        exact zh (QcH (HD2.out.keep9 fun k hk _ => ((zB _ w2).alloc (zL _) _).block k hk) hg3 (by simpa using hat3))
   clear hown3 hb3 hg3 hat3 h0 h1 h2 h3 h4 h5 h6 h7 ff HG2 HO2 HW2 HR2 hb23 HD2
   have hI := Q1H A c l nx 44 (by decide) w3 ((HT.out.below HW3.out).mono HW3.out.size)
   rw [HN.out] at hI
   have HI := zh hI; clear hI
   obtain ⟨⟨h0, h1, h2, h3, h4, h5, h6, h7⟩, ff⟩ := row8 HG3.out
   go_upto_region 6 with fail
   by_cases hk : kindOf (rest l nx) none = 44
   ·rw [zE hk] at HI
    have HKK := zh hk; clear hk
    go_wp2_with fail
    refine HI.out.mono ?_
    rintro e' w' ⟨rfl, rfl⟩
    have hin : nx < l.length := by
     have h := HKK.out
     rw [Q2Y] at h
     by_cases hi : 0 ≤ nx ∧ nx < l.length
     ·exact hi.2
     ·rw [if_neg hi] at h; cases h
    have hinn := hin
    rw [HN.out] at hinn
    have HHN : Hid (HdN rd l e (TM.er (acc ++ [z])) (nx + 1)) := .inr ⟨nx, HLS.out, HKK.out, rfl, by omega, hin⟩
    clear hin
    go_wp2_with fail
    go_roundw
    case rel => exact ⟨acc ++ [z], X3, d3, nx + 1, by rw [zA7, List.length_singleton, HM.out], by go_num, HHN, HO3, HD3, HR3, HW3, zT hszr (Nat.le_of_lt (by omega))⟩
    case measure => simp [intOf]; omega
   ·rw [zF hk] at HI
    have HST := zh (HLS.out.stop hk)
    clear hk
    go_wp2_with fail
    refine HI.out.mono ?_
    rintro e' w' ⟨rfl, rfl⟩
    obtain ⟨⟨k0, k1, k2, k3, k4, k5, k6, k7⟩, fk⟩ := row8 HR3.out
    go_wp2_with fail
    go_region
    go_wp2_with fail
    change bodyPost _ _ _ _ _ ((set8 w' w.heap.size (.int .i64 z.k) (.int .i64 z.p) (.string z.s) (.slice z.A z.ws.length z.c) (.slice z.B z.ks.length z.d) (.int .i64 nx) (.bool false) (.int .i64 0)).drew)
    have e1 : RowAt (set8 w' w.heap.size (.int .i64 z.k) (.int .i64 z.p) (.string z.s) (.slice z.A z.ws.length z.c) (.slice z.B z.ks.length z.d) (.int .i64 nx) (.bool false) (.int .i64 0)) w.heap.size 103 #[.int .i64 z.k, .int .i64 z.p, .string z.s, .slice z.A z.ws.length z.c, .slice z.B z.ks.length z.d, .int .i64 nx, .bool false, .int .i64 0] := Q0t HR3.out
    have e2 : Below w.heap.size w (set8 w' w.heap.size (.int .i64 z.k) (.int .i64 z.p) (.string z.s) (.slice z.A z.ws.length z.c) (.slice z.B z.ks.length z.d) (.int .i64 nx) (.bool false) (.int .i64 0)) := HW3.out.trans (Q0u (zL _))
    have e3 : (set8 w' w.heap.size (.int .i64 z.k) (.int .i64 z.p) (.string z.s) (.slice z.A z.ws.length z.c) (.slice z.B z.ks.length z.d) (.int .i64 nx) (.bool false) (.int .i64 0)).ownsRow (w.heap.size + 1) 29 5 (.slice X3 (acc ++ [z]).length d3) (acc ++ [z]).length (ncs (acc ++ [z])) := Q3Q HO3.out (fun k hk h => Q1k (by have h9 := HO3.out.lt k h; omega))
    have e6 := HD3.out.keep9 (wb := set8 w' w.heap.size (.int .i64 z.k) (.int .i64 z.p) (.string z.s) (.slice z.A z.ws.length z.c) (.slice z.B z.ks.length z.d) (.int .i64 nx) (.bool false) (.int .i64 0)) fun k _ h => Q1k (by omega)
    generalize set8 w' w.heap.size (.int .i64 z.k) (.int .i64 z.p) (.string z.s) (.slice z.A z.ws.length z.c) (.slice z.B z.ks.length z.d) (.int .i64 nx) (.bool false) (.int .i64 0) = w8 at *
    have e4 := Q17 e3
    have e5 : SlC w8.drew (fun k => w.heap.size + 1 ≤ k) X3 (ncs (acc ++ [z])) := (SlC.of_own e3 fun k h _ => h).keep9 fun _ _ _ => rfl
    have e7 : (acc ++ [z]).length ≤ l.length + 1 := by rw [zA7, List.length_singleton, HM.out, HN.out]; omega
    exact bodyPost_ret (Q0C rfl _ _ (.slice X3 (m + 1) d3) w.heap.size _ _ (0, 0) _ rfl rfl e1.drew Tryz.underlying103 rfl (Q0k _ _ _ _ _ _ _ _)) rfl (HQ.out _ _ ⟨_, z, nx, none, rfl, .inr ⟨rfl, acc ++ [z], X3, d3, by rw [zA7, List.length_singleton, HM.out], e4, e7, HST.out, e5, (e6.weak fun k _ h => h.1).drew9⟩, e2.drew⟩)
end
section
open Go.RowKit LX TR TM DT
namespace DT
def Q0B (emp : Bool) (rd : Rdr Nd) (ks : List Tr) (e : Int) : Except Int (List Nd) := if emp = true ∧ ks = [] then .ok [] else match Q0c rd ks e with
 | .error p => .error p
 | .ok (xs, []) => .ok xs
 | .ok (_, y :: _) => .error y.t.p
def Gw (s : Nat) (emp : Bool) (rd : Rdr Nd) (ks : List Tr) (e : Int) (out : Value) (f : Option Int) (w : World) : Prop :=
 (∃ p, f = some p ∧ out = .slice none 0 0 ∧ Q0B emp rd ks e = .error p) ∨ (f = none ∧ ∃ zs X d, out = .slice X zs.length d ∧ zs.length ≤ d ∧ zs.length ≤ ks.length + 1 ∧ Q0B emp rd ks e = .ok (er zs) ∧ SlC w (fun k => s ≤ k) X (ncs zs) ∧ DeepN w (fun k => s ≤ k) zs)
def Wc (what : Int) (emp : Bool) (rd : Rdr Nd) (N : Nat) : Prop := ∀ (x : Tr) (w : World), Trs w w.heap.size x.A x.ks → Fw x.ks → (nodes x.ks).length ≤ N →
 Calls Tryz.prog 119 #[.int .i64 what, .agg (trv x), .bool emp] w fun e' w' => ∃ out z n f, e' = .returned (.tuple #[out, .agg (gv z n f)]) ∧ Gw (w.heap.size + 2) emp rd x.ks x.e out f w' ∧ Below w.heap.size w w'
theorem QcI {emp : Bool} {rd : Rdr Nd} {ks : List Tr} {e : Int} (h : ¬ (emp = true ∧ ks = [])) : Q0B emp rd ks e = match Q0c rd ks e with
 | .error p => .error p
 | .ok (xs, []) => .ok xs
 | .ok (_, y :: _) => .error y.t.p := by unfold Q0B; rw [if_neg h]
end DT
theorem Q2Z {what : Int} {rd : Rdr Nd} {N : Nat} (emp : Bool) (hOne : Oc what rd N) : Wc what emp rd N := by
 intro x w hT hF hNN
 have HSM := zh (Q7M hOne)
 clear hOne
 obtain ⟨⟨q, ts, tp⟩, YA, yc, ks, ye⟩ := x
 simp only [Tr.A, Tr.ks, Tr.e] at hT hF hNN ⊢
 have hl := hF.1
 have hr0 := (RowAt.new w 55 #[.int .u8 (q : Int), .string ts, .int .i64 tp, .slice YA ks.length yc, .int .i64 ye]).alloc (.cells #[.int .i64 0, .int .i64 0, .string ⟨#[]⟩, .slice none 0 0, .slice none 0 0, .int .i64 0, .bool false, .int .i64 0] 103)
 have hg0 := RowAt.new (w.alloc (.cells #[.int .u8 (q : Int), .string ts, .int .i64 tp, .slice YA ks.length yc, .int .i64 ye] 55)) 103 #[.int .i64 0, .int .i64 0, .string ⟨#[]⟩, .slice none 0 0, .slice none 0 0, .int .i64 0, .bool false, .int .i64 0]
 rw [show (w.alloc (.cells #[.int .u8 (q : Int), .string ts, .int .i64 tp, .slice YA ks.length yc, .int .i64 ye] 55)).heap.size = w.heap.size + 1 by simp] at hg0
 have hbz : Below w.heap.size w ((w.alloc (.cells #[.int .u8 (q : Int), .string ts, .int .i64 tp, .slice YA ks.length yc, .int .i64 ye] 55)).alloc (.cells #[.int .i64 0, .int .i64 0, .string ⟨#[]⟩, .slice none 0 0, .slice none 0 0, .int .i64 0, .bool false, .int .i64 0] 103)) := ((zB _ _).alloc (zL _) _).alloc (by simp) _
 have HC := zh (HSM.out YA yc ks ye _ ((hT.below hbz).mono hbz.size) hF hNN)
 have HR0 := zh hr0
 have HG0 := zh hg0
 have HB0 := zh hbz
 have HTT := zh hT
 refine Q0e fun Q' hQ => ?_
 have HQ := zh hQ
 have HTR : Hid (trv (.mk ⟨q, ts, tp⟩ YA yc ks ye) = #[.int .u8 (q : Int), .string ts, .int .i64 tp, .slice YA ks.length yc, .int .i64 ye]) := rfl
 rw [HTR.out]
 clear hr0 hg0 hbz hT hQ HTR HSM hF hNN
 by_cases hem : emp = true ∧ ks = []
 ·obtain ⟨rfl, rfl⟩ := hem
  obtain ⟨⟨k0, k1, k2, k3, k4, k5, k6, k7⟩, fk⟩ := row8 HG0.out
  simp only [zA9] at *
  go_enter Tryz.func119, Tryz.ntmps119
  go_wp2_with fail
  exact bodyPost_ret (Q0C rfl _ _ (.slice none 0 0) (w.heap.size + 1) _ _ (0, 0) _ rfl rfl HG0.out Tryz.underlying103 rfl (Q0k _ _ _ _ _ _ _ _)) rfl (HQ.out _ _ ⟨.slice none 0 0, n0, 0, none, rfl, .inr ⟨rfl, [], none, 0, rfl, zL _, Nat.zero_le _, by rw [TM.er]; rfl, SlC.nil _ _ _, DeepN.nil _ _⟩, HB0.out⟩)
 ·have HWD := zh (QcI (rd := rd) (e := ye) hem)
  have hcase : emp = false ∨ (emp = true ∧ ((ks.length : Int) == 0) = false) := by
   cases emp with
   | false => exact .inl rfl
   | true =>
     refine .inr ⟨rfl, ?_⟩
     rw [beq_eq_false_iff_ne]
     intro h
     exact hem ⟨rfl, List.eq_nil_of_length_eq_zero (by omega)⟩
  clear hem
  generalize hn : ks.length = n at *
  have HN := zh hn; clear hn
  rcases hcase with rfl | ⟨rfl, hne0⟩
  all_goals (
   go_enter Tryz.func119, Tryz.ntmps119
   go_wp2_with fail
   refine HC.out.mono ?_
   rintro e' w1 ⟨out, z, nx, f, rfl, ⟨p, rfl, rfl, her⟩ | ⟨rfl, zs, X, d, rfl, hd, hlz, hst, hsl, hdz⟩, hb1⟩
   ·have hb2 : Below w1.heap.size w1 (w1.alloc (.cells #[.int .i64 z.k, .int .i64 z.p, .string z.s, .slice z.A z.ws.length z.c, .slice z.B z.ks.length z.d, .int .i64 nx, .bool true, .int .i64 p] 103)) := (zB _ _).alloc (zL _) _
    have hz0 : w.heap.size + 1 < w1.heap.size := zT HG0.out.lt hb1.size
    have HR1 := zh ((HR0.out.below hb1 HR0.out.lt).below hb2 (by omega))
    have HG1 := zh ((HG0.out.below hb1 HG0.out.lt).below hb2 hz0)
    have HW1 := zh ((HB0.out.trans (hb1.mono HB0.out.size)).trans (hb2.mono (by omega)))
    have HGG := zh (RowAt.new w1 103 #[.int .i64 z.k, .int .i64 z.p, .string z.s, .slice z.A z.ws.length z.c, .slice z.B z.ks.length z.d, .int .i64 nx, .bool true, .int .i64 p])
    rw [her] at HWD
    clear hb1 hb2 her HC HR0 HG0 HB0
    unfold gv
    simp only [Option.isSome_some, Option.getD_some]
    go_upto_region 4 with fail
    generalize w1.alloc (.cells #[.int .i64 z.k, .int .i64 z.p, .string z.s, .slice z.A z.ws.length z.c, .slice z.B z.ks.length z.d, .int .i64 nx, .bool true, .int .i64 p] 103) = w2 at *
    obtain ⟨⟨h0, h1, h2, h3, h4, h5, h6, h7⟩, ff⟩ := row8 HGG.out
    obtain ⟨⟨k0, k1, k2, k3, k4, k5, k6, k7⟩, fk⟩ := row8 HG1.out
    go_wp2_with fail
    go_region
    go_wp2_with fail
    change bodyPost _ _ _ _ _ ((set8 w2 (w.heap.size + 1) (.int .i64 z.k) (.int .i64 z.p) (.string z.s) (.slice z.A z.ws.length z.c) (.slice z.B z.ks.length z.d) (.int .i64 nx) (.bool true) (.int .i64 p)).drew)
    have e1 : RowAt (set8 w2 (w.heap.size + 1) (.int .i64 z.k) (.int .i64 z.p) (.string z.s) (.slice z.A z.ws.length z.c) (.slice z.B z.ks.length z.d) (.int .i64 nx) (.bool true) (.int .i64 p)) (w.heap.size + 1) 103 #[.int .i64 z.k, .int .i64 z.p, .string z.s, .slice z.A z.ws.length z.c, .slice z.B z.ks.length z.d, .int .i64 nx, .bool true, .int .i64 p] := Q0t HG1.out
    have e2 : Below w.heap.size w (set8 w2 (w.heap.size + 1) (.int .i64 z.k) (.int .i64 z.p) (.string z.s) (.slice z.A z.ws.length z.c) (.slice z.B z.ks.length z.d) (.int .i64 nx) (.bool true) (.int .i64 p)) := HW1.out.trans (Q0u (by omega))
    generalize set8 w2 (w.heap.size + 1) (.int .i64 z.k) (.int .i64 z.p) (.string z.s) (.slice z.A z.ws.length z.c) (.slice z.B z.ks.length z.d) (.int .i64 nx) (.bool true) (.int .i64 p) = w8 at *
    exact bodyPost_ret (Q0C rfl _ _ (.slice none 0 0) (w.heap.size + 1) _ _ (0, 0) _ rfl rfl e1.drew Tryz.underlying103 rfl (Q0k _ _ _ _ _ _ _ _)) rfl (HQ.out _ _ ⟨.slice none 0 0, z, nx, some p, rfl, .inl ⟨p, rfl, rfl, HWD.out⟩, e2.drew⟩)
   ·have hcs := hst.cases
    rw [Q1j] at hcs
    have hok : Q0c rd ks ye = .ok (TM.er zs, rest ks nx) := by
     rcases hcs with ⟨p, h1, _⟩ | ⟨_, _, h1⟩
     ·cases h1
     ·exact h1
    rw [hok] at HWD
    obtain ⟨m, hm, hmk, hdr⟩ := hst.1.drop
    rw [Q1j] at hmk hdr
    have hi2 : nx = (m : Int) := by omega
    subst hi2
    clear hm
    have hb2 : Below w1.heap.size w1 (w1.alloc (.cells #[.int .i64 z.k, .int .i64 z.p, .string z.s, .slice z.A z.ws.length z.c, .slice z.B z.ks.length z.d, .int .i64 (m : Int), .bool false, .int .i64 0] 103)) := (zB _ _).alloc (zL _) _
    have HSL : Hid (SlC (w1.alloc (.cells #[.int .i64 z.k, .int .i64 z.p, .string z.s, .slice z.A z.ws.length z.c, .slice z.B z.ks.length z.d, .int .i64 (m : Int), .bool false, .int .i64 0] 103)) (fun k => w.heap.size + 2 ≤ k) X (ncs zs)) := (hsl.keep9 fun k hk _ => hb2.block k hk).weak fun k _ hk => by simp at hk; omega
    have HDZ : Hid (DeepN (w1.alloc (.cells #[.int .i64 z.k, .int .i64 z.p, .string z.s, .slice z.A z.ws.length z.c, .slice z.B z.ks.length z.d, .int .i64 (m : Int), .bool false, .int .i64 0] 103)) (fun k => w.heap.size + 2 ≤ k) zs) := (hdz.keep9 fun k hk _ => hb2.block k hk).weak fun k _ hk => by simp at hk; omega
    have hz0 : w.heap.size + 1 < w1.heap.size := zT HG0.out.lt hb1.size
    have HR1 := zh ((HR0.out.below hb1 HR0.out.lt).below hb2 (by omega))
    have HG1 := zh ((HG0.out.below hb1 HG0.out.lt).below hb2 hz0)
    have HW1 := zh ((HB0.out.trans (hb1.mono HB0.out.size)).trans (hb2.mono (by omega)))
    have HGG := zh (RowAt.new w1 103 #[.int .i64 z.k, .int .i64 z.p, .string z.s, .slice z.A z.ws.length z.c, .slice z.B z.ks.length z.d, .int .i64 (m : Int), .bool false, .int .i64 0])
    clear hb1 hb2 hsl hdz hst hcs HC HR0 HG0 HB0 hok
    unfold gv
    simp only [Option.isSome_none, Option.getD_none]
    go_upto_region 4 with fail
    generalize w1.alloc (.cells #[.int .i64 z.k, .int .i64 z.p, .string z.s, .slice z.A z.ws.length z.c, .slice z.B z.ks.length z.d, .int .i64 (m : Int), .bool false, .int .i64 0] 103) = w2 at *
    obtain ⟨⟨h0, h1, h2, h3, h4, h5, h6, h7⟩, ff⟩ := row8 HGG.out
    obtain ⟨r0, r1, r2, r3, r4, _, _, _, _, _⟩ := row5 HR1.out
    obtain ⟨⟨k0, k1, k2, k3, k4, k5, k6, k7⟩, fk⟩ := row8 HG1.out
    by_cases hlt : m < n
    ·have hw := Q1P YA yc ks (m : Int) ye w2 ((HTT.out.below HW1.out).mono HW1.out.size)
     rw [HN.out] at hw
     have HWR := zh hw
     cases hq : rest ks (m : Int) with
     | nil =>
       rw [hq] at hdr
       have := congrArg List.length hdr
       rw [List.length_drop, zA9] at this
       have h9 := HN.out
       omega
     | cons y r =>
       rw [hq] at HWD HWR
       have HWH : Hid (Q0B _ rd ks ye = .error y.t.p) := HWD
       have HWR2 : Hid (Calls Tryz.prog 118 #[.slice YA n yc, .int .i64 (m : Int), .int .i64 ye] w2 fun e' w' => e' = .returned (gbad y.t.p) ∧ Below w2.heap.size w2 w') := HWR
       have e0 : decide ((m : Int) < (n : Int)) = true := zE (by omega)
       clear hw hdr hq HWR HWD
       generalize y.t.p = p at *
       go_wp2_with fail
       refine HWR2.out.mono ?_
       rintro e' w3 ⟨rfl, hb3⟩
       have HR2 := zh (HG1.out.below hb3 HG1.out.lt)
       have HW2 := zh (HW1.out.trans (hb3.mono HW1.out.size))
       clear hb3 h0 h1 h2 h3 h4 h5 h6 h7 ff r0 r1 r2 r3 r4 k0 k1 k2 k3 k4 k5 k6 k7 fk
       obtain ⟨⟨k0, k1, k2, k3, k4, k5, k6, k7⟩, fk⟩ := row8 HR2.out
       unfold gbad
       go_wp2_with fail
       change bodyPost _ _ _ _ _ (set8 w3 (w.heap.size + 1) (.int .i64 0) (.int .i64 0) (.string ⟨#[]⟩) (.slice none 0 0) (.slice none 0 0) (.int .i64 0) (.bool true) (.int .i64 p))
       have e1 : RowAt (set8 w3 (w.heap.size + 1) (.int .i64 0) (.int .i64 0) (.string ⟨#[]⟩) (.slice none 0 0) (.slice none 0 0) (.int .i64 0) (.bool true) (.int .i64 p)) (w.heap.size + 1) 103 #[.int .i64 0, .int .i64 0, .string ⟨#[]⟩, .slice none 0 0, .slice none 0 0, .int .i64 0, .bool true, .int .i64 p] := Q0t HR2.out
       have e2 : Below w.heap.size w (set8 w3 (w.heap.size + 1) (.int .i64 0) (.int .i64 0) (.string ⟨#[]⟩) (.slice none 0 0) (.slice none 0 0) (.int .i64 0) (.bool true) (.int .i64 p)) := HW2.out.trans (Q0u (by omega))
       generalize set8 w3 (w.heap.size + 1) (.int .i64 0) (.int .i64 0) (.string ⟨#[]⟩) (.slice none 0 0) (.slice none 0 0) (.int .i64 0) (.bool true) (.int .i64 p) = w8 at *
       exact bodyPost_ret (Q0C rfl _ _ (.slice none 0 0) (w.heap.size + 1) _ _ (0, 0) _ rfl rfl e1 Tryz.underlying103 rfl (Q0k _ _ _ _ _ _ _ _)) rfl (HQ.out _ _ ⟨.slice none 0 0, n0, 0, some p, rfl, .inl ⟨p, rfl, rfl, HWH.out⟩, e2⟩)
    ·have h9 := HN.out
     have hnil : rest ks (m : Int) = [] := by rw [hdr]; exact List.drop_eq_nil_of_le (by omega)
     rw [hnil] at HWD
     have HWH : Hid (Q0B _ rd ks ye = .ok (TM.er zs)) := HWD
     have hlz2 : zs.length ≤ ks.length + 1 := by omega
     have HLZ := zh hlz2
     have e0 : decide ((m : Int) < (n : Int)) = false := zF (by omega)
     clear hdr hnil h9 HWD hlz2 hlz
     go_wp2_with fail
     go_region
     go_wp2_with fail
     change bodyPost _ _ _ _ _ ((set8 w2 (w.heap.size + 1) (.int .i64 z.k) (.int .i64 z.p) (.string z.s) (.slice z.A z.ws.length z.c) (.slice z.B z.ks.length z.d) (.int .i64 (m : Int)) (.bool false) (.int .i64 0)).drew)
     have e1 : RowAt (set8 w2 (w.heap.size + 1) (.int .i64 z.k) (.int .i64 z.p) (.string z.s) (.slice z.A z.ws.length z.c) (.slice z.B z.ks.length z.d) (.int .i64 (m : Int)) (.bool false) (.int .i64 0)) (w.heap.size + 1) 103 #[.int .i64 z.k, .int .i64 z.p, .string z.s, .slice z.A z.ws.length z.c, .slice z.B z.ks.length z.d, .int .i64 (m : Int), .bool false, .int .i64 0] := Q0t HG1.out
     have e2 : Below w.heap.size w (set8 w2 (w.heap.size + 1) (.int .i64 z.k) (.int .i64 z.p) (.string z.s) (.slice z.A z.ws.length z.c) (.slice z.B z.ks.length z.d) (.int .i64 (m : Int)) (.bool false) (.int .i64 0)) := HW1.out.trans (Q0u (by omega))
     have e3 : SlC (set8 w2 (w.heap.size + 1) (.int .i64 z.k) (.int .i64 z.p) (.string z.s) (.slice z.A z.ws.length z.c) (.slice z.B z.ks.length z.d) (.int .i64 (m : Int)) (.bool false) (.int .i64 0)) (fun k => w.heap.size + 2 ≤ k) X (ncs zs) := HSL.out.keep9 fun k _ hk => Q1k (by omega)
     have e4 : DeepN (set8 w2 (w.heap.size + 1) (.int .i64 z.k) (.int .i64 z.p) (.string z.s) (.slice z.A z.ws.length z.c) (.slice z.B z.ks.length z.d) (.int .i64 (m : Int)) (.bool false) (.int .i64 0)) (fun k => w.heap.size + 2 ≤ k) zs := HDZ.out.keep9 fun k _ hk => Q1k (by omega)
     generalize set8 w2 (w.heap.size + 1) (.int .i64 z.k) (.int .i64 z.p) (.string z.s) (.slice z.A z.ws.length z.c) (.slice z.B z.ks.length z.d) (.int .i64 (m : Int)) (.bool false) (.int .i64 0) = w8 at *
     exact bodyPost_ret (Q0C rfl _ _ (.slice X zs.length d) (w.heap.size + 1) _ _ (0, 0) _ rfl rfl e1.drew Tryz.underlying103 rfl (Q0k _ _ _ _ _ _ _ _)) rfl (HQ.out _ _ ⟨_, z, (m : Int), none, rfl, .inr ⟨rfl, zs, X, d, rfl, hd, HLZ.out, HWH.out, e3.keep9 fun _ _ _ => rfl, e4.drew9⟩, e2.drew⟩))
end
section
open Go.RowKit LX TR TM DT
namespace DT
def nwd (z : Nd) : Wd := ⟨z.s, z.p⟩
def wnR : Rdr Nd := fun ts e => bnd (Q05 ts e) fun w r => .ok (wnd w, r)
theorem Q5D (zs : List Nd) : (er zs).map nwd = zs.map nwd := by
 induction zs with
 | nil => rw [TM.er]
 | cons z r ih => obtain ⟨k, p, s, A, c, ws, B, d, ks⟩ := z; rw [TM.er, List.map_cons, List.map_cons, ih]; rfl
theorem Q7N (ws : List Wd) : (ws.map wnd).map nwd = ws := by
 induction ws with
 | nil => rfl
 | cons w r ih => rw [List.map_cons, List.map_cons, ih]; rfl
theorem Q7O (e : Int) : ∀ (n : Nat) (ts : List Tr), Q0v wnR n ts e = bnd (Q0v Q05 n ts e) fun ws r => .ok (ws.map wnd, r)
 | 0, ts => rfl
 | n + 1, [] => rfl
 | n + 1, c :: r => by
   simp only [Q0v]
   split
   ·rw [show wnR r e = bnd (Q05 r e) fun w r => .ok (wnd w, r) from rfl]
    cases Q05 r e with
    | error p => rfl
    | ok xr =>
      obtain ⟨x, r2⟩ := xr
      simp only [bnd]
      rw [Q7O e n r2]
      cases Q0v Q05 n r2 e with
      | error p => rfl
      | ok yr => rfl
   ·rfl
theorem Q7P (ts : List Tr) (e : Int) : Q0c wnR ts e = bnd (Q0c Q05 ts e) fun ws r => .ok (ws.map wnd, r) := by
 unfold Q0c
 rw [show wnR ts e = bnd (Q05 ts e) fun w r => .ok (wnd w, r) from rfl]
 cases Q05 ts e with
 | error p => rfl
 | ok xr =>
   obtain ⟨x, r⟩ := xr
   simp only [bnd]
   rw [Q7O e ts.length r]
   cases Q0v Q05 ts.length r e with
   | error p => rfl
   | ok yr => rfl
end DT
theorem Q4o (X : Option Addr) (d : Nat) (zs : List Nd) (B : Nat) (w : World) (hB : B ≤ w.heap.size) (hl : zs.length ≤ 1048577) (hX : Sl w B X (ncs zs)) :
 Calls Tryz.prog 120 #[.slice X zs.length d] w fun e w' => ∃ Y dd, e = .returned (.slice Y zs.length dd) ∧ zs.length ≤ dd ∧ SlC w' (fun k => w.heap.size ≤ k) Y (wcs (zs.map nwd)) ∧ Below w.heap.size w w' := by
 have HX := zh hX; clear hX
 generalize hn : zs.length = n at *
 have HN := zh hn; clear hn
 go_enter Tryz.func120, Tryz.ntmps120
 go_wp2_with fail
 go_loopw [3, 4] (fun ov iv wr => ∃ (i : Nat) (Y : Option Addr) (dd : Nat), i ≤ n ∧ ov = .slice Y i dd ∧ iv = .int .i64 i ∧ Hid (wr.ownsRow w.heap.size 24 2 (.slice Y i dd) i (wcs ((zs.take i).map nwd))) ∧ Hid (Below w.heap.size w wr)) (fun _ iv _ => n - (intOf iv).toNat)
 case atStart => exact ⟨0, none, 0, by omega, rfl, rfl, by rw [List.take_zero]; exact World.ownsRow_nil _ _ _ _, zB _ _⟩
 case round =>
  obtain ⟨i, Y, dd, hi, rfl, rfl, HO, HW⟩ := hrel
  have hszr : w.heap.size ≤ wr.heap.size := HW.out.size
  by_cases hlt : i < n
  ·obtain ⟨bb, o, rfl, hbb, hc⟩ := Q0O (z := n0) Q2m (HX.out.below (HW.out.mono hB)) (k := i) (by rw [HN.out]; exact hlt) (by omega)
   have q1 := hc i 1 _ (by rw [HN.out]; exact hlt) (by omega) rfl
   have q2 := hc i 2 _ (by rw [HN.out]; exact hlt) (by omega) rfl
   have htk : zs.take (i + 1) = zs.take i ++ [zs.getD i n0] := by
        rw [List.getD_eq_getElem?_getD, List.getElem?_eq_getElem (by rw [HN.out]; exact hlt), Option.getD_some]
        exact List.take_succ_eq_append_getElem (by rw [HN.out]; exact hlt)
   rw [← Nat.add_assoc] at q1 q2
   have HTK := zh htk
   clear hc htk
   generalize zs.getD i n0 = x at *
   obtain ⟨s, hs⟩ : ∃ s, s = x.s := ⟨_, rfl⟩
   obtain ⟨p, hp⟩ : ∃ p, p = x.p := ⟨_, rfl⟩
   have hxw : nwd x = ⟨s, p⟩ := by rw [hs, hp]; rfl
   have HXW := zh hxw
   have q1' : wr.cell? ⟨bb, o + i * 5 + 1, none⟩ = some (.int .i64 p) := by rw [hp]; exact q1
   have q2' : wr.cell? ⟨bb, o + i * 5 + 2, none⟩ = some (.string s) := by rw [hs]; exact q2
   clear q1 q2 hs hp hxw
   have hin : (i : Int) < (n : Int) := by omega
   have hbr : bb < wr.heap.size := by omega
   go_wp2_with fail
   obtain ⟨S, hSe⟩ : ∃ S : World → Prop, S = fun w' => w'.cell? ⟨bb, o + i * 5 + 1, none⟩ = some (.int .i64 p) ∧ w'.cell? ⟨bb, o + i * 5 + 2, none⟩ = some (.string s) := ⟨_, rfl⟩
   have HS : Hid (S wr.drew) := by rw [hSe]; exact zh ⟨q1', q2'⟩
   have C0 : ∀ w', S w' → w'.cell? ⟨bb, o + i * 5 + 1, none⟩ = some (.int .i64 p) := fun w' h => by rw [hSe] at h; exact h.1
   have C1 : ∀ w', S w' → w'.cell? ⟨bb, o + i * 5 + 2, none⟩ = some (.string s) := fun w' h => by rw [hSe] at h; exact h.2
   have HKS : Hid (∀ wa wb, S wa → Below w.heap.size wa wb → S wb) := fun wa wb h hb => by
        rw [hSe] at h ⊢
        exact ⟨(hb.cell (p := ⟨bb, o + i * 5 + 1, none⟩) (by show bb < w.heap.size; omega)).trans h.1, (hb.cell (p := ⟨bb, o + i * 5 + 2, none⟩) (by show bb < w.heap.size; omega)).trans h.2⟩
   have HO2 : Hid (wr.drew.ownsRow w.heap.size 24 2 (.slice Y i dd) i (wcs ((zs.take i).map nwd))) := HO.out
   have HW2 : Hid (Below w.heap.size w wr.drew) := HW.out.drew
   have hz2 : w.heap.size ≤ wr.drew.heap.size := hszr
   clear q1' q2' HO HW
   refine Q1X S [(0, true), (1, true), (2, true), (3, true), (4, true), (5, true), (6, true), (7, true), (8, true), (9, true), (10, true), (11, true), (12, false), (13, false), (14, true)] (by kernel_rfl) (by kernel_rfl) rfl (by kernel_rfl) HS.out ?_
   generalize wr.drew = w2 at *
   iterate 12
        (refine Q1b (zO rfl) ?_)
        (first
         | (refine Q1c (by rfl) ?_)
         | (refine Q1d (v := ?_) (by rfl) ?_ ?_; rotate_left 1; (intro wx hSx; have hc_0 := C0 wx hSx; have hc_1 := C1 wx hSx; go_simp; try with_reducible rfl)))
        (try simp only [Act.put, zA4, zA5, zA6])
   (refine Q13 (zO rfl) ?_)
   intro K hK
   go_simp
   have hS2 := HKS.out _ _ HS.out ((zB w.heap.size w2).alloc hz2 (.cells #[.string s, .int .i64 p] 24))
   refine hK.out _ _ hS2 ?_
   clear hK K HS
   have HS := zh hS2; clear hS2
   (refine Q13 (zO rfl) ?_)
   intro K hK
   rw [if_pos (by rfl)]
   refine QcA _ _ 25 rfl 24 (.agg #[.string ⟨#[]⟩, .int .i64 0]) 2 24 Tryz.underlying25 Q6p rfl (by decide) w.heap.size Y i dd (wcs ((zs.take i).map nwd)) rfl ?c1 w2.heap.size (Q0X ⟨s, p⟩) rfl rfl ?c2 (Q6q _) ?c3 ?c4 ?c5 ?_
   case c1 => exact own_below HO2.out ((zB _ _).alloc (zL _) _) (zL _)
   case c2 => intro j u hu; have h := (RowAt.new w2 24 (Q0X ⟨s, p⟩).toArray).cell j; exact h.trans (by simpa using hu)
   case c3 => simp only [maxLen]; omega
   case c4 => omega
   case c5 => simp; omega
   intro Y3 d3 w3 hown3 hb3 hg3 hat3
   have hS3 := HKS.out _ _ HS.out hb3
   refine hK.out _ _ hS3 ?_
   clear hK K HS
   have HS := zh hS3; clear hS3
   simp only [Act.put]
   iterate 1
        (refine Q1b (zO rfl) ?_)
        (first
         | (refine Q1c (by rfl) ?_)
         | (refine Q1d (v := ?_) (by rfl) ?_ ?_; rotate_left 1; (intro wx hSx; have hc_0 := C0 wx hSx; have hc_1 := C1 wx hSx; go_simp; try with_reducible rfl)))
        (try simp only [Act.put, zA4, zA5, zA6])
   refine Q1Y ?_
   have HO3 : Hid (w3.ownsRow w.heap.size 24 2 (.slice Y3 (i + 1) d3) (i + 1) (wcs ((zs.take (i + 1)).map nwd))) := by
        rw [HTK.out, List.map_append, List.map_singleton, HXW.out, Q6n, Q6o]; exact zh hown3
   have HW3 := zh (HW2.out.trans (((zB w.heap.size w2).alloc hz2 _).trans hb3))
   clear hown3 hb3 hg3 hat3
   go_wp2_with fail
   go_roundw
   case rel => exact ⟨i + 1, Y3, d3, by omega, rfl, by go_num, HO3, HW3⟩
   case measure => simp [intOf]; omega
  ·obtain rfl : i = n := by omega
   have HCP := zh (Q17 HO.out)
   have hfull : zs.take i = zs := List.take_of_length_le (by rw [HN.out]; exact zL _)
   rw [hfull] at HO
   go_wp2_with fail
   go_ret
   exact ⟨Y, dd, rfl, HCP.out, SlC.of_own HO.out fun k h _ => h, HW.out⟩
theorem Q4p (N : Nat) : Oc 6 wnR N := by
 intro A c l i e w hT hF h0 h1 hN
 refine (QcC A c l i e w hT (by have := hF.1; omega)).mono ?_
 rintro e' w' ⟨⟨x, rfl, hs⟩ | ⟨p, rfl, hs⟩, hb⟩
 ·refine ⟨nd 0 x.p x.s [] [], i + 1, none, rfl, .inr ⟨rfl, ?_, ?_⟩, hb⟩
  ·refine ⟨hs.1, fun p hp => (by cases hp), fun _ => ?_⟩
   rcases hs.cases with ⟨p, h, _⟩ | ⟨_, _, h⟩
   ·cases h
   ·unfold wnR
    rw [h]
    exact ⟨rfl, by rw [show er1 (nd 0 x.p x.s [] []) = wnd x by unfold er1 wnd nd; simp [Nd.k, Nd.p, Nd.s, Nd.ws, Nd.ks, TM.er, nd]], rfl⟩
  ·intro y hy
   obtain rfl : y = nd 0 x.p x.s [] [] := by simpa [TM.all, nd] using hy
   exact ⟨⟨SlC.nil _ _ _, zL _⟩, SlC.nil _ _ _, zL _⟩
 ·refine ⟨n0, 0, some p, rfl, .inl ⟨p, rfl, ?_⟩, hb⟩
  unfold wnR
  rcases hs.cases with ⟨q, h, ⟨_, h2⟩ | h2⟩ | ⟨_, h, _⟩
  ·obtain rfl := Option.some.inj h
   rw [h2]; rfl
  ·cases h2
  ·cases h
end
end Go.Proofs.YtmobcncgfbfmcaaGreatDoor
