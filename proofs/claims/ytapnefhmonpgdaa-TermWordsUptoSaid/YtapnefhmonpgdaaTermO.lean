/-
  Writing lists of names and of nodes. Conditions: texts below 2^47 bytes.
-/
import Derived.Test.YtapnefhmonpgdaaTermN
namespace Go.Proofs.Ytapnefhmonpgdaa
open Go.RowKit LX TR TM

set_option maxRecDepth 100000 in
set_option maxHeartbeats 1600000 in
theorem wlistW_any {F : FuncId} {f : Wd → List UInt8} {KK : World → Nat → Prop} (hf : ∀ args w, (callFunc F args).run Try.prog w = .ok (.enter F args) w) (A : Option Addr) (c : Nat) (zs : List Wd) (hn : zs.length ≤ 1099511627776)
    (HF : ∀ z ∈ zs, Writes F (.agg (wv z)) (f z) KK) (hKK : ∀ wa wb B, KK wa B → Below B wa wb → KK wb B) (before after : ByteArray)
    (w : World) (B b : Nat) (acc : List UInt8) (h : Bld w B b acc) (hB : B ≤ w.heap.size) (hl : acc.length + (lst before ++ (jc (zs.map f) ++ lst after)).length ≤ 140737488355328) (hk : KK w B) (hA : Sl w B A (wcs zs)) :
    Calls Try.prog 72 #[.pointer (some ⟨b, 0, none⟩), .string before, .slice A zs.length c, .func (.func F) #[] #[], .string after] w fun e w' => e = .returned (.tuple #[]) ∧ Bld w' B b (acc ++ (lst before ++ (jc (zs.map f) ++ lst after))) ∧ Below B w w' ∧ Lib.OthersKept 5 (some b) w w' := by
  rw [List.length_append, List.length_append, lst_length, lst_length] at hl
  have HC0 := Lib.hid (wstr_any before h hB (by omega))
  have HA := Lib.hid hA; clear hA
  have HKW := Lib.hid hk; clear hk
  have HKK := Lib.hid hKK; clear hKK
  have HFF : Hid (∀ i, i < zs.length → Writes F (.agg (wv (zs.getD i w0))) (f (zs.getD i w0)) KK) := fun i hi => HF _ (by
    rw [List.getD_eq_getElem?_getD, List.getElem?_eq_getElem hi]
    exact List.getElem_mem hi)
  clear HF
  have HTK : Hid (∀ i, i < zs.length → jc ((zs.map f).take (i + 1)) = jc ((zs.map f).take i) ++ (if 0 < i then 44 :: f (zs.getD i w0) else f (zs.getD i w0))) := fun i hi => by
    have h1 := jc_take (l := zs.map f) (i := i) (by simpa using hi)
    rw [show (zs.map f).getD i [] = f (zs.getD i w0) by
      rw [List.getD_eq_getElem?_getD, List.getD_eq_getElem?_getD, List.getElem?_map, List.getElem?_eq_getElem hi]; rfl] at h1
    exact h1
  have HLE : Hid (∀ i, (jc ((zs.map f).take i)).length ≤ (jc (zs.map f)).length) := jc_le _
  have HEN : Hid (jc ((zs.map f).take zs.length) = jc (zs.map f)) := by
    show jc _ = _
    rw [List.take_of_length_le (by simp)]
  have HJ0 : Hid (jc ((zs.map f).take 0) = []) := by rw [List.take_zero]; exact Lib.hid rfl
  have hb := bld_lt h
  generalize hJ : jc (zs.map f) = J at *
  clear hJ h
  generalize hm : zs.length = n at *
  have HN := Lib.hid hm; clear hm
  go_enter Try.func72, Try.ntmps72
  go_wp2_with fail
  refine HC0.out.mono ?_
  rintro e w1 ⟨rfl, h1, h2, h3⟩
  have H1 : Hid (Bld w1 B b (acc ++ (lst before ++ jc ((zs.map f).take 0)))) := by rw [HJ0.out, List.append_nil]; exact Lib.hid h1
  have H2 := Lib.hid h2
  have H3 := Lib.hid h3
  clear h1 h2 h3 HC0
  go_wp2_with fail
  go_loopw [17] (fun iv wr => ∃ i : Nat, i ≤ n ∧ iv = .int .i64 i ∧ Hid (Bld wr B b (acc ++ (lst before ++ jc ((zs.map f).take i)))) ∧ Hid (Below B w wr) ∧ Hid (Lib.OthersKept 5 (some b) w wr)) (fun iv _ => n - (intOf iv).toNat)
  case atStart => exact ⟨0, by omega, rfl, H1.out, H2.out, H3.out⟩
  case round =>
    obtain ⟨i, hi, rfl, HBU, HW, HO⟩ := hrel
    have hBr : B ≤ wr.heap.size := Nat.le_trans hB HW.out.size
    by_cases hlt : i < n
    · obtain ⟨bb, o, rfl, hbb, hc⟩ := sl_at (z := w0) wcells_length (HA.out.below HW.out) (k := i) (by rw [HN.out]; exact hlt) (by omega)
      have q0 := hc i 0 _ (by rw [HN.out]; exact hlt) (by omega) rfl
      have q1 := hc i 1 _ (by rw [HN.out]; exact hlt) (by omega) rfl
      rw [Nat.add_zero] at q0
      rw [← Nat.add_assoc] at q1
      have HT := Lib.hid (HTK.out i hlt)
      have HLN : Hid (acc.length + (before.size + (jc ((zs.map f).take (i + 1))).length) ≤ 140737488355328) := by
        have h1 := HLE.out (i + 1)
        show _ ≤ _
        omega
      have HFI := Lib.hid (HFF.out i hlt)
      generalize zs.getD i w0 = z at *
      have hrow := RowAt.new wr 69 (wv z)
      have HROW := Lib.hid hrow
      have hb2 := bld_lt HBU.out
      have HB2 := Lib.hid (bld_below HBU.out ((Below.refl _ wr).alloc (Nat.le_refl _) (.cells (wv z) 69)))
      have HW2 := Lib.hid (HW.out.alloc hBr (.cells (wv z) 69))
      have HO2 := Lib.hid (HO.out.alloc (.cells (wv z) 69))
      clear hc hrow
      obtain ⟨s9, p9⟩ := z
      by_cases h0 : 0 < i
      · rw [if_pos h0] at HT
        have HL1 : Hid ((acc ++ (lst before ++ jc ((zs.map f).take i))).length + 1 ≤ 140737488355328) := by
          have h1 := HLN.out
          rw [HT.out] at h1
          simp only [List.length_append, List.length_cons, lst_length] at h1 ⊢
          show _ ≤ _
          omega
        have HC1 := Lib.hid (wbyte_any 44 HB2.out (by simp; omega) HL1.out)
        go_wp2_with fail
        refine HC1.out.mono ?_
        rintro e w3 ⟨rfl, k1, k2, k3⟩
        have HR3 := Lib.hid (others_row k3 HROW.out (by omega) (by decide))
        have HK1 := Lib.hid k1
        have HW3 := Lib.hid (HW2.out.trans k2)
        have HO3 := Lib.hid (HO2.out.trans k3)
        obtain ⟨m0, m1, _, _⟩ := row2 HR3.out
        clear k1 k2 k3 HC1
        have HCF := Lib.hid (HFI.out w3 B b _ HK1.out (Nat.le_trans hB HW3.out.size) (by
          have h1 := HLN.out
          rw [HT.out] at h1
          simp only [List.length_append, List.length_cons, List.length_nil, lst_length] at h1 ⊢
          omega) (HKK.out _ _ _ HKW.out HW3.out))
        skip
        go_wp2_with fail
        refine HCF.out.mono ?_
        rintro e w4 ⟨rfl, k1, k2, k3⟩
        have HN4 : Hid (Bld w4 B b (acc ++ (lst before ++ jc ((zs.map f).take (i + 1))))) := by
          rw [HT.out]
          have e1 : acc ++ (lst before ++ (jc ((zs.map f).take i) ++ 44 :: f ⟨s9, p9⟩)) = ((acc ++ (lst before ++ jc ((zs.map f).take i))) ++ [44]) ++ f ⟨s9, p9⟩ := by simp
          rw [e1]; exact Lib.hid k1
        have HW4 := Lib.hid (HW3.out.trans k2)
        have HO4 := Lib.hid (HO3.out.trans k3)
        clear k1 k2 k3 HCF
        go_wp2
        go_roundw
        case rel => exact ⟨i + 1, by omega, by go_num, HN4, HW4, HO4⟩
        case measure => simp [intOf]; omega
      · rw [if_neg h0] at HT
        obtain rfl : i = 0 := by omega
        simp only [Nat.zero_mul, Nat.add_zero] at q0 q1
        have HCF := Lib.hid (HFI.out _ B b _ HB2.out (by simp; omega) (by
          have h1 := HLN.out
          rw [HT.out] at h1
          simp only [List.length_append, lst_length] at h1 ⊢
          omega) (HKK.out _ _ _ HKW.out HW2.out))
        obtain ⟨m0, m1, _, _⟩ := row2 HROW.out
        skip
        go_wp2_with fail
        refine HCF.out.mono ?_
        rintro e w4 ⟨rfl, k1, k2, k3⟩
        have HN4 : Hid (Bld w4 B b (acc ++ (lst before ++ jc ((zs.map f).take (0 + 1))))) := by
          rw [HT.out]
          have e1 : acc ++ (lst before ++ (jc ((zs.map f).take 0) ++ f ⟨s9, p9⟩)) = (acc ++ (lst before ++ jc ((zs.map f).take 0))) ++ f ⟨s9, p9⟩ := by simp
          rw [e1]; exact Lib.hid k1
        have HW4 := Lib.hid (HW2.out.trans k2)
        have HO4 := Lib.hid (HO2.out.trans k3)
        clear k1 k2 k3 HCF
        go_wp2
        go_roundw
        case rel => exact ⟨1, by omega, rfl, HN4, HW4, HO4⟩
        case measure => simp [intOf]; omega
    · obtain rfl : i = n := by omega
      rw [HEN.out] at HBU
      have HC9 := Lib.hid (wstr_any after HBU.out hBr (by
        simp only [List.length_append, lst_length]
        omega))
      go_wp2_with fail
      refine HC9.out.mono ?_
      rintro e w4 ⟨rfl, k1, k2, k3⟩
      have HN4 : Hid (Bld w4 B b (acc ++ (lst before ++ (J ++ lst after)))) := by
        have e1 : acc ++ (lst before ++ (J ++ lst after)) = (acc ++ (lst before ++ J)) ++ lst after := by simp
        rw [e1]; exact Lib.hid k1
      have HW4 := Lib.hid (HW.out.trans k2)
      have HO4 := Lib.hid (HO.out.trans k3)
      clear k1 k2 k3 HC9
      go_wp2_with fail
      go_end0
      exact ⟨rfl, HN4.out, HW4.out, HO4.out⟩

set_option maxRecDepth 100000 in
set_option maxHeartbeats 1600000 in
theorem wlistN_any {F : FuncId} {f : Nd → List UInt8} {KK : World → Nat → Prop} (hf : ∀ args w, (callFunc F args).run Try.prog w = .ok (.enter F args) w) (A : Option Addr) (c : Nat) (zs : List Nd) (hn : zs.length ≤ 1099511627776)
    (HF : ∀ z ∈ zs, Writes F (.agg (nv z)) (f z) KK) (hKK : ∀ wa wb B, KK wa B → Below B wa wb → KK wb B) (before after : ByteArray)
    (w : World) (B b : Nat) (acc : List UInt8) (h : Bld w B b acc) (hB : B ≤ w.heap.size) (hl : acc.length + (lst before ++ (jc (zs.map f) ++ lst after)).length ≤ 140737488355328) (hk : KK w B) (hA : Sl w B A (ncs zs)) :
    Calls Try.prog 71 #[.pointer (some ⟨b, 0, none⟩), .string before, .slice A zs.length c, .func (.func F) #[] #[], .string after] w fun e w' => e = .returned (.tuple #[]) ∧ Bld w' B b (acc ++ (lst before ++ (jc (zs.map f) ++ lst after))) ∧ Below B w w' ∧ Lib.OthersKept 5 (some b) w w' := by
  rw [List.length_append, List.length_append, lst_length, lst_length] at hl
  have HC0 := Lib.hid (wstr_any before h hB (by omega))
  have HA := Lib.hid hA; clear hA
  have HKW := Lib.hid hk; clear hk
  have HKK := Lib.hid hKK; clear hKK
  have HFF : Hid (∀ i, i < zs.length → Writes F (.agg (nv (zs.getD i n0))) (f (zs.getD i n0)) KK) := fun i hi => HF _ (by
    rw [List.getD_eq_getElem?_getD, List.getElem?_eq_getElem hi]
    exact List.getElem_mem hi)
  clear HF
  have HTK : Hid (∀ i, i < zs.length → jc ((zs.map f).take (i + 1)) = jc ((zs.map f).take i) ++ (if 0 < i then 44 :: f (zs.getD i n0) else f (zs.getD i n0))) := fun i hi => by
    have h1 := jc_take (l := zs.map f) (i := i) (by simpa using hi)
    rw [show (zs.map f).getD i [] = f (zs.getD i n0) by
      rw [List.getD_eq_getElem?_getD, List.getD_eq_getElem?_getD, List.getElem?_map, List.getElem?_eq_getElem hi]; rfl] at h1
    exact h1
  have HLE : Hid (∀ i, (jc ((zs.map f).take i)).length ≤ (jc (zs.map f)).length) := jc_le _
  have HEN : Hid (jc ((zs.map f).take zs.length) = jc (zs.map f)) := by
    show jc _ = _
    rw [List.take_of_length_le (by simp)]
  have HJ0 : Hid (jc ((zs.map f).take 0) = []) := by rw [List.take_zero]; exact Lib.hid rfl
  have hb := bld_lt h
  generalize hJ : jc (zs.map f) = J at *
  clear hJ h
  generalize hm : zs.length = n at *
  have HN := Lib.hid hm; clear hm
  go_enter Try.func71, Try.ntmps71
  go_wp2_with fail
  refine HC0.out.mono ?_
  rintro e w1 ⟨rfl, h1, h2, h3⟩
  have H1 : Hid (Bld w1 B b (acc ++ (lst before ++ jc ((zs.map f).take 0)))) := by rw [HJ0.out, List.append_nil]; exact Lib.hid h1
  have H2 := Lib.hid h2
  have H3 := Lib.hid h3
  clear h1 h2 h3 HC0
  go_wp2_with fail
  go_loopw [17] (fun iv wr => ∃ i : Nat, i ≤ n ∧ iv = .int .i64 i ∧ Hid (Bld wr B b (acc ++ (lst before ++ jc ((zs.map f).take i)))) ∧ Hid (Below B w wr) ∧ Hid (Lib.OthersKept 5 (some b) w wr)) (fun iv _ => n - (intOf iv).toNat)
  case atStart => exact ⟨0, by omega, rfl, H1.out, H2.out, H3.out⟩
  case round =>
    obtain ⟨i, hi, rfl, HBU, HW, HO⟩ := hrel
    have hBr : B ≤ wr.heap.size := Nat.le_trans hB HW.out.size
    by_cases hlt : i < n
    · obtain ⟨bb, o, rfl, hbb, hc⟩ := sl_at (z := n0) ncells_length (HA.out.below HW.out) (k := i) (by rw [HN.out]; exact hlt) (by omega)
      have q0 := hc i 0 _ (by rw [HN.out]; exact hlt) (by omega) rfl
      have q1 := hc i 1 _ (by rw [HN.out]; exact hlt) (by omega) rfl
      have q2 := hc i 2 _ (by rw [HN.out]; exact hlt) (by omega) rfl
      have q3 := hc i 3 _ (by rw [HN.out]; exact hlt) (by omega) rfl
      have q4 := hc i 4 _ (by rw [HN.out]; exact hlt) (by omega) rfl
      rw [Nat.add_zero] at q0
      rw [← Nat.add_assoc] at q1 q2 q3 q4
      have HT := Lib.hid (HTK.out i hlt)
      have HLN : Hid (acc.length + (before.size + (jc ((zs.map f).take (i + 1))).length) ≤ 140737488355328) := by
        have h1 := HLE.out (i + 1)
        show _ ≤ _
        omega
      have HFI := Lib.hid (HFF.out i hlt)
      generalize zs.getD i n0 = z at *
      have hrow := RowAt.new wr 32 (nv z)
      have HROW := Lib.hid hrow
      have hb2 := bld_lt HBU.out
      have HB2 := Lib.hid (bld_below HBU.out ((Below.refl _ wr).alloc (Nat.le_refl _) (.cells (nv z) 32)))
      have HW2 := Lib.hid (HW.out.alloc hBr (.cells (nv z) 32))
      have HO2 := Lib.hid (HO.out.alloc (.cells (nv z) 32))
      clear hc hrow
      obtain ⟨zk, zp, zs9, zA, zc, zw, zB, zd, zz⟩ := z
      simp only [Nd.k, Nd.p, Nd.s, Nd.A, Nd.c, Nd.ws, Nd.B, Nd.d, Nd.ks] at q0 q1 q2 q3 q4
      by_cases h0 : 0 < i
      · rw [if_pos h0] at HT
        have HL1 : Hid ((acc ++ (lst before ++ jc ((zs.map f).take i))).length + 1 ≤ 140737488355328) := by
          have h1 := HLN.out
          rw [HT.out] at h1
          simp only [List.length_append, List.length_cons, lst_length] at h1 ⊢
          show _ ≤ _
          omega
        have HC1 := Lib.hid (wbyte_any 44 HB2.out (by simp; omega) HL1.out)
        go_wp2_with fail
        refine HC1.out.mono ?_
        rintro e w3 ⟨rfl, k1, k2, k3⟩
        have HR3 := Lib.hid (others_row k3 HROW.out (by omega) (by decide))
        have HK1 := Lib.hid k1
        have HW3 := Lib.hid (HW2.out.trans k2)
        have HO3 := Lib.hid (HO2.out.trans k3)
        have hr3 := HR3.out
        unfold nv at hr3
        simp only [Nd.k, Nd.p, Nd.s, Nd.A, Nd.c, Nd.ws, Nd.B, Nd.d, Nd.ks] at hr3
        obtain ⟨m0, m1, m2, m3, m4, _, _, _, _, _⟩ := row5 hr3
        clear hr3
        clear k1 k2 k3 HC1
        have HCF := Lib.hid (HFI.out w3 B b _ HK1.out (Nat.le_trans hB HW3.out.size) (by
          have h1 := HLN.out
          rw [HT.out] at h1
          simp only [List.length_append, List.length_cons, List.length_nil, lst_length] at h1 ⊢
          omega) (HKK.out _ _ _ HKW.out HW3.out))
        skip
        go_wp2_with fail
        refine HCF.out.mono ?_
        rintro e w4 ⟨rfl, k1, k2, k3⟩
        have HN4 : Hid (Bld w4 B b (acc ++ (lst before ++ jc ((zs.map f).take (i + 1))))) := by
          rw [HT.out]
          have e1 : acc ++ (lst before ++ (jc ((zs.map f).take i) ++ 44 :: f (Nd.mk zk zp zs9 zA zc zw zB zd zz))) = ((acc ++ (lst before ++ jc ((zs.map f).take i))) ++ [44]) ++ f (Nd.mk zk zp zs9 zA zc zw zB zd zz) := by simp
          rw [e1]; exact Lib.hid k1
        have HW4 := Lib.hid (HW3.out.trans k2)
        have HO4 := Lib.hid (HO3.out.trans k3)
        clear k1 k2 k3 HCF
        go_wp2
        go_roundw
        case rel => exact ⟨i + 1, by omega, by go_num, HN4, HW4, HO4⟩
        case measure => simp [intOf]; omega
      · rw [if_neg h0] at HT
        obtain rfl : i = 0 := by omega
        simp only [Nat.zero_mul, Nat.add_zero] at q0 q1 q2 q3 q4
        have HCF := Lib.hid (HFI.out _ B b _ HB2.out (by simp; omega) (by
          have h1 := HLN.out
          rw [HT.out] at h1
          simp only [List.length_append, lst_length] at h1 ⊢
          omega) (HKK.out _ _ _ HKW.out HW2.out))
        have hr3 := HROW.out
        unfold nv at hr3
        simp only [Nd.k, Nd.p, Nd.s, Nd.A, Nd.c, Nd.ws, Nd.B, Nd.d, Nd.ks] at hr3
        obtain ⟨m0, m1, m2, m3, m4, _, _, _, _, _⟩ := row5 hr3
        clear hr3
        skip
        go_wp2_with fail
        refine HCF.out.mono ?_
        rintro e w4 ⟨rfl, k1, k2, k3⟩
        have HN4 : Hid (Bld w4 B b (acc ++ (lst before ++ jc ((zs.map f).take (0 + 1))))) := by
          rw [HT.out]
          have e1 : acc ++ (lst before ++ (jc ((zs.map f).take 0) ++ f (Nd.mk zk zp zs9 zA zc zw zB zd zz))) = (acc ++ (lst before ++ jc ((zs.map f).take 0))) ++ f (Nd.mk zk zp zs9 zA zc zw zB zd zz) := by simp
          rw [e1]; exact Lib.hid k1
        have HW4 := Lib.hid (HW2.out.trans k2)
        have HO4 := Lib.hid (HO2.out.trans k3)
        clear k1 k2 k3 HCF
        go_wp2
        go_roundw
        case rel => exact ⟨1, by omega, rfl, HN4, HW4, HO4⟩
        case measure => simp [intOf]; omega
    · obtain rfl : i = n := by omega
      rw [HEN.out] at HBU
      have HC9 := Lib.hid (wstr_any after HBU.out hBr (by
        simp only [List.length_append, lst_length]
        omega))
      go_wp2_with fail
      refine HC9.out.mono ?_
      rintro e w4 ⟨rfl, k1, k2, k3⟩
      have HN4 : Hid (Bld w4 B b (acc ++ (lst before ++ (J ++ lst after)))) := by
        have e1 : acc ++ (lst before ++ (J ++ lst after)) = (acc ++ (lst before ++ J)) ++ lst after := by simp
        rw [e1]; exact Lib.hid k1
      have HW4 := Lib.hid (HW.out.trans k2)
      have HO4 := Lib.hid (HO.out.trans k3)
      clear k1 k2 k3 HC9
      go_wp2_with fail
      go_end0
      exact ⟨rfl, HN4.out, HW4.out, HO4.out⟩
/-- Nodes that can be read, all of them below block B. -/
def Nods (w : World) (B : Nat) (l : List Nd) : Prop := ∀ x ∈ TM.all l, (Sl w B x.A (wcs x.ws) ∧ x.ws.length ≤ x.c) ∧ Sl w B x.B (ncs x.ks) ∧ x.ks.length ≤ x.d
section
variable {w w' : World} {B B' : Nat} {l : List Nd} {x : Nd}
theorem Nods.below (h : Nods w B l) (hb : Below B w w') : Nods w' B l := fun x hx => ⟨⟨(h x hx).1.1.below hb, (h x hx).1.2⟩, (h x hx).2.1.below hb, (h x hx).2.2⟩
theorem Nods.mono (h : Nods w B l) (hB : B ≤ B') : Nods w B' l := fun x hx => ⟨⟨(h x hx).1.1.mono hB, (h x hx).1.2⟩, (h x hx).2.1.mono hB, (h x hx).2.2⟩
theorem Nods.mem (h : Nods w B l) (hx : x ∈ l) : Nods w B [x] := fun y hy => by
  rw [all_cons] at hy
  simp only [TM.all, List.append_nil, List.mem_cons] at hy
  rcases hy with rfl | hy
  · exact h _ (mem_all hx)
  · exact h _ (TM.mem_kids hx hy)
theorem Nods.kids (h : Nods w B [x]) : Nods w B x.ks := fun y hy => h y (TM.mem_kids (List.mem_singleton.2 rfl) hy)
theorem Nods.at (h : Nods w B [x]) : (Sl w B x.A (wcs x.ws) ∧ x.ws.length ≤ x.c) ∧ Sl w B x.B (ncs x.ks) ∧ x.ks.length ≤ x.d := h x (mem_all (List.mem_singleton.2 rfl))
theorem DeepN.nods {ok : Nat → Prop} (h : DeepN w ok l) : Nods w w.heap.size l := fun x hx => ⟨⟨(h x hx).1.1.sl, (h x hx).1.2⟩, (h x hx).2.1.sl, (h x hx).2.2⟩
end
end Go.Proofs.Ytapnefhmonpgdaa
