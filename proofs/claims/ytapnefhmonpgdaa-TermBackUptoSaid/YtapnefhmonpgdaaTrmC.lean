/-
  Text of nodes, in plain words; a Builder of the call's own in other calls' hands. Conditions: none.
-/
import Derived.Test.YtapnefhmonpgdaaTrmB
import Derived.Test.YtapnefhmonpgdaaStrB
import Derived.Lib.BufferKept
set_option linter.unusedSimpArgs false
set_option linter.unusedVariables false
namespace Go.Proofs.Ytapnefhmonpgdaa
namespace TM
open LX TR
/-- What is joined behind the first: each with a comma ahead. -/
def jt : List (List UInt8) → List UInt8
  | [] => []
  | x :: r => 44 :: (x ++ jt r)
def jc : List (List UInt8) → List UInt8
  | [] => []
  | x :: r => x ++ jt r
set_option maxRecDepth 8000 in
theorem jt_append (a b : List (List UInt8)) : jt (a ++ b) = jt a ++ jt b := by
  induction a with
  | nil => rfl
  | cons x a ih => simp [jt, ih]
set_option maxRecDepth 8000 in
theorem jc_take {l : List (List UInt8)} {i : Nat} (h : i < l.length) : jc (l.take (i + 1)) = jc (l.take i) ++ (if 0 < i then 44 :: l.getD i [] else l.getD i []) := by
  cases l with
  | nil => simp at h
  | cons x r =>
    cases i with
    | zero => simp [jc, jt]
    | succ i =>
      have hi : i < r.length := by simpa using h
      rw [if_pos (Nat.succ_pos i), List.take_succ_cons, List.take_succ_cons, jc, jc]
      have h2 : r.take (i + 1) = r.take i ++ [r.getD i []] := by
        rw [List.getD_eq_getElem?_getD, List.getElem?_eq_getElem hi, Option.getD_some]
        exact List.take_succ_eq_append_getElem hi
      rw [h2, jt_append]
      simp [jt]
set_option maxRecDepth 8000 in
theorem jc_le (l : List (List UInt8)) (i : Nat) : (jc (l.take i)).length ≤ (jc l).length := by
  have ht : ∀ (r : List (List UInt8)) (i : Nat), (jt (r.take i)).length ≤ (jt r).length := fun r i => by
    have h := congrArg List.length (jt_append (r.take i) (r.drop i))
    rw [List.take_append_drop, List.length_append] at h
    omega
  cases l with
  | nil => simp [jc]
  | cons x r =>
    cases i with
    | zero => simp [jc]
    | succ i =>
      rw [List.take_succ_cons, jc, jc, List.length_append, List.length_append]
      have := ht r i
      omega
def tx1 (k : Int) (s : List UInt8) (ws ks : List (List UInt8)) : List UInt8 :=
  if k = 1 ∨ k = 2 then s
  else if k = 7 then 35 :: ks.headD []
  else if k = 11 then s ++ 61 :: ks.headD []
  else if k = 4 then 40 :: (jc ks ++ [41])
  else if k = 8 then 43 :: 40 :: (jc ks ++ [41])
  else if k = 9 then 38 :: 40 :: (jc ks ++ [41])
  else if k = 5 then 91 :: (jc ks ++ [93])
  else if k = 3 then 123 :: (jc ws ++ [125])
  else if k = 6 then s ++ 58 :: 123 :: (jc ws ++ [125])
  else if k = 10 then 91 :: (jc ks ++ (if ws = [] then [93] else 124 :: (jc ws ++ [93])))
  else []
def wtx (ws : List Wd) : List (List UInt8) := ws.map fun x => lst x.s
/-- The text of nodes. -/
def txs : List Nd → List (List UInt8)
  | [] => []
  | .mk k _ s _ _ ws _ _ ks :: r => tx1 k (lst s) (wtx ws) (txs ks) :: txs r
def tx (x : Nd) : List UInt8 := tx1 x.k (lst x.s) (wtx x.ws) (txs x.ks)
set_option maxRecDepth 8000 in
theorem txs_cons (x : Nd) (r : List Nd) : txs (x :: r) = tx x :: txs r := by cases x; rw [txs]; rfl
set_option maxRecDepth 8000 in
theorem txs_map (l : List Nd) : txs l = l.map tx := by
  induction l with
  | nil => simp [txs]
  | cons x r ih => rw [txs_cons, ih]; rfl
set_option maxRecDepth 8000 in
theorem txs_length (l : List Nd) : (txs l).length = l.length := by rw [txs_map, List.length_map]
/-- How many nodes and words there are. -/
def cnt : List Nd → Nat
  | [] => 0
  | .mk _ _ _ _ _ ws _ _ ks :: r => 1 + ws.length + cnt ks + cnt r
set_option maxRecDepth 8000 in
theorem cnt_cons (x : Nd) (r : List Nd) : cnt (x :: r) = 1 + x.ws.length + cnt x.ks + cnt r := by cases x; rw [cnt]; rfl
set_option maxRecDepth 8000 in
theorem cnt_append (a b : List Nd) : cnt (a ++ b) = cnt a + cnt b := by
  induction a with
  | nil => simp [cnt]
  | cons x a ih => rw [List.cons_append, cnt_cons, cnt_cons, ih]; omega
set_option maxRecDepth 8000 in
theorem cnt_mem {l : List Nd} {x : Nd} (h : x ∈ l) : 1 + x.ws.length + cnt x.ks ≤ cnt l := by
  induction l with
  | nil => cases h
  | cons y l ih =>
    rw [cnt_cons]
    rcases List.mem_cons.1 h with rfl | h
    · omega
    · have := ih h; omega
set_option maxRecDepth 8000 in
theorem length_cnt (l : List Nd) : l.length ≤ cnt l := by
  induction l with
  | nil => simp
  | cons x l ih => rw [cnt_cons, List.length_cons]; omega
set_option maxRecDepth 8000 in
theorem er1_k (x : Nd) : (er1 x).k = x.k ∧ (er1 x).p = x.p ∧ (er1 x).s = x.s ∧ (er1 x).ws = x.ws ∧ (er1 x).ks = TM.er x.ks := by cases x; exact ⟨rfl, rfl, rfl, rfl, rfl⟩
set_option maxRecDepth 8000 in
theorem txs_er : ∀ l, txs (TM.er l) = txs l := by
  refine ind (by simp [TM.er]) fun k p s A c ws B d ks r h1 h2 => ?_
  rw [TM.er_cons, txs_cons, txs_cons, h2]
  congr 1
  show tx1 k (lst s) (wtx ws) (txs (TM.er ks)) = tx1 k (lst s) (wtx ws) (txs ks)
  rw [h1]
set_option maxRecDepth 8000 in
theorem tx_er (x : Nd) : tx (er1 x) = tx x := by
  have h := txs_er [x]
  rw [er_one, txs_cons, txs_cons] at h
  exact (List.cons.inj h).1
set_option maxRecDepth 8000 in
theorem cnt_er : ∀ l, cnt (TM.er l) = cnt l := by
  refine ind (by simp [TM.er]) fun k p s A c ws B d ks r h1 h2 => ?_
  rw [TM.er_cons, cnt_cons, cnt_cons, h2]
  show 1 + ws.length + cnt (TM.er ks) + _ = _
  rw [h1]; rfl
end TM
open Go.RowKit LX TR TM
set_option maxRecDepth 8000 in
theorem bld_below {T e : TypeId} {B b : Nat} {bs : List Value} {w w' : World} (h : Lib.IsBuilder T e B b bs w) (hb : Below w.heap.size w w') : Lib.IsBuilder T e B b bs w' := by
  have go : ∀ p, Lib.BuilderAt T e B b p bs w → Lib.BuilderAt T e B b p bs w' := fun p h => by
    have hlt := h.lt
    obtain ⟨hB, v, hbk, hown, hne⟩ := h
    exact ⟨hB, v, (hb.block b hlt).trans hbk, own_below hown hb (Nat.le_refl _), hne⟩
  exact h.elim (fun h => .inl (go _ h)) fun h => .inr (go _ h)
set_option maxRecDepth 8000 in
theorem bld_lt {T e : TypeId} {B b : Nat} {bs : List Value} {w : World} (h : Lib.IsBuilder T e B b bs w) : b < w.heap.size := h.elim (fun h => h.lt) fun h => h.lt
set_option maxRecDepth 8000 in
theorem others_row {w w' : World} {e t : TypeId} {b g : Nat} {cs : Array Value} (h : Lib.OthersKept e (some b) w w') (hr : RowAt w g t cs) (hg : g ≠ b) (ht : t ≠ e) : RowAt w' g t cs :=
  h g _ hr (fun e => hg (by injection e)) fun c fz e => by
    injection e with _ e2 _
    exact ht e2
/-- A Builder of the call's own that holds this text. -/
abbrev Bld (w : World) (B b : Nat) (t : List UInt8) : Prop := Lib.IsBuilder 74 5 B b (Lib.byteCells t) w
/-- What a writing function does: it puts a text behind. -/
def Writes (F : FuncId) (v : Value) (t : List UInt8) (K : World → Nat → Prop) : Prop :=
  ∀ (w : World) (B b : Nat) (acc : List UInt8), Bld w B b acc → B ≤ w.heap.size → acc.length + t.length ≤ 140737488355328 → K w B →
    Calls Try.prog F #[.pointer (some ⟨b, 0, none⟩), v] w fun e w' => e = .returned (.tuple #[]) ∧ Bld w' B b (acc ++ t) ∧ Below B w w' ∧ Lib.OthersKept 5 (some b) w w'
set_option maxRecDepth 8000 in
theorem wstr_any {w : World} {B b : Nat} {acc : List UInt8} (s : ByteArray) (h : Bld w B b acc) (hB : B ≤ w.heap.size) (hl : acc.length + s.size ≤ 140737488355328) :
    Calls Try.prog 68 #[.pointer (some ⟨b, 0, none⟩), .string s] w fun e w' => e = .returned (.tuple #[.int .i64 s.size, .nilIface]) ∧ Bld w' B b (acc ++ lst s) ∧ Below B w w' ∧ Lib.OthersKept 5 (some b) w w' :=
  (writeString_any B b _ s w h (by rw [Lib.byteCells_length]; exact hl) hB).mono fun e w' ⟨h1, h2, h3, h4⟩ => ⟨h1, by show Lib.IsBuilder _ _ _ _ (Lib.byteCells (acc ++ lst s)) _; rw [← str_cells]; exact .inr h2, h3, h4⟩
set_option maxRecDepth 8000 in
theorem wbyte_any {w : World} {B b : Nat} {acc : List UInt8} (c : UInt8) (h : Bld w B b acc) (hB : B ≤ w.heap.size) (hl : acc.length + 1 ≤ 140737488355328) :
    Calls Try.prog 69 #[.pointer (some ⟨b, 0, none⟩), .int .u8 (c.toNat : Int)] w fun e w' => e = .returned .nilIface ∧ Bld w' B b (acc ++ [c]) ∧ Below B w w' ∧ Lib.OthersKept 5 (some b) w w' :=
  (writeByte_any B b _ _ w h (by rw [Lib.byteCells_length]; exact hl) hB).mono fun e w' ⟨h1, h2, h3, h4⟩ => ⟨h1, by show Lib.IsBuilder _ _ _ _ (Lib.byteCells (acc ++ [c])) _; rw [← byte_cells]; exact .inr h2, h3, h4⟩

set_option maxRecDepth 8000 in
set_option maxHeartbeats 800000 in
theorem writeName_any (x : Wd) (K : World → Nat → Prop) : Writes 73 (.agg (wv x)) (lst x.s) K := by
  intro w B b acc h hB hl _
  have hb := bld_lt h
  have HB1 := Lib.hid (bld_below h ((Below.refl _ _).alloc (Nat.le_refl _) (.cells (wv x) 69)))
  have HL : Hid (acc.length + x.s.size ≤ 140737488355328) := by rw [← lst_length]; exact Lib.hid hl
  have hn := RowAt.new w 69 #[.string x.s, .int .i64 x.p]
  obtain ⟨m0, m1, _, _⟩ := row2 hn
  clear h hn
  unfold wv at HB1 ⊢
  go_enter Try.func73, Try.ntmps73
  go_wp2_with fail
  refine (wstr_any x.s HB1.out (by simp; omega) HL.out).mono ?_
  rintro e w1 ⟨rfl, h1, h2, h3⟩
  have H1 := Lib.hid h1
  have H2 : Hid (Below B w w1) := ((Below.refl B w).alloc hB _).trans h2
  have H3 : Hid (Lib.OthersKept 5 (some b) w w1) := ((Lib.OthersKept.refl _ _ w).alloc _).trans h3
  clear h1 h2 h3
  go_wp2_with fail
  go_end0
  exact ⟨rfl, H1.out, H2.out, H3.out⟩
end Go.Proofs.Ytapnefhmonpgdaa

/-
  Writing lists of names and of nodes. Conditions: texts below 2^47 bytes.
-/
namespace Go.Proofs.Ytapnefhmonpgdaa
open Go.RowKit LX TR TM

set_option maxRecDepth 100000 in
set_option maxHeartbeats 1600000 in
theorem wlistW_any {F : FuncId} {f : Wd → List UInt8} {KK : World → Nat → Prop} (hf : ∀ args w, (callFunc F args).run Try.prog w = .ok (.enter F args) w) (A : Option Addr) (c : Nat) (zs : List Wd) (hn : zs.length ≤ 1099511627776)
    (HF : ∀ z ∈ zs, Writes F (.agg (wv z)) (f z) KK) (hKK : ∀ wa wb B, KK wa B → Below B wa wb → KK wb B) (before after : ByteArray)
    (w : World) (B b : Nat) (acc : List UInt8) (h : Bld w B b acc) (hB : B ≤ w.heap.size) (hl : acc.length + (lst before ++ (jc (zs.map f) ++ lst after)).length ≤ 140737488355328) (hk : KK w B) (hA : Sl w B A (wcs zs)) :
    Calls Try.prog 72 #[.pointer (some ⟨b, 0, none⟩), .string before, .slice A zs.length c, .func (.func F) #[] #[], .string after] w fun e w' => e = .returned (.tuple #[]) ∧ Bld w' B b (acc ++ (lst before ++ (jc (zs.map f) ++ lst after))) ∧ Below B w w' ∧ Lib.OthersKept 5 (some b) w w' := by
  rw [List.length_append, List.length_append, lst_length, lst_length] at hl
  have HC0 := Lib.hid (wstr_any before h hB (by omega))
  have HA := Lib.hid hA; clear hA
  have HKW := Lib.hid hk; clear hk
  have HKK := Lib.hid hKK; clear hKK
  have HFF : Hid (∀ i, i < zs.length → Writes F (.agg (wv (zs.getD i w0))) (f (zs.getD i w0)) KK) := fun i hi => HF _ (by
    rw [List.getD_eq_getElem?_getD, List.getElem?_eq_getElem hi]
    exact List.getElem_mem hi)
  clear HF
  have HTK : Hid (∀ i, i < zs.length → jc ((zs.map f).take (i + 1)) = jc ((zs.map f).take i) ++ (if 0 < i then 44 :: f (zs.getD i w0) else f (zs.getD i w0))) := fun i hi => by
    have h1 := jc_take (l := zs.map f) (i := i) (by simpa using hi)
    rw [show (zs.map f).getD i [] = f (zs.getD i w0) by
      rw [List.getD_eq_getElem?_getD, List.getD_eq_getElem?_getD, List.getElem?_map, List.getElem?_eq_getElem hi]; rfl] at h1
    exact h1
  have HLE : Hid (∀ i, (jc ((zs.map f).take i)).length ≤ (jc (zs.map f)).length) := jc_le _
  have HEN : Hid (jc ((zs.map f).take zs.length) = jc (zs.map f)) := by
    show jc _ = _
    rw [List.take_of_length_le (by simp)]
  have HJ0 : Hid (jc ((zs.map f).take 0) = []) := by rw [List.take_zero]; exact Lib.hid rfl
  have hb := bld_lt h
  generalize hJ : jc (zs.map f) = J at *
  clear hJ h
  generalize hm : zs.length = n at *
  have HN := Lib.hid hm; clear hm
  go_enter Try.func72, Try.ntmps72
  go_wp2_with fail
  refine HC0.out.mono ?_
  rintro e w1 ⟨rfl, h1, h2, h3⟩
  have H1 : Hid (Bld w1 B b (acc ++ (lst before ++ jc ((zs.map f).take 0)))) := by rw [HJ0.out, List.append_nil]; exact Lib.hid h1
  have H2 := Lib.hid h2
  have H3 := Lib.hid h3
  clear h1 h2 h3 HC0
  go_wp2_with fail
  go_loopw [17] (fun iv wr => ∃ i : Nat, i ≤ n ∧ iv = .int .i64 i ∧ Hid (Bld wr B b (acc ++ (lst before ++ jc ((zs.map f).take i)))) ∧ Hid (Below B w wr) ∧ Hid (Lib.OthersKept 5 (some b) w wr)) (fun iv _ => n - (intOf iv).toNat)
  case atStart => exact ⟨0, by omega, rfl, H1.out, H2.out, H3.out⟩
  case round =>
    obtain ⟨i, hi, rfl, HBU, HW, HO⟩ := hrel
    have hBr : B ≤ wr.heap.size := Nat.le_trans hB HW.out.size
    by_cases hlt : i < n
    · obtain ⟨bb, o, rfl, hbb, hc⟩ := sl_at (z := w0) wcells_length (HA.out.below HW.out) (k := i) (by rw [HN.out]; exact hlt) (by omega)
      have q0 := hc i 0 _ (by rw [HN.out]; exact hlt) (by omega) rfl
      have q1 := hc i 1 _ (by rw [HN.out]; exact hlt) (by omega) rfl
      rw [Nat.add_zero] at q0
      rw [← Nat.add_assoc] at q1
      have HT := Lib.hid (HTK.out i hlt)
      have HLN : Hid (acc.length + (before.size + (jc ((zs.map f).take (i + 1))).length) ≤ 140737488355328) := by
        have h1 := HLE.out (i + 1)
        show _ ≤ _
        omega
      have HFI := Lib.hid (HFF.out i hlt)
      generalize zs.getD i w0 = z at *
      have hrow := RowAt.new wr 69 (wv z)
      have HROW := Lib.hid hrow
      have hb2 := bld_lt HBU.out
      have HB2 := Lib.hid (bld_below HBU.out ((Below.refl _ wr).alloc (Nat.le_refl _) (.cells (wv z) 69)))
      have HW2 := Lib.hid (HW.out.alloc hBr (.cells (wv z) 69))
      have HO2 := Lib.hid (HO.out.alloc (.cells (wv z) 69))
      clear hc hrow
      obtain ⟨s9, p9⟩ := z
      by_cases h0 : 0 < i
      · rw [if_pos h0] at HT
        have HL1 : Hid ((acc ++ (lst before ++ jc ((zs.map f).take i))).length + 1 ≤ 140737488355328) := by
          have h1 := HLN.out
          rw [HT.out] at h1
          simp only [List.length_append, List.length_cons, lst_length] at h1 ⊢
          show _ ≤ _
          omega
        have HC1 := Lib.hid (wbyte_any 44 HB2.out (by simp; omega) HL1.out)
        go_wp2_with fail
        refine HC1.out.mono ?_
        rintro e w3 ⟨rfl, k1, k2, k3⟩
        have HR3 := Lib.hid (others_row k3 HROW.out (by omega) (by decide))
        have HK1 := Lib.hid k1
        have HW3 := Lib.hid (HW2.out.trans k2)
        have HO3 := Lib.hid (HO2.out.trans k3)
        obtain ⟨m0, m1, _, _⟩ := row2 HR3.out
        clear k1 k2 k3 HC1
        have HCF := Lib.hid (HFI.out w3 B b _ HK1.out (Nat.le_trans hB HW3.out.size) (by
          have h1 := HLN.out
          rw [HT.out] at h1
          simp only [List.length_append, List.length_cons, List.length_nil, lst_length] at h1 ⊢
          omega) (HKK.out _ _ _ HKW.out HW3.out))
        skip
        go_wp2_with fail
        refine HCF.out.mono ?_
        rintro e w4 ⟨rfl, k1, k2, k3⟩
        have HN4 : Hid (Bld w4 B b (acc ++ (lst before ++ jc ((zs.map f).take (i + 1))))) := by
          rw [HT.out]
          have e1 : acc ++ (lst before ++ (jc ((zs.map f).take i) ++ 44 :: f ⟨s9, p9⟩)) = ((acc ++ (lst before ++ jc ((zs.map f).take i))) ++ [44]) ++ f ⟨s9, p9⟩ := by simp
          rw [e1]; exact Lib.hid k1
        have HW4 := Lib.hid (HW3.out.trans k2)
        have HO4 := Lib.hid (HO3.out.trans k3)
        clear k1 k2 k3 HCF
        go_wp2
        go_roundw
        case rel => exact ⟨i + 1, by omega, by go_num, HN4, HW4, HO4⟩
        case measure => simp [intOf]; omega
      · rw [if_neg h0] at HT
        obtain rfl : i = 0 := by omega
        simp only [Nat.zero_mul, Nat.add_zero] at q0 q1
        have HCF := Lib.hid (HFI.out _ B b _ HB2.out (by simp; omega) (by
          have h1 := HLN.out
          rw [HT.out] at h1
          simp only [List.length_append, lst_length] at h1 ⊢
          omega) (HKK.out _ _ _ HKW.out HW2.out))
        obtain ⟨m0, m1, _, _⟩ := row2 HROW.out
        skip
        go_wp2_with fail
        refine HCF.out.mono ?_
        rintro e w4 ⟨rfl, k1, k2, k3⟩
        have HN4 : Hid (Bld w4 B b (acc ++ (lst before ++ jc ((zs.map f).take (0 + 1))))) := by
          rw [HT.out]
          have e1 : acc ++ (lst before ++ (jc ((zs.map f).take 0) ++ f ⟨s9, p9⟩)) = (acc ++ (lst before ++ jc ((zs.map f).take 0))) ++ f ⟨s9, p9⟩ := by simp
          rw [e1]; exact Lib.hid k1
        have HW4 := Lib.hid (HW2.out.trans k2)
        have HO4 := Lib.hid (HO2.out.trans k3)
        clear k1 k2 k3 HCF
        go_wp2
        go_roundw
        case rel => exact ⟨1, by omega, rfl, HN4, HW4, HO4⟩
        case measure => simp [intOf]; omega
    · obtain rfl : i = n := by omega
      rw [HEN.out] at HBU
      have HC9 := Lib.hid (wstr_any after HBU.out hBr (by
        simp only [List.length_append, lst_length]
        omega))
      go_wp2_with fail
      refine HC9.out.mono ?_
      rintro e w4 ⟨rfl, k1, k2, k3⟩
      have HN4 : Hid (Bld w4 B b (acc ++ (lst before ++ (J ++ lst after)))) := by
        have e1 : acc ++ (lst before ++ (J ++ lst after)) = (acc ++ (lst before ++ J)) ++ lst after := by simp
        rw [e1]; exact Lib.hid k1
      have HW4 := Lib.hid (HW.out.trans k2)
      have HO4 := Lib.hid (HO.out.trans k3)
      clear k1 k2 k3 HC9
      go_wp2_with fail
      go_end0
      exact ⟨rfl, HN4.out, HW4.out, HO4.out⟩

set_option maxRecDepth 100000 in
set_option maxHeartbeats 1600000 in
theorem wlistN_any {F : FuncId} {f : Nd → List UInt8} {KK : World → Nat → Prop} (hf : ∀ args w, (callFunc F args).run Try.prog w = .ok (.enter F args) w) (A : Option Addr) (c : Nat) (zs : List Nd) (hn : zs.length ≤ 1099511627776)
    (HF : ∀ z ∈ zs, Writes F (.agg (nv z)) (f z) KK) (hKK : ∀ wa wb B, KK wa B → Below B wa wb → KK wb B) (before after : ByteArray)
    (w : World) (B b : Nat) (acc : List UInt8) (h : Bld w B b acc) (hB : B ≤ w.heap.size) (hl : acc.length + (lst before ++ (jc (zs.map f) ++ lst after)).length ≤ 140737488355328) (hk : KK w B) (hA : Sl w B A (ncs zs)) :
    Calls Try.prog 71 #[.pointer (some ⟨b, 0, none⟩), .string before, .slice A zs.length c, .func (.func F) #[] #[], .string after] w fun e w' => e = .returned (.tuple #[]) ∧ Bld w' B b (acc ++ (lst before ++ (jc (zs.map f) ++ lst after))) ∧ Below B w w' ∧ Lib.OthersKept 5 (some b) w w' := by
  rw [List.length_append, List.length_append, lst_length, lst_length] at hl
  have HC0 := Lib.hid (wstr_any before h hB (by omega))
  have HA := Lib.hid hA; clear hA
  have HKW := Lib.hid hk; clear hk
  have HKK := Lib.hid hKK; clear hKK
  have HFF : Hid (∀ i, i < zs.length → Writes F (.agg (nv (zs.getD i n0))) (f (zs.getD i n0)) KK) := fun i hi => HF _ (by
    rw [List.getD_eq_getElem?_getD, List.getElem?_eq_getElem hi]
    exact List.getElem_mem hi)
  clear HF
  have HTK : Hid (∀ i, i < zs.length → jc ((zs.map f).take (i + 1)) = jc ((zs.map f).take i) ++ (if 0 < i then 44 :: f (zs.getD i n0) else f (zs.getD i n0))) := fun i hi => by
    have h1 := jc_take (l := zs.map f) (i := i) (by simpa using hi)
    rw [show (zs.map f).getD i [] = f (zs.getD i n0) by
      rw [List.getD_eq_getElem?_getD, List.getD_eq_getElem?_getD, List.getElem?_map, List.getElem?_eq_getElem hi]; rfl] at h1
    exact h1
  have HLE : Hid (∀ i, (jc ((zs.map f).take i)).length ≤ (jc (zs.map f)).length) := jc_le _
  have HEN : Hid (jc ((zs.map f).take zs.length) = jc (zs.map f)) := by
    show jc _ = _
    rw [List.take_of_length_le (by simp)]
  have HJ0 : Hid (jc ((zs.map f).take 0) = []) := by rw [List.take_zero]; exact Lib.hid rfl
  have hb := bld_lt h
  generalize hJ : jc (zs.map f) = J at *
  clear hJ h
  generalize hm : zs.length = n at *
  have HN := Lib.hid hm; clear hm
  go_enter Try.func71, Try.ntmps71
  go_wp2_with fail
  refine HC0.out.mono ?_
  rintro e w1 ⟨rfl, h1, h2, h3⟩
  have H1 : Hid (Bld w1 B b (acc ++ (lst before ++ jc ((zs.map f).take 0)))) := by rw [HJ0.out, List.append_nil]; exact Lib.hid h1
  have H2 := Lib.hid h2
  have H3 := Lib.hid h3
  clear h1 h2 h3 HC0
  go_wp2_with fail
  go_loopw [17] (fun iv wr => ∃ i : Nat, i ≤ n ∧ iv = .int .i64 i ∧ Hid (Bld wr B b (acc ++ (lst before ++ jc ((zs.map f).take i)))) ∧ Hid (Below B w wr) ∧ Hid (Lib.OthersKept 5 (some b) w wr)) (fun iv _ => n - (intOf iv).toNat)
  case atStart => exact ⟨0, by omega, rfl, H1.out, H2.out, H3.out⟩
  case round =>
    obtain ⟨i, hi, rfl, HBU, HW, HO⟩ := hrel
    have hBr : B ≤ wr.heap.size := Nat.le_trans hB HW.out.size
    by_cases hlt : i < n
    · obtain ⟨bb, o, rfl, hbb, hc⟩ := sl_at (z := n0) ncells_length (HA.out.below HW.out) (k := i) (by rw [HN.out]; exact hlt) (by omega)
      have q0 := hc i 0 _ (by rw [HN.out]; exact hlt) (by omega) rfl
      have q1 := hc i 1 _ (by rw [HN.out]; exact hlt) (by omega) rfl
      have q2 := hc i 2 _ (by rw [HN.out]; exact hlt) (by omega) rfl
      have q3 := hc i 3 _ (by rw [HN.out]; exact hlt) (by omega) rfl
      have q4 := hc i 4 _ (by rw [HN.out]; exact hlt) (by omega) rfl
      rw [Nat.add_zero] at q0
      rw [← Nat.add_assoc] at q1 q2 q3 q4
      have HT := Lib.hid (HTK.out i hlt)
      have HLN : Hid (acc.length + (before.size + (jc ((zs.map f).take (i + 1))).length) ≤ 140737488355328) := by
        have h1 := HLE.out (i + 1)
        show _ ≤ _
        omega
      have HFI := Lib.hid (HFF.out i hlt)
      generalize zs.getD i n0 = z at *
      have hrow := RowAt.new wr 32 (nv z)
      have HROW := Lib.hid hrow
      have hb2 := bld_lt HBU.out
      have HB2 := Lib.hid (bld_below HBU.out ((Below.refl _ wr).alloc (Nat.le_refl _) (.cells (nv z) 32)))
      have HW2 := Lib.hid (HW.out.alloc hBr (.cells (nv z) 32))
      have HO2 := Lib.hid (HO.out.alloc (.cells (nv z) 32))
      clear hc hrow
      obtain ⟨zk, zp, zs9, zA, zc, zw, zB, zd, zz⟩ := z
      simp only [Nd.k, Nd.p, Nd.s, Nd.A, Nd.c, Nd.ws, Nd.B, Nd.d, Nd.ks] at q0 q1 q2 q3 q4
      by_cases h0 : 0 < i
      · rw [if_pos h0] at HT
        have HL1 : Hid ((acc ++ (lst before ++ jc ((zs.map f).take i))).length + 1 ≤ 140737488355328) := by
          have h1 := HLN.out
          rw [HT.out] at h1
          simp only [List.length_append, List.length_cons, lst_length] at h1 ⊢
          show _ ≤ _
          omega
        have HC1 := Lib.hid (wbyte_any 44 HB2.out (by simp; omega) HL1.out)
        go_wp2_with fail
        refine HC1.out.mono ?_
        rintro e w3 ⟨rfl, k1, k2, k3⟩
        have HR3 := Lib.hid (others_row k3 HROW.out (by omega) (by decide))
        have HK1 := Lib.hid k1
        have HW3 := Lib.hid (HW2.out.trans k2)
        have HO3 := Lib.hid (HO2.out.trans k3)
        have hr3 := HR3.out
        unfold nv at hr3
        simp only [Nd.k, Nd.p, Nd.s, Nd.A, Nd.c, Nd.ws, Nd.B, Nd.d, Nd.ks] at hr3
        obtain ⟨m0, m1, m2, m3, m4, _, _, _, _, _⟩ := row5 hr3
        clear hr3
        clear k1 k2 k3 HC1
        have HCF := Lib.hid (HFI.out w3 B b _ HK1.out (Nat.le_trans hB HW3.out.size) (by
          have h1 := HLN.out
          rw [HT.out] at h1
          simp only [List.length_append, List.length_cons, List.length_nil, lst_length] at h1 ⊢
          omega) (HKK.out _ _ _ HKW.out HW3.out))
        skip
        go_wp2_with fail
        refine HCF.out.mono ?_
        rintro e w4 ⟨rfl, k1, k2, k3⟩
        have HN4 : Hid (Bld w4 B b (acc ++ (lst before ++ jc ((zs.map f).take (i + 1))))) := by
          rw [HT.out]
          have e1 : acc ++ (lst before ++ (jc ((zs.map f).take i) ++ 44 :: f (Nd.mk zk zp zs9 zA zc zw zB zd zz))) = ((acc ++ (lst before ++ jc ((zs.map f).take i))) ++ [44]) ++ f (Nd.mk zk zp zs9 zA zc zw zB zd zz) := by simp
          rw [e1]; exact Lib.hid k1
        have HW4 := Lib.hid (HW3.out.trans k2)
        have HO4 := Lib.hid (HO3.out.trans k3)
        clear k1 k2 k3 HCF
        go_wp2
        go_roundw
        case rel => exact ⟨i + 1, by omega, by go_num, HN4, HW4, HO4⟩
        case measure => simp [intOf]; omega
      · rw [if_neg h0] at HT
        obtain rfl : i = 0 := by omega
        simp only [Nat.zero_mul, Nat.add_zero] at q0 q1 q2 q3 q4
        have HCF := Lib.hid (HFI.out _ B b _ HB2.out (by simp; omega) (by
          have h1 := HLN.out
          rw [HT.out] at h1
          simp only [List.length_append, lst_length] at h1 ⊢
          omega) (HKK.out _ _ _ HKW.out HW2.out))
        have hr3 := HROW.out
        unfold nv at hr3
        simp only [Nd.k, Nd.p, Nd.s, Nd.A, Nd.c, Nd.ws, Nd.B, Nd.d, Nd.ks] at hr3
        obtain ⟨m0, m1, m2, m3, m4, _, _, _, _, _⟩ := row5 hr3
        clear hr3
        skip
        go_wp2_with fail
        refine HCF.out.mono ?_
        rintro e w4 ⟨rfl, k1, k2, k3⟩
        have HN4 : Hid (Bld w4 B b (acc ++ (lst before ++ jc ((zs.map f).take (0 + 1))))) := by
          rw [HT.out]
          have e1 : acc ++ (lst before ++ (jc ((zs.map f).take 0) ++ f (Nd.mk zk zp zs9 zA zc zw zB zd zz))) = (acc ++ (lst before ++ jc ((zs.map f).take 0))) ++ f (Nd.mk zk zp zs9 zA zc zw zB zd zz) := by simp
          rw [e1]; exact Lib.hid k1
        have HW4 := Lib.hid (HW2.out.trans k2)
        have HO4 := Lib.hid (HO2.out.trans k3)
        clear k1 k2 k3 HCF
        go_wp2
        go_roundw
        case rel => exact ⟨1, by omega, rfl, HN4, HW4, HO4⟩
        case measure => simp [intOf]; omega
    · obtain rfl : i = n := by omega
      rw [HEN.out] at HBU
      have HC9 := Lib.hid (wstr_any after HBU.out hBr (by
        simp only [List.length_append, lst_length]
        omega))
      go_wp2_with fail
      refine HC9.out.mono ?_
      rintro e w4 ⟨rfl, k1, k2, k3⟩
      have HN4 : Hid (Bld w4 B b (acc ++ (lst before ++ (J ++ lst after)))) := by
        have e1 : acc ++ (lst before ++ (J ++ lst after)) = (acc ++ (lst before ++ J)) ++ lst after := by simp
        rw [e1]; exact Lib.hid k1
      have HW4 := Lib.hid (HW.out.trans k2)
      have HO4 := Lib.hid (HO.out.trans k3)
      clear k1 k2 k3 HC9
      go_wp2_with fail
      go_end0
      exact ⟨rfl, HN4.out, HW4.out, HO4.out⟩
/-- Nodes that can be read, all of them below block B. -/
def Nods (w : World) (B : Nat) (l : List Nd) : Prop := ∀ x ∈ TM.all l, (Sl w B x.A (wcs x.ws) ∧ x.ws.length ≤ x.c) ∧ Sl w B x.B (ncs x.ks) ∧ x.ks.length ≤ x.d
section
variable {w w' : World} {B B' : Nat} {l : List Nd} {x : Nd}
set_option maxRecDepth 8000 in
theorem Nods.below (h : Nods w B l) (hb : Below B w w') : Nods w' B l := fun x hx => ⟨⟨(h x hx).1.1.below hb, (h x hx).1.2⟩, (h x hx).2.1.below hb, (h x hx).2.2⟩
set_option maxRecDepth 8000 in
theorem Nods.mono (h : Nods w B l) (hB : B ≤ B') : Nods w B' l := fun x hx => ⟨⟨(h x hx).1.1.mono hB, (h x hx).1.2⟩, (h x hx).2.1.mono hB, (h x hx).2.2⟩
set_option maxRecDepth 8000 in
theorem Nods.mem (h : Nods w B l) (hx : x ∈ l) : Nods w B [x] := fun y hy => by
  rw [all_cons] at hy
  simp only [TM.all, List.append_nil, List.mem_cons] at hy
  rcases hy with rfl | hy
  · exact h _ (mem_all hx)
  · exact h _ (TM.mem_kids hx hy)
set_option maxRecDepth 8000 in
theorem Nods.kids (h : Nods w B [x]) : Nods w B x.ks := fun y hy => h y (TM.mem_kids (List.mem_singleton.2 rfl) hy)
set_option maxRecDepth 8000 in
theorem Nods.at (h : Nods w B [x]) : (Sl w B x.A (wcs x.ws) ∧ x.ws.length ≤ x.c) ∧ Sl w B x.B (ncs x.ks) ∧ x.ks.length ≤ x.d := h x (mem_all (List.mem_singleton.2 rfl))
set_option maxRecDepth 8000 in
theorem DeepN.nods {ok : Nat → Prop} (h : DeepN w ok l) : Nods w w.heap.size l := fun x hx => ⟨⟨(h x hx).1.1.sl, (h x hx).1.2⟩, (h x hx).2.1.sl, (h x hx).2.2⟩
end
end Go.Proofs.Ytapnefhmonpgdaa

/-
  The text of a node. Conditions: at most 2^32 nodes and words, texts below 2^47 bytes.
-/
namespace Go.Proofs.Ytapnefhmonpgdaa
open Go.RowKit LX TR TM
section
variable (s : List UInt8) (ws ks : List (List UInt8))
set_option maxRecDepth 8000 in
theorem tx1_1 : tx1 1 s ws ks = s := by simp [tx1]
set_option maxRecDepth 8000 in
theorem tx1_2 : tx1 2 s ws ks = s := by simp [tx1]
set_option maxRecDepth 8000 in
theorem tx1_7 : tx1 7 s ws ks = 35 :: ks.headD [] := by simp [tx1]
set_option maxRecDepth 8000 in
theorem tx1_11 : tx1 11 s ws ks = s ++ 61 :: ks.headD [] := by simp [tx1]
set_option maxRecDepth 8000 in
theorem tx1_4 : tx1 4 s ws ks = 40 :: (jc ks ++ [41]) := by simp [tx1]
set_option maxRecDepth 8000 in
theorem tx1_8 : tx1 8 s ws ks = 43 :: 40 :: (jc ks ++ [41]) := by simp [tx1]
set_option maxRecDepth 8000 in
theorem tx1_9 : tx1 9 s ws ks = 38 :: 40 :: (jc ks ++ [41]) := by simp [tx1]
set_option maxRecDepth 8000 in
theorem tx1_5 : tx1 5 s ws ks = 91 :: (jc ks ++ [93]) := by simp [tx1]
set_option maxRecDepth 8000 in
theorem tx1_3 : tx1 3 s ws ks = 123 :: (jc ws ++ [125]) := by simp [tx1]
set_option maxRecDepth 8000 in
theorem tx1_6 : tx1 6 s ws ks = s ++ 58 :: 123 :: (jc ws ++ [125]) := by simp [tx1]
set_option maxRecDepth 8000 in
theorem tx1_10 : tx1 10 s ws ks = 91 :: (jc ks ++ (if ws = [] then [93] else 124 :: (jc ws ++ [93]))) := by simp [tx1]
set_option maxRecDepth 8000 in
theorem tx1_else {k : Int} (h1 : ¬ k = 1) (h2 : ¬ k = 2) (h7 : ¬ k = 7) (h11 : ¬ k = 11) (h4 : ¬ k = 4) (h8 : ¬ k = 8) (h9 : ¬ k = 9) (h5 : ¬ k = 5) (h3 : ¬ k = 3) (h6 : ¬ k = 6) (h10 : ¬ k = 10) : tx1 k s ws ks = [] := by
  simp [tx1, h1, h2, h7, h11, h4, h8, h9, h5, h3, h6, h10]
end
set_option maxRecDepth 8000 in
theorem lst_app (a b : ByteArray) : lst (a ++ b) = lst a ++ lst b := by simp [lst]
set_option maxRecDepth 8000 in
theorem bsz0 : (⟨#[]⟩ : ByteArray).size = 0 := rfl
set_option maxRecDepth 8000 in
theorem bsz1 (c : UInt8) : (⟨#[c]⟩ : ByteArray).size = 1 := rfl
set_option maxRecDepth 8000 in
theorem bsz2 (c d : UInt8) : (⟨#[c, d]⟩ : ByteArray).size = 2 := rfl
set_option maxRecDepth 8000 in
theorem lst_one (c : UInt8) : lst ⟨#[c]⟩ = [c] := rfl
set_option maxRecDepth 8000 in
theorem lst_two (c d : UInt8) : lst ⟨#[c, d]⟩ = [c, d] := rfl
set_option maxRecDepth 8000 in
theorem lst_none : lst ⟨#[]⟩ = [] := rfl
set_option maxRecDepth 8000 in
theorem Writes.weak {F : FuncId} {v : Value} {t : List UInt8} {K K' : World → Nat → Prop} (h : Writes F v t K) (hk : ∀ w B, K' w B → K w B) : Writes F v t K' := fun w B b acc h1 h2 h3 h4 => h w B b acc h1 h2 h3 (hk w B h4)
set_option maxRecDepth 8000 in
set_option maxHeartbeats 1600000 in
theorem wfirst_any {K : World → Nat → Prop} (A : Option Addr) (c : Nat) (zs : List Nd) (HF : ∀ z ∈ zs, Writes 38 (.agg (nv z)) (tx z) K)
    (w : World) (B b : Nat) (acc : List UInt8) (h : Bld w B b acc) (hB : B ≤ w.heap.size) (hl : acc.length + ((txs zs).headD []).length ≤ 140737488355328) (hk : K w B) (hA : Sl w B A (ncs zs)) :
    Calls Try.prog 70 #[.pointer (some ⟨b, 0, none⟩), .slice A zs.length c] w fun e w' => e = .returned (.tuple #[]) ∧ Bld w' B b (acc ++ (txs zs).headD []) ∧ Below B w w' ∧ Lib.OthersKept 5 (some b) w w' := by
  cases zs with
  | nil =>
    have HH := Lib.hid h
    rw [show (txs []).headD [] = [] by simp [txs], List.append_nil]
    simp only [List.length_nil]
    clear h hA hl HF
    go_enter Try.func70, Try.ntmps70
    go_wp2_with fail
    go_end0
    exact ⟨rfl, HH.out, Below.refl _ _, Lib.OthersKept.refl _ _ _⟩
  | cons z zs =>
    rw [txs_cons, List.headD_cons] at hl ⊢
    have HC := Lib.hid (HF z (by simp) w B b acc h hB hl hk)
    obtain ⟨bb, o, rfl, hbb, hc⟩ := sl_at (z := n0) ncells_length hA (k := 0) (by simp) (by omega)
    have q0 := hc 0 0 _ (by simp) (by omega) rfl
    have q1 := hc 0 1 _ (by simp) (by omega) rfl
    have q2 := hc 0 2 _ (by simp) (by omega) rfl
    have q3 := hc 0 3 _ (by simp) (by omega) rfl
    have q4 := hc 0 4 _ (by simp) (by omega) rfl
    simp only [Nat.zero_mul, Nat.add_zero, Nat.zero_add, List.getD_cons_zero] at q0 q1 q2 q3 q4
    simp only [List.length_cons]
    have hlen : (0 : Int) < ((zs.length + 1 : Nat) : Int) := by omega
    generalize zs.length + 1 = n at *
    unfold nv at HC
    clear h hA hl HF hc
    obtain ⟨zk, zp, zs9, zA, zc, zw, zB, zd, zz⟩ := z
    simp only [Nd.k, Nd.p, Nd.s, Nd.A, Nd.c, Nd.ws, Nd.B, Nd.d, Nd.ks] at q0 q1 q2 q3 q4 HC
    go_enter Try.func70, Try.ntmps70
    go_wp2_with fail
    refine HC.out.mono ?_
    rintro e w1 ⟨rfl, k1, k2, k3⟩
    have HBU := Lib.hid k1
    have HW := Lib.hid k2
    have HO := Lib.hid k3
    clear k1 k2 k3
    go_wp2_with fail
    go_end0
    exact ⟨rfl, HBU.out, HW.out, HO.out⟩
set_option maxRecDepth 100000 in
set_option maxHeartbeats 12800000 in
theorem write_step (N : Nat) (hN : N ≤ 4294967296) (ih : ∀ y, cnt [y] ≤ N → Writes 38 (.agg (nv y)) (tx y) (fun w B => Nods w B [y])) (z : Nd) (hz : cnt [z] ≤ N + 1) :
    Writes 38 (.agg (nv z)) (tx z) (fun w B => Nods w B [z]) := by
  intro w B b acc h hB hl hnd
  obtain ⟨zk, zp, zs, zA, zc, zw, zB, zd, zz⟩ := z
  have hcz : 1 + zw.length + cnt zz ≤ N + 1 := by rw [cnt_cons] at hz; simp only [cnt, Nat.add_zero] at hz; exact hz
  have hzl := length_cnt zz
  have HKF : Hid (∀ y ∈ zz, Writes 38 (.agg (nv y)) (tx y) (fun w B => Nods w B zz)) := fun y hy => (ih y (by
    have h1 := cnt_mem hy
    rw [cnt_cons]
    simp only [cnt, Nat.add_zero]
    omega)).weak fun w B h => h.mem hy
  have HNK : Hid (Nods w B zz) := hnd.kids
  have HSW : Hid (Sl w B zA (wcs zw)) := hnd.at.1.1
  have HSK : Hid (Sl w B zB (ncs zz)) := hnd.at.2.1
  have hgb : w.heap.size ≠ b := Nat.ne_of_gt (bld_lt h)
  have HBUw0 := Lib.hid (bld_below h ((Below.refl _ _).alloc (Nat.le_refl _) (.cells (nv (.mk zk zp zs zA zc zw zB zd zz)) 32)))
  have HWw0 : Hid (Below B w (w.alloc (.cells (nv (.mk zk zp zs zA zc zw zB zd zz)) 32))) := (Below.refl B w).alloc hB _
  have HOw0 : Hid (Lib.OthersKept 5 (some b) w (w.alloc (.cells (nv (.mk zk zp zs zA zc zw zB zd zz)) 32))) := (Lib.OthersKept.refl _ _ w).alloc _
  have HRw0 := Lib.hid (RowAt.new w 32 (nv (.mk zk zp zs zA zc zw zB zd zz)))
  have hzw0 : B ≤ (w.alloc (.cells (nv (.mk zk zp zs zA zc zw zB zd zz)) 32)).heap.size := by simp; omega
  unfold nv at HBUw0 HWw0 HOw0 HRw0 hzw0 ⊢
  simp only [Nd.k, Nd.p, Nd.s, Nd.A, Nd.c, Nd.ws, Nd.B, Nd.d, Nd.ks] at HBUw0 HWw0 HOw0 HRw0 hzw0 ⊢
  obtain ⟨m0, m1, m2, m3, m4, _, _, _, _, _⟩ := row5 HRw0.out
  clear h hnd ih
  by_cases h1 : zk = 1
  · subst h1
    have HTX : Hid (tx (.mk 1 zp zs zA zc zw zB zd zz) = tx1 1 (lst zs) (wtx zw) (txs zz)) := rfl
    rw [tx1_1] at HTX
    go_enter Try.func38, Try.ntmps38
    go_wp2_with fail
    have C1 := Lib.hid (wstr_any zs HBUw0.out hzw0 (by rw [HTX.out] at hl; (try simp only [wtx, txs_map] at hl); (try simp only [lst_length] at hl); (try simp only [List.length_append, List.length_cons, List.length_nil, lst_length, lst_app, lst_one, lst_two, lst_none, ByteArray.size_append, bsz0, bsz1, bsz2]); (try simp only [txs_map]); first | omega | (simp [ByteArray.size] at hl ⊢; omega)))
    go_wp2_with fail
    refine C1.out.mono ?_
    rintro e w1 ⟨rfl, k1, k2, k3⟩
    have HBUw1 := Lib.hid k1
    have HWw1 : Hid (Below B w w1) := HWw0.out.trans k2
    have HOw1 : Hid (Lib.OthersKept 5 (some b) w w1) := HOw0.out.trans k3
    have HRw1 := Lib.hid (others_row k3 HRw0.out hgb (by decide))
    obtain ⟨m0, m1, m2, m3, m4, _, _, _, _, _⟩ := row5 HRw1.out
    have hzw1 : B ≤ w1.heap.size := Nat.le_trans hB HWw1.out.size
    clear k1 k2 k3
    clear C1
    go_wp2_with fail
    go_end0
    exact ⟨rfl, (by have h := HBUw1.out; rw [HTX.out]; simpa [wtx, txs_map, lst_one, lst_two, lst_none, lst_app] using h), HWw1.out, HOw1.out⟩
  · by_cases h2 : zk = 2
    · subst h2
      have HTX : Hid (tx (.mk 2 zp zs zA zc zw zB zd zz) = tx1 2 (lst zs) (wtx zw) (txs zz)) := rfl
      rw [tx1_2] at HTX
      go_enter Try.func38, Try.ntmps38
      go_wp2_with fail
      have C1 := Lib.hid (wstr_any zs HBUw0.out hzw0 (by rw [HTX.out] at hl; (try simp only [wtx, txs_map] at hl); (try simp only [lst_length] at hl); (try simp only [List.length_append, List.length_cons, List.length_nil, lst_length, lst_app, lst_one, lst_two, lst_none, ByteArray.size_append, bsz0, bsz1, bsz2]); (try simp only [txs_map]); first | omega | (simp [ByteArray.size] at hl ⊢; omega)))
      go_wp2_with fail
      refine C1.out.mono ?_
      rintro e w1 ⟨rfl, k1, k2, k3⟩
      have HBUw1 := Lib.hid k1
      have HWw1 : Hid (Below B w w1) := HWw0.out.trans k2
      have HOw1 : Hid (Lib.OthersKept 5 (some b) w w1) := HOw0.out.trans k3
      have HRw1 := Lib.hid (others_row k3 HRw0.out hgb (by decide))
      obtain ⟨m0, m1, m2, m3, m4, _, _, _, _, _⟩ := row5 HRw1.out
      have hzw1 : B ≤ w1.heap.size := Nat.le_trans hB HWw1.out.size
      clear k1 k2 k3
      clear C1
      go_wp2_with fail
      go_end0
      exact ⟨rfl, (by have h := HBUw1.out; rw [HTX.out]; simpa [wtx, txs_map, lst_one, lst_two, lst_none, lst_app] using h), HWw1.out, HOw1.out⟩
    · by_cases h7 : zk = 7
      · subst h7
        have HTX : Hid (tx (.mk 7 zp zs zA zc zw zB zd zz) = tx1 7 (lst zs) (wtx zw) (txs zz)) := rfl
        rw [tx1_7] at HTX
        go_enter Try.func38, Try.ntmps38
        go_wp2_with fail
        have C1 := Lib.hid (wbyte_any 35 HBUw0.out hzw0 (by rw [HTX.out] at hl; (try simp only [txs_map] at hl); (try simp only [List.length_cons] at hl); (try simp only [List.length_append, List.length_cons, List.length_nil, lst_length, lst_app, lst_one, lst_two, lst_none, ByteArray.size_append, bsz0, bsz1, bsz2]); (try simp only [txs_map]); first | omega | (simp [ByteArray.size] at hl ⊢; omega)))
        go_wp2_with fail
        refine C1.out.mono ?_
        rintro e w1 ⟨rfl, k1, k2, k3⟩
        have HBUw1 := Lib.hid k1
        have HWw1 : Hid (Below B w w1) := HWw0.out.trans k2
        have HOw1 : Hid (Lib.OthersKept 5 (some b) w w1) := HOw0.out.trans k3
        have HRw1 := Lib.hid (others_row k3 HRw0.out hgb (by decide))
        obtain ⟨m0, m1, m2, m3, m4, _, _, _, _, _⟩ := row5 HRw1.out
        have hzw1 : B ≤ w1.heap.size := Nat.le_trans hB HWw1.out.size
        clear k1 k2 k3
        clear C1
        have C2 := Lib.hid (wfirst_any (K := fun w B => Nods w B zz) zB zd zz HKF.out _ _ _ _ HBUw1.out hzw1 (by rw [HTX.out] at hl; (try simp only [txs_map] at hl); (try simp only [List.length_cons] at hl); (try simp only [List.length_append, List.length_cons, List.length_nil]); (try simp only [txs_map]); first | omega | (simp [ByteArray.size] at hl ⊢; omega)) (HNK.out.below HWw1.out) (HSK.out.below HWw1.out))
        go_wp2_with fail
        refine C2.out.mono ?_
        rintro e w2 ⟨rfl, k1, k2, k3⟩
        have HBUw2 := Lib.hid k1
        have HWw2 : Hid (Below B w w2) := HWw1.out.trans k2
        have HOw2 : Hid (Lib.OthersKept 5 (some b) w w2) := HOw1.out.trans k3
        have HRw2 := Lib.hid (others_row k3 HRw1.out hgb (by decide))
        obtain ⟨m0, m1, m2, m3, m4, _, _, _, _, _⟩ := row5 HRw2.out
        have hzw2 : B ≤ w2.heap.size := Nat.le_trans hB HWw2.out.size
        clear k1 k2 k3
        clear C2
        go_wp2_with fail
        go_end0
        exact ⟨rfl, (by have h := HBUw2.out; rw [HTX.out]; simpa [wtx, txs_map, lst_one, lst_two, lst_none, lst_app] using h), HWw2.out, HOw2.out⟩
      · by_cases h11 : zk = 11
        · subst h11
          have HTX : Hid (tx (.mk 11 zp zs zA zc zw zB zd zz) = tx1 11 (lst zs) (wtx zw) (txs zz)) := rfl
          rw [tx1_11] at HTX
          have hsz : zs.size ≤ 140737488355327 := by
            rw [HTX.out] at hl
            simp only [List.length_append, List.length_cons, lst_length] at hl
            omega
          go_enter Try.func38, Try.ntmps38
          go_wp2_with fail
          have C1 := Lib.hid (wstr_any (zs ++ ⟨#[61]⟩) HBUw0.out hzw0 (by rw [HTX.out] at hl; (try simp only [txs_map] at hl); (try simp only [List.length_append, List.length_cons, lst_length] at hl); (try simp only [ByteArray.size_append, bsz1]); (try simp only [txs_map]); first | omega | (simp [ByteArray.size] at hl ⊢; omega)))
          go_wp2_with fail
          refine C1.out.mono ?_
          rintro e w1 ⟨rfl, k1, k2, k3⟩
          have HBUw1 := Lib.hid k1
          have HWw1 : Hid (Below B w w1) := HWw0.out.trans k2
          have HOw1 : Hid (Lib.OthersKept 5 (some b) w w1) := HOw0.out.trans k3
          have HRw1 := Lib.hid (others_row k3 HRw0.out hgb (by decide))
          obtain ⟨m0, m1, m2, m3, m4, _, _, _, _, _⟩ := row5 HRw1.out
          have hzw1 : B ≤ w1.heap.size := Nat.le_trans hB HWw1.out.size
          clear k1 k2 k3
          clear C1
          have C2 := Lib.hid (wfirst_any (K := fun w B => Nods w B zz) zB zd zz HKF.out _ _ _ _ HBUw1.out hzw1 (by rw [HTX.out] at hl; (try simp only [txs_map] at hl); (try simp only [List.length_append, List.length_cons, lst_length] at hl); (try simp only [List.length_append, List.length_cons, List.length_nil, lst_length, lst_app, lst_one]); (try simp only [txs_map]); first | omega | (simp [ByteArray.size] at hl ⊢; omega)) (HNK.out.below HWw1.out) (HSK.out.below HWw1.out))
          go_wp2_with fail
          refine C2.out.mono ?_
          rintro e w2 ⟨rfl, k1, k2, k3⟩
          have HBUw2 := Lib.hid k1
          have HWw2 : Hid (Below B w w2) := HWw1.out.trans k2
          have HOw2 : Hid (Lib.OthersKept 5 (some b) w w2) := HOw1.out.trans k3
          have HRw2 := Lib.hid (others_row k3 HRw1.out hgb (by decide))
          obtain ⟨m0, m1, m2, m3, m4, _, _, _, _, _⟩ := row5 HRw2.out
          have hzw2 : B ≤ w2.heap.size := Nat.le_trans hB HWw2.out.size
          clear k1 k2 k3
          clear C2
          go_wp2_with fail
          go_end0
          exact ⟨rfl, (by have h := HBUw2.out; rw [HTX.out]; simpa [wtx, txs_map, lst_one, lst_two, lst_none, lst_app] using h), HWw2.out, HOw2.out⟩
        · by_cases h4 : zk = 4
          · subst h4
            have HTX : Hid (tx (.mk 4 zp zs zA zc zw zB zd zz) = tx1 4 (lst zs) (wtx zw) (txs zz)) := rfl
            rw [tx1_4] at HTX
            go_enter Try.func38, Try.ntmps38
            go_wp2_with fail
            have C1 := Lib.hid ((wlistN_any (fun _ _ => by kernel_rfl) zB zd zz (by omega) HKF.out (fun wa wb B h hb => h.below hb) ⟨#[40]⟩ ⟨#[41]⟩ _ _ _ _ HBUw0.out hzw0 (by rw [HTX.out] at hl; (try simp only [txs_map] at hl); (try simp only [List.length_append, List.length_cons, List.length_nil] at hl); (try simp only [List.length_append, List.length_cons, List.length_nil, lst_one]); (try simp only [txs_map]); first | omega | (simp [ByteArray.size] at hl ⊢; omega)) (HNK.out.below HWw0.out) (HSK.out.below HWw0.out)))
            go_wp2_with fail
            refine C1.out.mono ?_
            rintro e w1 ⟨rfl, k1, k2, k3⟩
            have HBUw1 := Lib.hid k1
            have HWw1 : Hid (Below B w w1) := HWw0.out.trans k2
            have HOw1 : Hid (Lib.OthersKept 5 (some b) w w1) := HOw0.out.trans k3
            have HRw1 := Lib.hid (others_row k3 HRw0.out hgb (by decide))
            obtain ⟨m0, m1, m2, m3, m4, _, _, _, _, _⟩ := row5 HRw1.out
            have hzw1 : B ≤ w1.heap.size := Nat.le_trans hB HWw1.out.size
            clear k1 k2 k3
            clear C1
            go_wp2_with fail
            go_end0
            exact ⟨rfl, (by have h := HBUw1.out; rw [HTX.out]; simpa [wtx, txs_map, lst_one, lst_two, lst_none, lst_app] using h), HWw1.out, HOw1.out⟩
          · by_cases h8 : zk = 8
            · subst h8
              have HTX : Hid (tx (.mk 8 zp zs zA zc zw zB zd zz) = tx1 8 (lst zs) (wtx zw) (txs zz)) := rfl
              rw [tx1_8] at HTX
              go_enter Try.func38, Try.ntmps38
              go_wp2_with fail
              have C1 := Lib.hid ((wlistN_any (fun _ _ => by kernel_rfl) zB zd zz (by omega) HKF.out (fun wa wb B h hb => h.below hb) ⟨#[43, 40]⟩ ⟨#[41]⟩ _ _ _ _ HBUw0.out hzw0 (by rw [HTX.out] at hl; (try simp only [txs_map] at hl); (try simp only [List.length_append, List.length_cons, List.length_nil] at hl); (try simp only [List.length_append, List.length_cons, List.length_nil, lst_one, lst_two]); (try simp only [txs_map]); first | omega | (simp [ByteArray.size] at hl ⊢; omega)) (HNK.out.below HWw0.out) (HSK.out.below HWw0.out)))
              go_wp2_with fail
              refine C1.out.mono ?_
              rintro e w1 ⟨rfl, k1, k2, k3⟩
              have HBUw1 := Lib.hid k1
              have HWw1 : Hid (Below B w w1) := HWw0.out.trans k2
              have HOw1 : Hid (Lib.OthersKept 5 (some b) w w1) := HOw0.out.trans k3
              have HRw1 := Lib.hid (others_row k3 HRw0.out hgb (by decide))
              obtain ⟨m0, m1, m2, m3, m4, _, _, _, _, _⟩ := row5 HRw1.out
              have hzw1 : B ≤ w1.heap.size := Nat.le_trans hB HWw1.out.size
              clear k1 k2 k3
              clear C1
              go_wp2_with fail
              go_end0
              exact ⟨rfl, (by have h := HBUw1.out; rw [HTX.out]; simpa [wtx, txs_map, lst_one, lst_two, lst_none, lst_app] using h), HWw1.out, HOw1.out⟩
            · by_cases h9 : zk = 9
              · subst h9
                have HTX : Hid (tx (.mk 9 zp zs zA zc zw zB zd zz) = tx1 9 (lst zs) (wtx zw) (txs zz)) := rfl
                rw [tx1_9] at HTX
                go_enter Try.func38, Try.ntmps38
                go_wp2_with fail
                have C1 := Lib.hid ((wlistN_any (fun _ _ => by kernel_rfl) zB zd zz (by omega) HKF.out (fun wa wb B h hb => h.below hb) ⟨#[38, 40]⟩ ⟨#[41]⟩ _ _ _ _ HBUw0.out hzw0 (by rw [HTX.out] at hl; (try simp only [txs_map] at hl); (try simp only [List.length_append, List.length_cons, List.length_nil] at hl); (try simp only [List.length_append, List.length_cons, List.length_nil, lst_one, lst_two]); (try simp only [txs_map]); first | omega | (simp [ByteArray.size] at hl ⊢; omega)) (HNK.out.below HWw0.out) (HSK.out.below HWw0.out)))
                go_wp2_with fail
                refine C1.out.mono ?_
                rintro e w1 ⟨rfl, k1, k2, k3⟩
                have HBUw1 := Lib.hid k1
                have HWw1 : Hid (Below B w w1) := HWw0.out.trans k2
                have HOw1 : Hid (Lib.OthersKept 5 (some b) w w1) := HOw0.out.trans k3
                have HRw1 := Lib.hid (others_row k3 HRw0.out hgb (by decide))
                obtain ⟨m0, m1, m2, m3, m4, _, _, _, _, _⟩ := row5 HRw1.out
                have hzw1 : B ≤ w1.heap.size := Nat.le_trans hB HWw1.out.size
                clear k1 k2 k3
                clear C1
                go_wp2_with fail
                go_end0
                exact ⟨rfl, (by have h := HBUw1.out; rw [HTX.out]; simpa [wtx, txs_map, lst_one, lst_two, lst_none, lst_app] using h), HWw1.out, HOw1.out⟩
              · by_cases h5 : zk = 5
                · subst h5
                  have HTX : Hid (tx (.mk 5 zp zs zA zc zw zB zd zz) = tx1 5 (lst zs) (wtx zw) (txs zz)) := rfl
                  rw [tx1_5] at HTX
                  go_enter Try.func38, Try.ntmps38
                  go_wp2_with fail
                  have C1 := Lib.hid ((wlistN_any (fun _ _ => by kernel_rfl) zB zd zz (by omega) HKF.out (fun wa wb B h hb => h.below hb) ⟨#[91]⟩ ⟨#[93]⟩ _ _ _ _ HBUw0.out hzw0 (by rw [HTX.out] at hl; (try simp only [txs_map] at hl); (try simp only [List.length_append, List.length_cons, List.length_nil] at hl); (try simp only [List.length_append, List.length_cons, List.length_nil, lst_one]); (try simp only [txs_map]); first | omega | (simp [ByteArray.size] at hl ⊢; omega)) (HNK.out.below HWw0.out) (HSK.out.below HWw0.out)))
                  go_wp2_with fail
                  refine C1.out.mono ?_
                  rintro e w1 ⟨rfl, k1, k2, k3⟩
                  have HBUw1 := Lib.hid k1
                  have HWw1 : Hid (Below B w w1) := HWw0.out.trans k2
                  have HOw1 : Hid (Lib.OthersKept 5 (some b) w w1) := HOw0.out.trans k3
                  have HRw1 := Lib.hid (others_row k3 HRw0.out hgb (by decide))
                  obtain ⟨m0, m1, m2, m3, m4, _, _, _, _, _⟩ := row5 HRw1.out
                  have hzw1 : B ≤ w1.heap.size := Nat.le_trans hB HWw1.out.size
                  clear k1 k2 k3
                  clear C1
                  go_wp2_with fail
                  go_end0
                  exact ⟨rfl, (by have h := HBUw1.out; rw [HTX.out]; simpa [wtx, txs_map, lst_one, lst_two, lst_none, lst_app] using h), HWw1.out, HOw1.out⟩
                · by_cases h3 : zk = 3
                  · subst h3
                    have HTX : Hid (tx (.mk 3 zp zs zA zc zw zB zd zz) = tx1 3 (lst zs) (wtx zw) (txs zz)) := rfl
                    rw [tx1_3] at HTX
                    go_enter Try.func38, Try.ntmps38
                    go_wp2_with fail
                    have C1 := Lib.hid ((wlistW_any (f := fun x => lst x.s) (KK := fun _ _ => True) (fun _ _ => by kernel_rfl) zA zc zw (by omega) (fun z _ => writeName_any z _) (fun _ _ _ _ _ => trivial) ⟨#[123]⟩ ⟨#[125]⟩ _ _ _ _ HBUw0.out hzw0 (by rw [HTX.out] at hl; (try simp only [wtx] at hl); (try simp only [List.length_append, List.length_cons, List.length_nil] at hl); (try simp only [List.length_append, List.length_cons, List.length_nil, lst_one]); (try simp only [txs_map]); first | omega | (simp [ByteArray.size] at hl ⊢; omega)) trivial (HSW.out.below HWw0.out)))
                    go_wp2_with fail
                    refine C1.out.mono ?_
                    rintro e w1 ⟨rfl, k1, k2, k3⟩
                    have HBUw1 := Lib.hid k1
                    have HWw1 : Hid (Below B w w1) := HWw0.out.trans k2
                    have HOw1 : Hid (Lib.OthersKept 5 (some b) w w1) := HOw0.out.trans k3
                    have HRw1 := Lib.hid (others_row k3 HRw0.out hgb (by decide))
                    obtain ⟨m0, m1, m2, m3, m4, _, _, _, _, _⟩ := row5 HRw1.out
                    have hzw1 : B ≤ w1.heap.size := Nat.le_trans hB HWw1.out.size
                    clear k1 k2 k3
                    clear C1
                    go_wp2_with fail
                    go_end0
                    exact ⟨rfl, (by have h := HBUw1.out; rw [HTX.out]; simpa [wtx, txs_map, lst_one, lst_two, lst_none, lst_app] using h), HWw1.out, HOw1.out⟩
                  · by_cases h6 : zk = 6
                    · subst h6
                      have HTX : Hid (tx (.mk 6 zp zs zA zc zw zB zd zz) = tx1 6 (lst zs) (wtx zw) (txs zz)) := rfl
                      rw [tx1_6] at HTX
                      go_enter Try.func38, Try.ntmps38
                      go_wp2_with fail
                      have C1 := Lib.hid (wstr_any zs HBUw0.out hzw0 (by rw [HTX.out] at hl; (try simp only [wtx] at hl); (try simp only [List.length_append, List.length_cons, List.length_nil, lst_length] at hl); (try simp only [List.length_append, List.length_cons, List.length_nil, lst_length, lst_app, lst_one, lst_two, lst_none, ByteArray.size_append, bsz0, bsz1, bsz2]); (try simp only [txs_map]); first | omega | (simp [ByteArray.size] at hl ⊢; omega)))
                      go_wp2_with fail
                      refine C1.out.mono ?_
                      rintro e w1 ⟨rfl, k1, k2, k3⟩
                      have HBUw1 := Lib.hid k1
                      have HWw1 : Hid (Below B w w1) := HWw0.out.trans k2
                      have HOw1 : Hid (Lib.OthersKept 5 (some b) w w1) := HOw0.out.trans k3
                      have HRw1 := Lib.hid (others_row k3 HRw0.out hgb (by decide))
                      obtain ⟨m0, m1, m2, m3, m4, _, _, _, _, _⟩ := row5 HRw1.out
                      have hzw1 : B ≤ w1.heap.size := Nat.le_trans hB HWw1.out.size
                      clear k1 k2 k3
                      clear C1
                      have C2 := Lib.hid ((wlistW_any (f := fun x => lst x.s) (KK := fun _ _ => True) (fun _ _ => by kernel_rfl) zA zc zw (by omega) (fun z _ => writeName_any z _) (fun _ _ _ _ _ => trivial) ⟨#[58, 123]⟩ ⟨#[125]⟩ _ _ _ _ HBUw1.out hzw1 (by rw [HTX.out] at hl; (try simp only [wtx] at hl); (try simp only [List.length_append, List.length_cons, List.length_nil, lst_length] at hl); (try simp only [List.length_append, List.length_cons, List.length_nil, lst_length, lst_one, lst_two]); (try simp only [txs_map]); first | omega | (simp [ByteArray.size] at hl ⊢; omega)) trivial (HSW.out.below HWw1.out)))
                      go_wp2_with fail
                      refine C2.out.mono ?_
                      rintro e w2 ⟨rfl, k1, k2, k3⟩
                      have HBUw2 := Lib.hid k1
                      have HWw2 : Hid (Below B w w2) := HWw1.out.trans k2
                      have HOw2 : Hid (Lib.OthersKept 5 (some b) w w2) := HOw1.out.trans k3
                      have HRw2 := Lib.hid (others_row k3 HRw1.out hgb (by decide))
                      obtain ⟨m0, m1, m2, m3, m4, _, _, _, _, _⟩ := row5 HRw2.out
                      have hzw2 : B ≤ w2.heap.size := Nat.le_trans hB HWw2.out.size
                      clear k1 k2 k3
                      clear C2
                      go_wp2_with fail
                      go_end0
                      exact ⟨rfl, (by have h := HBUw2.out; rw [HTX.out]; simpa [wtx, txs_map, lst_one, lst_two, lst_none, lst_app] using h), HWw2.out, HOw2.out⟩
                    · by_cases h10 : zk = 10
                      · subst h10
                        have HTX : Hid (tx (.mk 10 zp zs zA zc zw zB zd zz) = tx1 10 (lst zs) (wtx zw) (txs zz)) := rfl
                        rw [tx1_10] at HTX
                        by_cases hw : zw = []
                        · subst hw
                          rw [if_pos (show wtx [] = [] from rfl)] at HTX
                          simp only [List.length_nil] at *
                          go_enter Try.func38, Try.ntmps38
                          go_wp2_with fail
                          have C1 := Lib.hid ((wlistN_any (fun _ _ => by kernel_rfl) zB zd zz (by omega) HKF.out (fun wa wb B h hb => h.below hb) ⟨#[91]⟩ ⟨#[]⟩ _ _ _ _ HBUw0.out hzw0 (by rw [HTX.out] at hl; (try simp only [txs_map] at hl); (try simp only [List.length_append, List.length_cons, List.length_nil] at hl); (try simp only [List.length_append, List.length_cons, List.length_nil, lst_one, lst_none]); (try simp only [txs_map]); first | omega | (simp [ByteArray.size] at hl ⊢; omega)) (HNK.out.below HWw0.out) (HSK.out.below HWw0.out)))
                          go_wp2_with fail
                          refine C1.out.mono ?_
                          rintro e w1 ⟨rfl, k1, k2, k3⟩
                          have HBUw1 := Lib.hid k1
                          have HWw1 : Hid (Below B w w1) := HWw0.out.trans k2
                          have HOw1 : Hid (Lib.OthersKept 5 (some b) w w1) := HOw0.out.trans k3
                          have HRw1 := Lib.hid (others_row k3 HRw0.out hgb (by decide))
                          obtain ⟨m0, m1, m2, m3, m4, _, _, _, _, _⟩ := row5 HRw1.out
                          have hzw1 : B ≤ w1.heap.size := Nat.le_trans hB HWw1.out.size
                          clear k1 k2 k3
                          clear C1
                          have C2 := Lib.hid (wbyte_any 93 HBUw1.out hzw1 (by rw [HTX.out] at hl; (try simp only [txs_map] at hl); (try simp only [List.length_append, List.length_cons, List.length_nil] at hl); (try simp only [List.length_append, List.length_cons, List.length_nil, lst_one, lst_none]); (try simp only [txs_map]); first | omega | (simp [ByteArray.size] at hl ⊢; omega)))
                          go_wp2_with fail
                          refine C2.out.mono ?_
                          rintro e w2 ⟨rfl, k1, k2, k3⟩
                          have HBUw2 := Lib.hid k1
                          have HWw2 : Hid (Below B w w2) := HWw1.out.trans k2
                          have HOw2 : Hid (Lib.OthersKept 5 (some b) w w2) := HOw1.out.trans k3
                          have HRw2 := Lib.hid (others_row k3 HRw1.out hgb (by decide))
                          obtain ⟨m0, m1, m2, m3, m4, _, _, _, _, _⟩ := row5 HRw2.out
                          have hzw2 : B ≤ w2.heap.size := Nat.le_trans hB HWw2.out.size
                          clear k1 k2 k3
                          clear C2
                          go_wp2_with fail
                          go_end0
                          exact ⟨rfl, (by have h := HBUw2.out; rw [HTX.out]; simpa [wtx, txs_map, lst_one, lst_none] using h), HWw2.out, HOw2.out⟩
                        · rw [if_neg (show ¬ wtx zw = [] from fun e => hw (List.map_eq_nil_iff.1 e))] at HTX
                          have hwl : 0 < zw.length := List.length_pos_iff.2 hw
                          go_enter Try.func38, Try.ntmps38
                          go_wp2_with fail
                          have C1 := Lib.hid ((wlistN_any (fun _ _ => by kernel_rfl) zB zd zz (by omega) HKF.out (fun wa wb B h hb => h.below hb) ⟨#[91]⟩ ⟨#[]⟩ _ _ _ _ HBUw0.out hzw0 (by rw [HTX.out] at hl; (try simp only [wtx, txs_map] at hl); (try simp only [List.length_append, List.length_cons, List.length_nil] at hl); (try simp only [List.length_append, List.length_cons, List.length_nil, lst_one, lst_none]); (try simp only [txs_map]); first | omega | (simp [ByteArray.size] at hl ⊢; omega)) (HNK.out.below HWw0.out) (HSK.out.below HWw0.out)))
                          go_wp2_with fail
                          refine C1.out.mono ?_
                          rintro e w1 ⟨rfl, k1, k2, k3⟩
                          have HBUw1 := Lib.hid k1
                          have HWw1 : Hid (Below B w w1) := HWw0.out.trans k2
                          have HOw1 : Hid (Lib.OthersKept 5 (some b) w w1) := HOw0.out.trans k3
                          have HRw1 := Lib.hid (others_row k3 HRw0.out hgb (by decide))
                          obtain ⟨m0, m1, m2, m3, m4, _, _, _, _, _⟩ := row5 HRw1.out
                          have hzw1 : B ≤ w1.heap.size := Nat.le_trans hB HWw1.out.size
                          clear k1 k2 k3
                          clear C1
                          have C2 := Lib.hid ((wlistW_any (f := fun x => lst x.s) (KK := fun _ _ => True) (fun _ _ => by kernel_rfl) zA zc zw (by omega) (fun z _ => writeName_any z _) (fun _ _ _ _ _ => trivial) ⟨#[124]⟩ ⟨#[]⟩ _ _ _ _ HBUw1.out hzw1 (by rw [HTX.out] at hl; (try simp only [wtx, txs_map] at hl); (try simp only [List.length_append, List.length_cons, List.length_nil] at hl); (try simp only [List.length_append, List.length_cons, List.length_nil, lst_one, lst_none]); (try simp only [txs_map]); first | omega | (simp [ByteArray.size] at hl ⊢; omega)) trivial (HSW.out.below HWw1.out)))
                          go_wp2_with fail
                          refine C2.out.mono ?_
                          rintro e w2 ⟨rfl, k1, k2, k3⟩
                          have HBUw2 := Lib.hid k1
                          have HWw2 : Hid (Below B w w2) := HWw1.out.trans k2
                          have HOw2 : Hid (Lib.OthersKept 5 (some b) w w2) := HOw1.out.trans k3
                          have HRw2 := Lib.hid (others_row k3 HRw1.out hgb (by decide))
                          obtain ⟨m0, m1, m2, m3, m4, _, _, _, _, _⟩ := row5 HRw2.out
                          have hzw2 : B ≤ w2.heap.size := Nat.le_trans hB HWw2.out.size
                          clear k1 k2 k3
                          clear C2
                          have C3 := Lib.hid (wbyte_any 93 HBUw2.out hzw2 (by rw [HTX.out] at hl; (try simp only [wtx, txs_map] at hl); (try simp only [List.length_append, List.length_cons, List.length_nil] at hl); (try simp only [List.length_append, List.length_cons, List.length_nil, lst_one, lst_none]); (try simp only [txs_map]); first | omega | (simp [ByteArray.size] at hl ⊢; omega)))
                          go_wp2_with fail
                          refine C3.out.mono ?_
                          rintro e w3 ⟨rfl, k1, k2, k3⟩
                          have HBUw3 := Lib.hid k1
                          have HWw3 : Hid (Below B w w3) := HWw2.out.trans k2
                          have HOw3 : Hid (Lib.OthersKept 5 (some b) w w3) := HOw2.out.trans k3
                          have HRw3 := Lib.hid (others_row k3 HRw2.out hgb (by decide))
                          obtain ⟨m0, m1, m2, m3, m4, _, _, _, _, _⟩ := row5 HRw3.out
                          have hzw3 : B ≤ w3.heap.size := Nat.le_trans hB HWw3.out.size
                          clear k1 k2 k3
                          clear C3
                          go_wp2_with fail
                          go_end0
                          exact ⟨rfl, (by have h := HBUw3.out; rw [HTX.out]; simpa [wtx, txs_map, lst_one, lst_none] using h), HWw3.out, HOw3.out⟩
                      · have q1 : (zk == 1) = false := by rw [beq_eq_false_iff_ne]; exact h1
                        have q2 : (zk == 2) = false := by rw [beq_eq_false_iff_ne]; exact h2
                        have q7 : (zk == 7) = false := by rw [beq_eq_false_iff_ne]; exact h7
                        have q11 : (zk == 11) = false := by rw [beq_eq_false_iff_ne]; exact h11
                        have q4 : (zk == 4) = false := by rw [beq_eq_false_iff_ne]; exact h4
                        have q8 : (zk == 8) = false := by rw [beq_eq_false_iff_ne]; exact h8
                        have q9 : (zk == 9) = false := by rw [beq_eq_false_iff_ne]; exact h9
                        have q5 : (zk == 5) = false := by rw [beq_eq_false_iff_ne]; exact h5
                        have q3 : (zk == 3) = false := by rw [beq_eq_false_iff_ne]; exact h3
                        have q6 : (zk == 6) = false := by rw [beq_eq_false_iff_ne]; exact h6
                        have q10 : (zk == 10) = false := by rw [beq_eq_false_iff_ne]; exact h10
                        have HTX : Hid (tx (.mk zk zp zs zA zc zw zB zd zz) = []) := tx1_else _ _ _ h1 h2 h7 h11 h4 h8 h9 h5 h3 h6 h10
                        go_enter Try.func38, Try.ntmps38
                        go_wp2_with fail
                        go_end0
                        exact ⟨rfl, (by rw [HTX.out, List.append_nil]; exact HBUw0.out), HWw0.out, HOw0.out⟩
set_option maxRecDepth 8000 in
theorem write_any : ∀ N, N ≤ 4294967296 → ∀ z, cnt [z] ≤ N → Writes 38 (.agg (nv z)) (tx z) (fun w B => Nods w B [z]) := by
  intro N
  induction N with
  | zero => intro _ z hz; rw [cnt_cons] at hz; omega
  | succ N ih => intro h z hz; exact write_step N (by omega) (ih (by omega)) z hz
set_option maxRecDepth 8000 in
theorem nods_nv {w : World} {B : Nat} {z : Nd} (h : Nods w B [z]) : Nods w B [z] := h
/-- The text of a node as a string. -/
def text10 (z : Nd) : ByteArray := ⟨(tx z).toArray⟩
set_option maxRecDepth 100000 in
set_option maxHeartbeats 1600000 in
theorem text_any (z : Nd) (w : World) (hz : cnt [z] ≤ 4294967296) (hl : (tx z).length ≤ 140737488355328) (h : Nods w w.heap.size [z]) :
    Calls Try.prog 13 #[.agg (nv z)] w fun e w' => e = .returned (.string (text10 z)) ∧ Below w.heap.size w w' := by
  have HB0 : Hid (Below w.heap.size w ((w.alloc (.cells (nv z) 32)).alloc (.cells #[.pointer none, .slice none 0 0] 74))) := ((Below.refl _ _).alloc (Nat.le_refl _) _).alloc (by simp) _
  have hbl : Bld ((w.alloc (.cells (nv z) 32)).alloc (.cells #[.pointer none, .slice none 0 0] 74)) (w.heap.size + 1) (w.heap.size + 1) [] := by
    have h1 := Lib.fresh_isBuilder 74 5 (w.alloc (.cells (nv z) 32))
    rw [show (w.alloc (.cells (nv z) 32)).heap.size = w.heap.size + 1 by simp] at h1
    exact h1
  have HC := Lib.hid (write_any _ (Nat.le_refl _) z hz _ _ _ _ hbl (by simp) (by simpa using hl) ((h.below HB0.out).mono (Nat.le_succ _)))
  have hn := (RowAt.new w 32 (nv z)).alloc (.cells #[.pointer none, .slice none 0 0] 74)
  rw [List.nil_append] at HC
  clear hbl h
  have HTX : Hid (text10 z = ⟨(tx z).toArray⟩) := rfl
  generalize tx z = t at *
  generalize text10 z = tt at *
  obtain ⟨zk, zp, zs, zA, zc, zw, zB, zd, zz⟩ := z
  unfold nv at HB0 HC hn ⊢
  simp only [Nd.k, Nd.p, Nd.s, Nd.A, Nd.c, Nd.ws, Nd.B, Nd.d, Nd.ks] at HB0 HC hn ⊢
  obtain ⟨m0, m1, m2, m3, m4, _, _, _, _, _⟩ := row5 hn
  clear hn
  go_enter Try.func13, Try.ntmps13
  go_wp2_with fail
  refine HC.out.mono ?_
  rintro e w1 ⟨rfl, k1, k2, _⟩
  have HBU := Lib.hid k1
  have HW := Lib.hid (HB0.out.trans (k2.mono (Nat.le_succ _)))
  have hsz : w.heap.size + 1 ≤ w1.heap.size := Nat.le_of_lt (bld_lt k1)
  clear k1 k2
  go_wp2_with fail
  refine (Try.Builder_String_any _ _ _ _ HBU.out hsz).mono ?_
  rintro e w2 ⟨rfl, hb⟩
  have HW1 := Lib.hid (HW.out.trans (hb.mono (Nat.le_succ _))); clear hb
  go_wp2
  go_ret
  exact ⟨ret_eq (by rw [HTX.out]; rfl), HW1.out⟩
end Go.Proofs.Ytapnefhmonpgdaa

/-
  Reading does not look at where lists lie; the trees of a line; the chapter's example. Conditions: lines of at most 2^30 bytes.
-/
namespace Go.Proofs.Ytapnefhmonpgdaa
namespace TM
open LX TR
set_option maxRecDepth 8000 in
theorem ter_cons (x : Tr) (r : List Tr) : TR.er (x :: r) = .mk x.t none 0 (TR.er x.ks) x.e :: TR.er r := by cases x; rw [TR.er]; rfl
set_option maxRecDepth 8000 in
theorem ter_nil : TR.er [] = [] := by simp [TR.er]
/-- The same result but for where lists lie. -/
def mapR {α : Type} (x : Res α) : Res α := match x with
  | .error p => .error p
  | .ok (a, r) => .ok (a, TR.er r)
def EI {α : Type} (rd : Rdr α) : Prop := ∀ ts e, rd (TR.er ts) e = mapR (rd ts e)
set_option maxRecDepth 8000 in
theorem EI.bind {α β : Type} {rd : Rdr α} {rd2 : α → Rdr β} (h : EI rd) (h2 : ∀ a, EI (rd2 a)) : EI (fun ts e => bnd (rd ts e) fun a r => rd2 a r e) := fun ts e => by
  show bnd (rd (TR.er ts) e) _ = mapR (bnd (rd ts e) _)
  rw [h]
  cases rd ts e with
  | error p => rfl
  | ok ar => obtain ⟨a, r⟩ := ar; exact h2 a r e
set_option maxRecDepth 8000 in
theorem EI.pure {α : Type} (x : α) : EI (fun ts _ => .ok (x, ts)) := fun _ _ => rfl
set_option maxRecDepth 8000 in
theorem EI.map {α β : Type} {rd : Rdr α} (g : α → β) (h : EI rd) : EI (fun ts e => bnd (rd ts e) fun a r => .ok (g a, r)) := EI.bind (rd2 := fun a ts _ => .ok (g a, ts)) h fun a => EI.pure _
set_option maxRecDepth 8000 in
theorem ei_take (k : Nat) : EI (takeR k) := fun ts e => by
  cases ts with
  | nil => rw [ter_nil]; rfl
  | cons x r =>
    rw [ter_cons]
    simp only [takeR]
    show (if x.t.k = k then _ else _) = _
    split <;> rfl
set_option maxRecDepth 8000 in
theorem ei_name : EI nameR := EI.map (fun t : Tk => (⟨t.s, t.p⟩ : Wd)) (ei_take 97)
set_option maxRecDepth 8000 in
theorem ei_more {α : Type} {el : Rdr α} (h : EI el) : ∀ n, EI (moreR el n)
  | 0 => fun _ _ => rfl
  | n + 1 => fun ts e => by
    cases ts with
    | nil => rw [ter_nil]; simp only [moreR]; simp [mapR, ter_nil]
    | cons c r =>
      have h2 := EI.bind (rd2 := fun x ts e => bnd (moreR el n ts e) fun xs r3 => .ok (x :: xs, r3)) h (fun x => EI.map (fun xs => x :: xs) (ei_more h n)) r e
      rw [ter_cons]
      simp only [moreR]
      show (if c.t.k = 44 then _ else _) = _
      split
      · exact h2
      · simp [mapR, ter_cons]
set_option maxRecDepth 8000 in
theorem ei_some {α : Type} {el : Rdr α} (h : EI el) : EI (someR el) := fun ts e => by
  have h2 := EI.bind (rd2 := fun x ts2 e => bnd (moreR el ts.length ts2 e) fun xs r3 => .ok (x :: xs, r3)) h (fun x => EI.map (fun xs => x :: xs) (ei_more h _)) ts e
  unfold someR
  rw [TR.er_length]
  exact h2
set_option maxRecDepth 8000 in
theorem ei_opt {α : Type} {el : Rdr α} (h : EI el) : EI (optR el) := fun ts e => by
  cases ts with
  | nil => rw [ter_nil]; simp [optR, mapR, ter_nil]
  | cons x r =>
    have h2 := ei_some h (x :: r) e
    rw [ter_cons] at h2 ⊢
    simp only [optR]
    show (if x.t.k = 124 then _ else _) = _
    split
    · simp [mapR, ter_cons]
    · exact h2
set_option maxRecDepth 8000 in
theorem ei_within {α : Type} {rd : Rdr α} (k : Nat) (h : EI rd) : EI (withinR k rd) := fun ts e => by
  cases ts with
  | nil => rw [ter_nil]; rfl
  | cons x r =>
    rw [ter_cons]
    simp only [withinR]
    show (if x.t.k = k then bnd (rd (TR.er x.ks) x.e) _ else _) = _
    split
    · rw [h x.ks x.e]
      cases rd x.ks x.e with
      | error p => rfl
      | ok ar =>
        obtain ⟨a, r2⟩ := ar
        cases r2 with
        | nil => simp [bnd, mapR, ter_nil]
        | cons y r3 => simp [bnd, mapR, ter_cons]; rfl
    · rfl
set_option maxRecDepth 8000 in
theorem ei_set : EI setR := ei_within 123 (ei_opt ei_name)
set_option maxRecDepth 8000 in
theorem ei_names : EI namesR := ei_within 123 (ei_some ei_name)
set_option maxRecDepth 8000 in
theorem ei_rule : EI ruleR := by
  have h1 : ∀ w : Wd, EI (fun ts e => bnd (takeR 58 ts e) fun _ r2 => bnd (setR r2 e) fun ws r3 => .ok (nd 6 w.p w.s ws [], r3)) := fun w =>
    EI.bind (rd2 := fun _ ts e => bnd (setR ts e) fun ws r3 => .ok (nd 6 w.p w.s ws [], r3)) (ei_take 58) fun _ => EI.map (fun ws => nd 6 w.p w.s ws []) ei_set
  have h2 := EI.bind (rd2 := fun w ts e => bnd (takeR 58 ts e) fun _ r2 => bnd (setR r2 e) fun ws r3 => .ok (nd 6 w.p w.s ws [], r3)) ei_name h1
  exact h2
set_option maxRecDepth 8000 in
theorem ei_const : ∀ d, EI (constR d)
  | 0 => fun _ _ => rfl
  | d + 1 => fun ts e => by
    cases ts with
    | nil => rw [ter_nil]; rfl
    | cons x r =>
      have h1 := (EI.map (fun ws => nd 3 x.t.p e0 ws []) ei_set) (x :: r) e
      have h2 := (EI.map (fun ks => nd 4 x.t.p e0 [] ks) (ei_within 40 (ei_some (ei_const d)))) (x :: r) e
      have h3 := (EI.map (fun ks => nd 5 x.t.p e0 [] ks) (ei_within 91 (ei_opt ei_rule))) (x :: r) e
      rw [ter_cons] at h1 h2 h3 ⊢
      simp only [constR]
      show (if x.t.k = 97 then _ else if x.t.k = 123 then _ else if x.t.k = 40 then _ else if x.t.k = 91 then _ else _) = _
      split
      · rfl
      · split
        · exact h1
        · split
          · exact h2
          · split
            · exact h3
            · rfl
set_option maxRecDepth 8000 in
theorem ei_var : EI varR := EI.map (fun w : Wd => nd 1 w.p w.s [] []) ei_name
set_option maxRecDepth 8000 in
theorem ei_atom (d : Nat) : EI (atomR d) := fun ts e => by
  cases ts with
  | nil => rw [ter_nil]; rfl
  | cons x r =>
    have h1 := (EI.map (fun n => nd 7 x.t.p e0 [] [n]) (ei_const d)) r e
    have h2 := ei_var (x :: r) e
    rw [ter_cons] at h2 ⊢
    simp only [atomR]
    show (if x.t.k = 35 then _ else _) = _
    split
    · exact h1
    · exact h2
set_option maxRecDepth 8000 in
theorem ei_label : ∀ d, EI (labelR d)
  | 0 => fun _ _ => rfl
  | d + 1 => fun ts e => by
    cases ts with
    | nil => rw [ter_nil]; rfl
    | cons x r =>
      have h1 := (EI.map (fun ks => nd 8 x.t.p e0 [] ks) (ei_within 40 (ei_some (ei_label d)))) r e
      have h2 := (EI.map (fun ks => nd 9 x.t.p e0 [] ks) (ei_within 40 (ei_some (ei_label d)))) r e
      have h3 := ei_atom (d + 1) (x :: r) e
      rw [ter_cons] at h3 ⊢
      simp only [labelR]
      show (if x.t.k = 43 then _ else if x.t.k = 38 then _ else _) = _
      split
      · exact h1
      · split
        · exact h2
        · exact h3
set_option maxRecDepth 8000 in
theorem ei_field (d : Nat) : EI (fieldR d) := by
  have h1 : ∀ w : Wd, EI (fun ts e => bnd (takeR 61 ts e) fun _ r2 => bnd (atomR d r2 e) fun n r3 => .ok (nd 11 w.p w.s [] [n], r3)) := fun w =>
    EI.bind (rd2 := fun _ ts e => bnd (atomR d ts e) fun n r3 => .ok (nd 11 w.p w.s [] [n], r3)) (ei_take 61) fun _ => EI.map (fun n => nd 11 w.p w.s [] [n]) (ei_atom d)
  have h2 := EI.bind (rd2 := fun w ts e => bnd (takeR 61 ts e) fun _ r2 => bnd (atomR d r2 e) fun n r3 => .ok (nd 11 w.p w.s [] [n], r3)) ei_name h1
  exact h2
set_option maxRecDepth 8000 in
theorem ei_tail (ks : List Nd) : EI (tailR ks) := fun ts e => by
  cases ts with
  | nil => rw [ter_nil]; simp [tailR, mapR, ter_nil]
  | cons x r =>
    have h1 := (EI.map (fun w : Wd => (ks, [w])) ei_name) r e
    rw [ter_cons]
    simp only [tailR]
    show (if x.t.k = 124 then _ else _) = _
    split
    · exact h1
    · simp [mapR, ter_cons]
set_option maxRecDepth 8000 in
theorem ei_inrow (d : Nat) : EI (inrowR d) := EI.bind (rd2 := fun ks ts e => tailR ks ts e) (ei_opt (ei_field d)) fun ks => ei_tail ks
set_option maxRecDepth 8000 in
theorem ei_row (d : Nat) : EI (rowR d) := fun ts e => by
  cases ts with
  | nil => rw [ter_nil]; rfl
  | cons x r =>
    have h1 := (EI.map (fun kw : List Nd × List Wd => nd 10 x.t.p e0 kw.2 kw.1) (ei_within 91 (ei_inrow d))) (x :: r) e
    have h2 := ei_var (x :: r) e
    rw [ter_cons] at h1 h2 ⊢
    simp only [rowR]
    show (if x.t.k = 91 then _ else _) = _
    split
    · exact h1
    · exact h2
set_option maxRecDepth 8000 in
theorem rest_zero (l : List Tr) : rest l 0 = l := by simp [rest]
/-- The trees of a line. -/
def trOf (s : ByteArray) : List Tr := match scan s 0 [] with
  | .error _ => []
  | .ok R => match parse R with
    | .error _ => []
    | .ok ts => ts
set_option maxRecDepth 8000 in
theorem kids_few : ∀ l, ∀ x ∈ nodes l, x.ks.length ≤ (nodes l).length := by
  refine TR.ind (fun x hx => by simp [nodes] at hx) fun t A c ks e r h1 h2 x hx => ?_
  rw [nodes] at hx ⊢
  simp only [List.length_cons, List.length_append]
  rcases List.mem_cons.1 hx with rfl | hx
  · have := length_nodes ks
    show ks.length ≤ _
    omega
  · rcases List.mem_append.1 hx with hx | hx
    · have := h1 x hx; omega
    · have := h2 x hx; omega
set_option maxRecDepth 8000 in
theorem sub_pos {s : ByteArray} {i k e : Nat} (h : i < s.size) (hs : st s i = .tok k e) : i < e ∧ e ≤ s.size := st_tok h hs
set_option maxRecDepth 8000 in
theorem scan_few {s : ByteArray} (i : Nat) : ∀ (acc R : List Tk), scan s i acc = .ok R → i ≤ s.size → R.length ≤ acc.length + (s.size - i) := by
  induction i using scan_induct (s := s) with
  | h i ih =>
    intro acc R hR hi
    by_cases hlt : i < s.size
    · cases hst : st s i with
      | skip =>
        rw [scan_skip acc hlt hst] at hR
        have := ih (i + 1) (by omega) acc R hR (by omega)
        omega
      | stop =>
        rw [scan_stop acc hlt hst] at hR
        injection hR with hR
        subst hR
        omega
      | bad => rw [scan_bad acc hlt hst] at hR; cases hR
      | tok k e =>
        rw [scan_tok acc hlt hst] at hR
        have he := st_tok hlt hst
        have := ih e he.1 _ R hR he.2
        rw [List.length_append, List.length_singleton] at this
        omega
    · rw [scan_end acc hlt] at hR
      injection hR with hR
      subst hR
      omega
  | hend i hi =>
    intro acc R hR _
    rw [scan_end acc hi] at hR
    injection hR with hR
    subst hR
    omega
set_option maxRecDepth 8000 in
theorem trOf_ok {s : ByteArray} {R : List Tk} {ts : List Tr} (hs : scan s 0 [] = .ok R) (hp : parse R = .ok ts) : trOf s = ts := by
  unfold trOf; rw [hs]; simp only; rw [hp]
set_option maxRecDepth 8000 in
theorem trOf_bad {s : ByteArray} {p : Nat} (hs : scan s 0 [] = .error p) : trOf s = [] := by unfold trOf; rw [hs]
set_option maxRecDepth 8000 in
theorem trOf_bad2 {s : ByteArray} {R : List Tk} {p : Int} (hs : scan s 0 [] = .ok R) (hp : parse R = .error p) : trOf s = [] := by
  unfold trOf; rw [hs]; simp only; rw [hp]
set_option maxRecDepth 8000 in
theorem trOf_few (s : ByteArray) : (nodes (trOf s)).length ≤ s.size := by
  cases hs : scan s 0 [] with
  | error p => rw [trOf_bad hs]; simp [nodes]
  | ok R =>
    have h1 := scan_few 0 [] R hs (Nat.zero_le _)
    cases hp : parse R with
    | error p => rw [trOf_bad2 hs hp]; simp [nodes]
    | ok ts =>
      rw [trOf_ok hs hp]
      have h2 := spells_length (parse_spells hp).1
      simp only [List.length_nil, Nat.zero_add, Nat.sub_zero] at h1
      omega
end TM
open Go.RowKit LX TR TM
set_option maxRecDepth 8000 in
set_option maxHeartbeats 800000 in
theorem trees10_any (s : ByteArray) (w : World) (hl : s.size ≤ 1073741824) :
    Calls Try.prog 28 #[.string s] w fun e w' => Below w.heap.size w w' ∧ ∃ X d us, e = .returned (.slice X us.length d) ∧ TR.er us = trOf s ∧ us.length ≤ d ∧ Trs w' w'.heap.size X us := by
  have HR := Lib.hid (fun W => refRead8_any s W (by omega))
  cases hs : scan s 0 [] with
  | error p =>
    have HT := Lib.hid (trOf_bad hs)
    have HP : Hid (∀ W c, Calls Try.prog 24 #[.slice none 0 c] W (Rt W.heap.size (parse []) · W ·)) := fun W c => refRead9_any none c [] W (by simp) (Toks.nil _ _)
    rw [hs] at HR
    clear hs
    go_enter Try.func28, Try.ntmps28
    go_wp2_with fail
    refine (HR.out _).mono ?_
    rintro e w1 ⟨hb1, rfl⟩
    have HB1 := Lib.hid (hb1.alloc hb1.size (.cells #[.int .i64 1, .int .i64 p] 27))
    clear hb1
    go_wp2_with fail
    refine (HP.out _ _).mono ?_
    rintro e w2 ⟨hb2, h2⟩
    have h2' : ∃ X d us, e = .returned (.tuple #[.slice X us.length d, .agg #[.int .i64 0, .int .i64 0]]) ∧ TR.er us = [] ∧ us.length ≤ d ∧ Trs w2 w2.heap.size X us := h2
    obtain ⟨X, d, us, rfl, hus, hd, htr⟩ := h2'
    have HB2 := Lib.hid ((HB1.out.trans (hb2.mono HB1.out.size)).alloc (Nat.le_trans HB1.out.size hb2.size) (.cells #[.int .i64 0, .int .i64 0] 27))
    have HTR := Lib.hid (Trs.mono (htr.below ((Below.refl _ _).alloc (Nat.le_refl _) (.cells #[.int .i64 0, .int .i64 0] 27))) (show w2.heap.size ≤ (w2.alloc (.cells #[.int .i64 0, .int .i64 0] 27)).heap.size by simp))
    have HUS := Lib.hid hus
    clear hb2 h2 htr hus
    go_wp2_with fail
    go_ret
    exact ⟨HB2.out, X, d, us, rfl, by rw [HT.out, HUS.out], hd, HTR.out⟩
  | ok R =>
    have hR := scan_few 0 [] R hs (Nat.zero_le _)
    simp only [List.length_nil, Nat.zero_add, Nat.sub_zero] at hR
    have HP := Lib.hid (fun A W c (h : Toks W A R) => refRead9_any A c R W (by omega) h)
    rw [hs] at HR
    have HRR : Hid (∀ W, Calls Try.prog 23 #[.string s] W fun e w' => Below W.heap.size W w' ∧ ∃ A c, e = .returned (.tuple #[.slice A R.length c, .agg #[.int .i64 0, .int .i64 0]]) ∧ w'.ownsRow W.heap.size 55 3 (.slice A R.length c) R.length (tkcells R)) := HR.out
    clear HR
    have HQQ : Hid (∀ p, parse R = .error p → trOf s = []) := fun p h => trOf_bad2 hs h
    have HQ2 : Hid (∀ ts, parse R = .ok ts → trOf s = ts) := fun p h => trOf_ok hs h
    clear hs hR
    generalize hn : R.length = n at *
    have HN := Lib.hid hn; clear hn
    go_enter Try.func28, Try.ntmps28
    go_wp2_with fail
    refine (HRR.out _).mono ?_
    rintro e w1 ⟨hb1, A, c, rfl, hown⟩
    have HT1 : Hid (Toks (w1.alloc (.cells #[.int .i64 0, .int .i64 0] 27)) A R) := Toks.alloc (Sl.of_own hown) _
    have HB1 := Lib.hid (hb1.alloc hb1.size (.cells #[.int .i64 0, .int .i64 0] 27))
    clear hb1 hown
    go_wp2_with fail
    refine (HP.out A _ c HT1.out).mono ?_
    rintro e w2 ⟨hb2, h2⟩
    cases hp : parse R with
    | error p =>
      rw [hp] at h2
      have h2' : e = .returned (.tuple #[.slice none 0 0, .agg #[.int .i64 2, .int .i64 p]]) := h2
      subst h2'
      have HT := Lib.hid (HQQ.out p hp)
      have HB2 := Lib.hid ((HB1.out.trans (hb2.mono HB1.out.size)).alloc (Nat.le_trans HB1.out.size hb2.size) (.cells #[.int .i64 2, .int .i64 p] 27))
      clear hb2 h2 hp
      go_wp2_with fail
      go_ret
      exact ⟨HB2.out, none, 0, [], rfl, by rw [HT.out]; exact ter_nil, Nat.le_refl _, Trs.nil _ _ _⟩
    | ok ts =>
      rw [hp] at h2
      have h2' : ∃ X d us, e = .returned (.tuple #[.slice X us.length d, .agg #[.int .i64 0, .int .i64 0]]) ∧ TR.er us = ts ∧ us.length ≤ d ∧ Trs w2 w2.heap.size X us := h2
      obtain ⟨X, d, us, rfl, hus, hd, htr⟩ := h2'
      have HT := Lib.hid (HQ2.out ts hp)
      have HB2 := Lib.hid ((HB1.out.trans (hb2.mono HB1.out.size)).alloc (Nat.le_trans HB1.out.size hb2.size) (.cells #[.int .i64 0, .int .i64 0] 27))
      have HTR := Lib.hid (Trs.mono (htr.below ((Below.refl _ _).alloc (Nat.le_refl _) (.cells #[.int .i64 0, .int .i64 0] 27))) (show w2.heap.size ≤ (w2.alloc (.cells #[.int .i64 0, .int .i64 0] 27)).heap.size by simp))
      have HUS := Lib.hid hus
      clear hb2 h2 htr hus hp
      go_wp2_with fail
      go_ret
      exact ⟨HB2.out, X, d, us, rfl, by rw [HT.out, HUS.out], hd, HTR.out⟩
end Go.Proofs.Ytapnefhmonpgdaa

/-
  The chapter's example. Conditions: none.
-/
namespace Go.Proofs.Ytapnefhmonpgdaa
open Go.RowKit LX TR TM

def exA : ByteArray := ⟨#[43, 40, 120, 44, 35, 123, 97, 44, 98, 125, 41]⟩
def exAToks : List Tk := [⟨43, ⟨#[43]⟩, 0⟩, ⟨40, ⟨#[40]⟩, 1⟩, ⟨97, ⟨#[120]⟩, 2⟩, ⟨44, ⟨#[44]⟩, 3⟩, ⟨35, ⟨#[35]⟩, 4⟩, ⟨123, ⟨#[123]⟩, 5⟩, ⟨97, ⟨#[97]⟩, 6⟩, ⟨44, ⟨#[44]⟩, 7⟩, ⟨97, ⟨#[98]⟩, 8⟩, ⟨125, ⟨#[125]⟩, 9⟩, ⟨41, ⟨#[41]⟩, 10⟩]
def exATrees : List Tr := [.mk ⟨43, ⟨#[43]⟩, 0⟩ none 0 [] 0, .mk ⟨40, ⟨#[40]⟩, 1⟩ none 0 [.mk ⟨97, ⟨#[120]⟩, 2⟩ none 0 [] 2, .mk ⟨44, ⟨#[44]⟩, 3⟩ none 0 [] 3, .mk ⟨35, ⟨#[35]⟩, 4⟩ none 0 [] 4, .mk ⟨123, ⟨#[123]⟩, 5⟩ none 0 [.mk ⟨97, ⟨#[97]⟩, 6⟩ none 0 [] 6, .mk ⟨44, ⟨#[44]⟩, 7⟩ none 0 [] 7, .mk ⟨97, ⟨#[98]⟩, 8⟩ none 0 [] 8] 9] 10]
def exB : ByteArray := ⟨#[43, 40, 41]⟩
def exBToks : List Tk := [⟨43, ⟨#[43]⟩, 0⟩, ⟨40, ⟨#[40]⟩, 1⟩, ⟨41, ⟨#[41]⟩, 2⟩]
def exBTrees : List Tr := [.mk ⟨43, ⟨#[43]⟩, 0⟩ none 0 [] 0, .mk ⟨40, ⟨#[40]⟩, 1⟩ none 0 [] 2]
def exC : ByteArray := ⟨#[91, 102, 61, 120, 44, 103, 61, 35, 104, 105, 124, 114, 93]⟩
def exCToks : List Tk := [⟨91, ⟨#[91]⟩, 0⟩, ⟨97, ⟨#[102]⟩, 1⟩, ⟨61, ⟨#[61]⟩, 2⟩, ⟨97, ⟨#[120]⟩, 3⟩, ⟨44, ⟨#[44]⟩, 4⟩, ⟨97, ⟨#[103]⟩, 5⟩, ⟨61, ⟨#[61]⟩, 6⟩, ⟨35, ⟨#[35]⟩, 7⟩, ⟨97, ⟨#[104, 105]⟩, 8⟩, ⟨124, ⟨#[124]⟩, 10⟩, ⟨97, ⟨#[114]⟩, 11⟩, ⟨93, ⟨#[93]⟩, 12⟩]
def exCTrees : List Tr := [.mk ⟨91, ⟨#[91]⟩, 0⟩ none 0 [.mk ⟨97, ⟨#[102]⟩, 1⟩ none 0 [] 1, .mk ⟨61, ⟨#[61]⟩, 2⟩ none 0 [] 2, .mk ⟨97, ⟨#[120]⟩, 3⟩ none 0 [] 3, .mk ⟨44, ⟨#[44]⟩, 4⟩ none 0 [] 4, .mk ⟨97, ⟨#[103]⟩, 5⟩ none 0 [] 5, .mk ⟨61, ⟨#[61]⟩, 6⟩ none 0 [] 6, .mk ⟨35, ⟨#[35]⟩, 7⟩ none 0 [] 7, .mk ⟨97, ⟨#[104, 105]⟩, 8⟩ none 0 [] 8, .mk ⟨124, ⟨#[124]⟩, 10⟩ none 0 [] 10, .mk ⟨97, ⟨#[114]⟩, 11⟩ none 0 [] 11] 12]
def exANode : Nd := nd 8 0 e0 [] [nd 1 2 ⟨#[120]⟩ [] [], nd 7 4 e0 [] [nd 3 5 e0 [⟨⟨#[97]⟩, 6⟩, ⟨⟨#[98]⟩, 8⟩] []]]
def exCNode : Nd := nd 10 0 e0 [⟨⟨#[114]⟩, 11⟩] [nd 11 1 ⟨#[102]⟩ [] [nd 1 3 ⟨#[120]⟩ [] []], nd 11 5 ⟨#[103]⟩ [] [nd 7 7 e0 [] [nd 2 8 ⟨#[104, 105]⟩ [] []]]]
set_option maxRecDepth 8000 in
theorem exA_tr : trOf exA = exATrees := trOf_ok (R := exAToks) (by kernel_rfl) (by rfl)
set_option maxRecDepth 8000 in
theorem exB_tr : trOf exB = exBTrees := trOf_ok (R := exBToks) (by kernel_rfl) (by rfl)
set_option maxRecDepth 8000 in
theorem exC_tr : trOf exC = exCTrees := trOf_ok (R := exCToks) (by kernel_rfl) (by rfl)
set_option maxRecDepth 8000 in
theorem exA_rd : labelR 21 exATrees 20 = .ok (exANode, []) := by rfl
set_option maxRecDepth 8000 in
theorem exB_rd : labelR 21 exBTrees 20 = .error 2 := by rfl
set_option maxRecDepth 8000 in
theorem exC_rd : rowR 21 exCTrees 20 = .ok (exCNode, []) := by rfl
set_option maxRecDepth 8000 in
theorem exC_tx : text10 exCNode = ⟨#[91, 102, 61, 120, 44, 103, 61, 35, 104, 105, 124, 114, 93]⟩ := by simp [text10, tx, exCNode, nd, txs, tx1, wtx, Nd.k, Nd.s, Nd.ws, Nd.ks, lst, jc, jt, e0]
set_option maxRecDepth 8000 in
theorem exC_cnt : cnt [exCNode] ≤ 100 := by simp [cnt, exCNode, nd]
set_option maxRecDepth 8000 in
theorem exA_n : (nodes exATrees).length ≤ 20 := by simp [nodes, exATrees]
set_option maxRecDepth 8000 in
theorem exB_n : (nodes exBTrees).length ≤ 20 := by simp [nodes, exBTrees]
set_option maxRecDepth 8000 in
theorem exC_n : (nodes exCTrees).length ≤ 20 := by simp [nodes, exCTrees]
set_option maxRecDepth 8000 in
theorem handed_ok {s : Nat} {rd : Rdr Nd} {us ts : List Tr} {e : Int} {v : Value} {w : World} {x : Nd} {rs : List Tr} (h : Handed s rd us 0 e v w) (hE : EI rd) (hu : TR.er us = ts) (hr : rd ts e = .ok (x, rs)) :
    ∃ z, ∃ m : Nat, v = .tuple #[.agg (nv z), .int .i64 (m : Int), .agg #[.int .i64 0, .int .i64 0]] ∧ er1 z = x ∧ DeepN w (fun k => s ≤ k) [z] ∧ m ≤ us.length ∧ rs = TR.er (us.drop m) := by
  have h1 := hE us e
  rw [hu, hr] at h1
  unfold Handed at h
  rw [rest_zero] at h
  cases hq : rd us e with
  | error p => rw [hq] at h1; cases h1
  | ok yr =>
    obtain ⟨y, r⟩ := yr
    rw [hq] at h h1
    simp only [mapR, Except.ok.injEq, Prod.mk.injEq] at h1
    obtain ⟨rfl, rfl⟩ := h1
    obtain ⟨z, i2, rfl, hz, hd, ha, rfl⟩ := h
    obtain ⟨m, rfl, hm, hd2⟩ := ha.drop
    rw [rest_zero] at hm hd2
    rw [Int.zero_add] at hd2 ⊢
    exact ⟨z, m, rfl, hz, hd, hm, by rw [hd2]⟩
set_option maxRecDepth 8000 in
theorem handed_err {s : Nat} {rd : Rdr Nd} {us ts : List Tr} {e : Int} {v : Value} {w : World} {p : Int} (h : Handed s rd us 0 e v w) (hE : EI rd) (hu : TR.er us = ts) (hr : rd ts e = .error p) :
    v = .tuple #[.agg (nv n0), .int .i64 0, .agg #[.int .i64 2, .int .i64 p]] := by
  have h1 := hE us e
  rw [hu, hr] at h1
  unfold Handed at h
  rw [rest_zero] at h
  cases hq : rd us e with
  | error q =>
    rw [hq] at h h1
    simp only [mapR, Except.error.injEq] at h1
    rw [h, h1]
  | ok yr => obtain ⟨y, r⟩ := yr; rw [hq] at h1; cases h1
set_option maxRecDepth 8000 in
theorem small_trees {us ts : List Tr} {N : Nat} (hu : TR.er us = ts) (hn : (nodes ts).length ≤ N) (hN : N ≤ 2199023255552) : (us.length ≤ 2199023255552 ∧ ∀ x ∈ nodes us, x.ks.length ≤ 2199023255552) ∧ (nodes (rest us 0)).length ≤ N := by
  have h1 : (nodes us).length ≤ N := by rw [← TR.nodes_er, hu]; exact hn
  have h2 := length_nodes us
  refine ⟨⟨by omega, fun x hx => by have := kids_few us x hx; omega⟩, by rw [rest_zero]; exact h1⟩
set_option maxRecDepth 8000 in
theorem len_er {us ts : List Tr} {m k : Nat} (hu : TR.er us = ts) (h : [] = TR.er (us.drop m)) (hm : m ≤ us.length) (hk : ts.length = k) : m = k := by
  have h1 := congrArg List.length h
  rw [TR.er_length, List.length_drop] at h1
  have h2 := congrArg List.length hu
  rw [TR.er_length] at h2
  simp only [List.length_nil] at h1
  omega
set_option maxRecDepth 100000 in
set_option maxHeartbeats 6400000 in
theorem alive10_any (w : World) :
    Calls Try.prog 8 #[] w fun e w' => e = .returned (.bool true) ∧ Below w.heap.size w w' := by
  have HP1 := Lib.hid (fun W => trees10_any exA W (by decide))
  have HP2 := Lib.hid (fun W => trees10_any exB W (by decide))
  have HP3 := Lib.hid (fun W => trees10_any exC W (by decide))
  unfold exA at HP1
  unfold exB at HP2
  unfold exC at HP3
  go_enter Try.func8, Try.ntmps8
  go_wp2_with fail
  refine (HP1.out _).mono ?_
  rintro e w1 ⟨hb1, X1, d1, us1, rfl, hu1, hc1, ht1⟩
  have hu1' := hu1.trans exA_tr
  have hsm := small_trees (N := 20) hu1' exA_n (by decide)
  have HL1 := Lib.hid (label_call 20 (by decide) X1 d1 us1 0 20 w1 ht1 hsm.1 hsm.2)
  have HB1 := Lib.hid hb1
  have HU1 := Lib.hid hu1'
  clear hb1 hu1 hu1' ht1 hsm
  go_wp2_with fail
  refine HL1.out.mono ?_
  rintro e w2 ⟨v, rfl, hh, hb2⟩
  obtain ⟨z, m, rfl, hz, _, hm, hr⟩ := handed_ok hh (ei_label 21) HU1.out exA_rd
  obtain rfl : m = 2 := len_er HU1.out hr hm rfl
  obtain ⟨zk, zp, zs, zA, zc, zw, zB, zd, zz⟩ := z
  have hk8 : zk = 8 := congrArg Nd.k hz
  have hz2 : zz.length = 2 := by
    have h := congrArg (fun x : Nd => x.ks.length) hz
    have h2 : (TM.er zz).length = 2 := h
    rw [TM.er_length] at h2
    exact h2
  subst hk8
  have HB2 := Lib.hid (HB1.out.trans (hb2.mono HB1.out.size))
  unfold nv
  simp only [Nd.k, Nd.p, Nd.s, Nd.A, Nd.c, Nd.ws, Nd.B, Nd.d, Nd.ks, hz2]
  clear hh hb2 hz hr hm HL1 hz2
  have hbw3 : Below w2.heap.size w2 ((w2.alloc (.cells #[.int .i64 8, .int .i64 zp, .string zs, .slice zA zw.length zc, .slice zB 2 zd] 32)).alloc (.cells #[.int .i64 0, .int .i64 0] 27)) := ((Below.refl _ _).alloc (Nat.le_refl _) _).alloc (by simp) _
  have HA3 := Lib.hid ((RowAt.new w2 32 #[.int .i64 8, .int .i64 zp, .string zs, .slice zA zw.length zc, .slice zB 2 zd]).alloc (.cells #[.int .i64 0, .int .i64 0] 27))
  have hf3 := RowAt.new (w2.alloc (.cells #[.int .i64 8, .int .i64 zp, .string zs, .slice zA zw.length zc, .slice zB 2 zd] 32)) 27 #[.int .i64 0, .int .i64 0]
  rw [show (w2.alloc (.cells #[.int .i64 8, .int .i64 zp, .string zs, .slice zA zw.length zc, .slice zB 2 zd] 32)).heap.size = w2.heap.size + 1 by simp] at hf3
  have HF3 := Lib.hid hf3
  have HB3 := Lib.hid (HB2.out.trans (hbw3.mono HB2.out.size))
  clear hbw3 hf3
  go_upto_region 2 with fail
  generalize ((w2.alloc (.cells #[.int .i64 8, .int .i64 zp, .string zs, .slice zA zw.length zc, .slice zB 2 zd] 32)).alloc (.cells #[.int .i64 0, .int .i64 0] 27)) = w3 at *
  go_wp2_with fail
  refine (HP2.out _).mono ?_
  rintro e w4 ⟨hb4, X2, d2, us2, rfl, hu2, hc2, ht2⟩
  have hu2' := hu2.trans exB_tr
  have hsm := small_trees (N := 20) hu2' exB_n (by decide)
  have HL2 := Lib.hid (label_call 20 (by decide) X2 d2 us2 0 20 w4 ht2 hsm.1 hsm.2)
  have HA4 := Lib.hid (HA3.out.below hb4 HA3.out.lt)
  have HF4 := Lib.hid (HF3.out.below hb4 HF3.out.lt)
  have HB4 := Lib.hid (HB3.out.trans (hb4.mono HB3.out.size))
  have HU2 := Lib.hid hu2'
  clear hb4 hu2 hu2' ht2 hsm HA3 HF3 HB3
  go_wp2_with fail
  refine HL2.out.mono ?_
  rintro e w5 ⟨v, rfl, hh, hb5⟩
  obtain rfl := handed_err hh (ei_label 21) HU2.out exB_rd
  have HA5 := Lib.hid (HA4.out.below hb5 HA4.out.lt)
  have HF5 := Lib.hid (HF4.out.below hb5 HF4.out.lt)
  have HB5 := Lib.hid (HB4.out.trans (hb5.mono HB4.out.size))
  have hz5 : w2.heap.size + 1 < w5.heap.size := HF5.out.lt
  rw [show nv n0 = #[.int .i64 0, .int .i64 0, .string ⟨#[]⟩, .slice none 0 0, .slice none 0 0] from rfl]
  clear hh hb5 HL2 HA4 HF4 HB4
  have hbw6 : Below w5.heap.size w5 ((w5.alloc (.cells #[.int .i64 0, .int .i64 0, .string ⟨#[]⟩, .slice none 0 0, .slice none 0 0] 32)).alloc (.cells #[.int .i64 2, .int .i64 2] 27)) := ((Below.refl _ _).alloc (Nat.le_refl _) _).alloc (by simp) _
  have HA6 := Lib.hid ((RowAt.new w5 32 #[.int .i64 0, .int .i64 0, .string ⟨#[]⟩, .slice none 0 0, .slice none 0 0]).alloc (.cells #[.int .i64 2, .int .i64 2] 27))
  have hf6 := RowAt.new (w5.alloc (.cells #[.int .i64 0, .int .i64 0, .string ⟨#[]⟩, .slice none 0 0, .slice none 0 0] 32)) 27 #[.int .i64 2, .int .i64 2]
  rw [show (w5.alloc (.cells #[.int .i64 0, .int .i64 0, .string ⟨#[]⟩, .slice none 0 0, .slice none 0 0] 32)).heap.size = w5.heap.size + 1 by simp] at hf6
  have HF6 := Lib.hid hf6
  have HB6 := Lib.hid (HB5.out.trans (hbw6.mono HB5.out.size))
  have HA6z := Lib.hid (HA5.out.below hbw6 HA5.out.lt)
  have HF6z := Lib.hid (HF5.out.below hbw6 HF5.out.lt)
  clear hbw6 hf6
  go_upto_region 3 with fail
  generalize ((w5.alloc (.cells #[.int .i64 0, .int .i64 0, .string ⟨#[]⟩, .slice none 0 0, .slice none 0 0] 32)).alloc (.cells #[.int .i64 2, .int .i64 2] 27)) = w6 at *
  go_wp2_with fail
  refine (HP3.out _).mono ?_
  rintro e w7 ⟨hb7, X3, d3, us3, rfl, hu3, hc3, ht3⟩
  have hu3' := hu3.trans exC_tr
  have hsm := small_trees (N := 20) hu3' exC_n (by decide)
  have HL3 := Lib.hid (row_call 20 (by decide) X3 d3 us3 0 20 w7 ht3 hsm.1 hsm.2)
  have HA7 := Lib.hid (HA6z.out.below hb7 HA6z.out.lt)
  have HF7 := Lib.hid (HF6z.out.below hb7 HF6z.out.lt)
  have HG7 := Lib.hid (HF6.out.below hb7 HF6.out.lt)
  have HB7 := Lib.hid (HB6.out.trans (hb7.mono HB6.out.size))
  have HU3 := Lib.hid hu3'
  clear hb7 hu3 hu3' ht3 hsm HA6 HF6 HB6 HA6z HF6z
  go_wp2_with fail
  refine HL3.out.mono ?_
  rintro e w8 ⟨v, rfl, hh, hb8⟩
  obtain ⟨y, m, rfl, hy, hdy, hm, hr⟩ := handed_ok hh (ei_row 21) HU3.out exC_rd
  have htx : text10 y = ⟨#[91, 102, 61, 120, 44, 103, 61, 35, 104, 105, 124, 114, 93]⟩ := by
    rw [← exC_tx, ← hy]; unfold text10; rw [tx_er]
  have hcn : cnt [y] ≤ 100 := by
    have h := cnt_er [y]
    rw [er_one, hy] at h
    rw [← h]; exact exC_cnt
  have hlx : (tx y).length ≤ 140737488355328 := by
    have h := congrArg ByteArray.size htx
    have h2 : (text10 y).size = (tx y).length := by unfold text10; simp [ByteArray.size]
    rw [h2] at h
    rw [h]; decide
  have HA8 := Lib.hid (HA7.out.below hb8 HA7.out.lt)
  have HF8 := Lib.hid (HF7.out.below hb8 HF7.out.lt)
  have HG8 := Lib.hid (HG7.out.below hb8 HG7.out.lt)
  have HB8 := Lib.hid (HB7.out.trans (hb8.mono HB7.out.size))
  have hz8 : w5.heap.size + 1 < w8.heap.size := HG8.out.lt
  have HTX := Lib.hid (fun W (h : Below w8.heap.size w8 W) => text_any y W (by omega) hlx ((hdy.nods.below h).mono h.size))
  rw [htx] at HTX
  clear hh hb8 hy hdy hm hr htx hlx hcn HL3 HA7 HF7 HG7 HB7
  obtain ⟨yk, yp, ys, yA, yc, yw, yB, yd, yz⟩ := y
  unfold nv at HTX ⊢
  simp only [Nd.k, Nd.p, Nd.s, Nd.A, Nd.c, Nd.ws, Nd.B, Nd.d, Nd.ks] at HTX ⊢
  have hbw9 : Below w8.heap.size w8 ((w8.alloc (.cells #[.int .i64 yk, .int .i64 yp, .string ys, .slice yA yw.length yc, .slice yB yz.length yd] 32)).alloc (.cells #[.int .i64 0, .int .i64 0] 27)) := ((Below.refl _ _).alloc (Nat.le_refl _) _).alloc (by simp) _
  have HA9 := Lib.hid ((RowAt.new w8 32 #[.int .i64 yk, .int .i64 yp, .string ys, .slice yA yw.length yc, .slice yB yz.length yd]).alloc (.cells #[.int .i64 0, .int .i64 0] 27))
  have hf9 := RowAt.new (w8.alloc (.cells #[.int .i64 yk, .int .i64 yp, .string ys, .slice yA yw.length yc, .slice yB yz.length yd] 32)) 27 #[.int .i64 0, .int .i64 0]
  rw [show (w8.alloc (.cells #[.int .i64 yk, .int .i64 yp, .string ys, .slice yA yw.length yc, .slice yB yz.length yd] 32)).heap.size = w8.heap.size + 1 by simp] at hf9
  have HF9 := Lib.hid hf9
  have HB9 := Lib.hid (HB8.out.trans (hbw9.mono HB8.out.size))
  have HA9z := Lib.hid (HA8.out.below hbw9 HA8.out.lt)
  have HF9z := Lib.hid (HF8.out.below hbw9 HF8.out.lt)
  have HG9z := Lib.hid (HG8.out.below hbw9 HG8.out.lt)
  have HT9 := Lib.hid (HTX.out _ hbw9)
  clear hbw9 hf9 HTX
  go_upto_region 4 with fail
  generalize ((w8.alloc (.cells #[.int .i64 yk, .int .i64 yp, .string ys, .slice yA yw.length yc, .slice yB yz.length yd] 32)).alloc (.cells #[.int .i64 0, .int .i64 0] 27)) = w9 at *
  obtain ⟨a0, a1, a2, a3, a4, _, _, _, _, _⟩ := row5 HA9z.out
  obtain ⟨f0, f1, _, _⟩ := row2 HF9z.out
  obtain ⟨g0, g1, _, _⟩ := row2 HG9z.out
  obtain ⟨y0, y1, y2, y3, y4, _, _, _, _, _⟩ := row5 HA9.out
  obtain ⟨k0, k1, _, _⟩ := row2 HF9.out
  go_wp2_with fail
  refine HT9.out.mono ?_
  rintro e wX ⟨rfl, hb⟩
  have HBX := Lib.hid (HB9.out.trans (hb.mono HB9.out.size))
  clear hb
  go_wp2_with fail
  go_ret
  exact ⟨rfl, HBX.out⟩
end Go.Proofs.Ytapnefhmonpgdaa
