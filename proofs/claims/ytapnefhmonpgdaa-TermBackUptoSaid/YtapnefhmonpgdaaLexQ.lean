/-
  What Same of package lex returns. Conditions: lists below 2^32 tokens.
-/
import Derived.Test.YtapnefhmonpgdaaLexP

import Derived.WalkMore
set_option linter.unusedSimpArgs false
set_option linter.unusedVariables false
namespace Go.Proofs.Ytapnefhmonpgdaa
open Go.RowKit LX

end Go.Proofs.Ytapnefhmonpgdaa

/-
  The text of tokens, by the program and by the document. Conditions: a text below 2^32 bytes.
-/
namespace Go.Proofs.Ytapnefhmonpgdaa
open Go.RowKit LX

namespace LX
def lw (b : Bool) : List Tk → Bool
  | [] => b
  | t :: l => lw (decide (t.k = 97)) l
set_option maxRecDepth 8000 in
theorem txt_app : ∀ (l m : List Tk) (b : Bool), txt b (l ++ m) = txt b l ++ txt (lw b l) m
  | [], _, _ => rfl
  | t :: l, m, b => by rw [List.cons_append, txt, txt, txt_app l m, lw]; simp
set_option maxRecDepth 8000 in
theorem lw_snoc : ∀ (l : List Tk) (b : Bool) (t : Tk), lw b (l ++ [t]) = decide (t.k = 97)
  | [], _, _ => rfl
  | u :: l, b, t => by rw [List.cons_append, lw, lw_snoc l]
def sepB (l : List Tk) (i : Nat) : Bool := decide (0 < i) && (decide ((l.getD (i - 1) t0).k = 97) && decide ((l.getD i t0).k = 97))
set_option maxRecDepth 8000 in
theorem take_snoc {l : List Tk} {i : Nat} (h : i < l.length) : l.take (i + 1) = l.take i ++ [l.getD i t0] := by
  rw [List.take_succ_eq_append_getElem h, List.getD_eq_getElem?_getD, List.getElem?_eq_getElem h]; rfl
set_option maxRecDepth 8000 in
theorem txt_take {l : List Tk} {i : Nat} (h : i < l.length) : txt false (l.take (i + 1)) = txt false (l.take i) ++ ((if sepB l i = true then [32] else []) ++ lst (l.getD i t0).s) := by
  rw [take_snoc h, txt_app]
  congr 1
  have hw : (lw false (l.take i) && decide ((l.getD i t0).k = 97)) = sepB l i := by
    unfold sepB
    by_cases h0 : 0 < i
    · obtain ⟨j, rfl⟩ : ∃ j, i = j + 1 := ⟨i - 1, by omega⟩
      rw [take_snoc (by omega), lw_snoc, decide_eq_true h0, Bool.true_and, Nat.add_sub_cancel]
    · have : i = 0 := by omega
      subst this
      rfl
  rw [txt, hw, txt]; simp
set_option maxRecDepth 8000 in
theorem txt_le (l : List Tk) (i : Nat) : (txt false (l.take i)).length ≤ (txt false l).length := by
  conv => rhs; rw [← List.take_append_drop i l, txt_app]
  rw [List.length_append]; omega
set_option maxRecDepth 8000 in
theorem app_eq (x : List UInt8) (s : ByteArray) : (⟨x.toArray⟩ : ByteArray) ++ s = ⟨(x ++ lst s).toArray⟩ := by
  cases s
  simp [lst, ← ByteArray.append_eq]
  rfl
set_option maxRecDepth 8000 in
theorem mk_size (x : List UInt8) : (⟨x.toArray⟩ : ByteArray).size = x.length := rfl
set_option maxRecDepth 8000 in
theorem is97 (k : Nat) : ((k : Int) == 97) = decide (k = 97) := by rw [Bool.eq_iff_iff]; simp; omega
end LX

set_option maxRecDepth 8000 in
set_option maxHeartbeats 400000 in
theorem refText_any (A : Option Addr) (c : Nat) (l : List Tk) (w : World) (hl : l.length ≤ 4294967296) (hs : (txt false l).length ≤ 4294967296) (hA : Toks w A l) :
    Calls Try.prog 29 #[.slice A l.length c] w fun e w' => e = .returned (.string (text l)) ∧ w = w' := by
  have HA := Lib.hid hA; clear hA
  have HT := Lib.hid (fun i (h : i < l.length) => txt_take h)
  have HLE := Lib.hid (txt_le l)
  have HE : Hid (text l = ⟨(txt false (l.take l.length)).toArray⟩) := by
    show text l = _
    rw [List.take_length]; rfl
  generalize hm : (txt false l).length = M at *
  clear hm
  generalize hn : l.length = n at *
  have HN := Lib.hid hn; clear hn
  go_enter Try.func29, Try.ntmps29
  go_wp2
  go_loop [3, 4] (fun sv iv => ∃ (i : Nat) (x : ByteArray), i ≤ n ∧ iv = .int .i64 i ∧ sv = .string x ∧ Hid (x = ⟨(txt false (l.take i)).toArray⟩)) (fun _ iv => n - (intOf iv).toNat)
  case atStart => exact ⟨0, _, by omega, rfl, rfl, rfl⟩
  case round =>
    obtain ⟨i, x, hi, rfl, rfl, HX⟩ := hrel
    by_cases hlt : i < n
    · obtain ⟨b, o, rfl, _, hc⟩ := HA.out.at (k := i) (by rw [HN.out]; exact hlt)
      obtain ⟨hc0, hc1, _⟩ := hc i (by rw [HN.out]; exact hlt)
      have HC := Lib.hid hc; clear hc
      have hxs : x.size ≤ 4294967296 := by rw [HX.out]; exact Nat.le_trans (HLE.out i) hs
      have HTI := Lib.hid (HT.out i hlt)
      have hnx : (txt false (l.take (i + 1))).length ≤ 4294967296 := Nat.le_trans (HLE.out _) hs
      have hlen : (txt false (l.take (i + 1))).length = x.size + ((if sepB l i = true then [32] else ([] : List UInt8)).length + (l.getD i t0).s.size) := by
        have hx : x.size = (txt false (l.take i)).length := by rw [HX.out]; rfl
        rw [HTI.out, List.length_append, List.length_append, lst_length, hx]
      have hsz : (l.getD i t0).s.size ≤ 4294967296 := by omega
      clear hlen hnx
      have fin : Hid (∀ y : ByteArray, y = (if sepB l i = true then x ++ ⟨#[32]⟩ else x) → y ++ (l.getD i t0).s = ⟨(txt false (l.take (i + 1))).toArray⟩) := by
        show ∀ y : ByteArray, y = (if sepB l i = true then x ++ ⟨#[32]⟩ else x) → y ++ (l.getD i t0).s = ⟨(txt false (l.take (i + 1))).toArray⟩
        intro y hy
        rw [hy, HTI.out, HX.out]
        split
        · rw [app_eq, app_eq]; simp [lst]
        · rw [app_eq]; simp
      clear HTI
      have HSEP : Hid (sepB l i = (decide (0 < i) && (decide ((l.getD (i - 1) t0).k = 97) && decide ((l.getD i t0).k = 97)))) := rfl
      have q2 := is97 (l.getD i t0).k
      generalize (l.getD i t0).k = k at *
      generalize (l.getD i t0).s = s at *
      by_cases h0 : 0 < i
      · obtain ⟨j, rfl⟩ : ∃ j, i = j + 1 := ⟨i - 1, by omega⟩
        obtain ⟨hp0, _, _⟩ := HC.out j (by rw [HN.out]; omega)
        rw [Nat.add_sub_cancel, decide_eq_true h0] at HSEP
        have q1 := is97 (l.getD j t0).k
        generalize (l.getD j t0).k = kp at *
        generalize decide (kp = 97) = d1 at *
        generalize decide (k = 97) = d2 at *
        clear h0
        generalize sepB l (j + 1) = sp at *
        cases d1 <;> cases d2
        all_goals
          have HF := Lib.hid (fin.out _ rfl)
          rw [HSEP.out] at HF
          clear fin HSEP HC
          go_wp2
          go_round
          case rel => exact ⟨j + 2, _, by omega, by go_num, rfl, HF.out⟩
          case measure => simp [intOf]; omega
      · obtain rfl : i = 0 := by omega
        clear h0
        generalize sepB l 0 = sp at *
        obtain rfl : sp = false := HSEP.out
        have HF := Lib.hid (fin.out _ rfl)
        clear fin HSEP HC q2
        simp only [Nat.zero_mul, Nat.add_zero] at hc0 hc1
        go_wp2
        go_round
        case rel => exact ⟨1, _, by omega, rfl, rfl, HF.out⟩
        case measure => simp [intOf]; omega
    · obtain rfl : i = n := by omega
      go_wp2
      go_ret
      exact ⟨ret_eq (by rw [HE.out, ← HX.out]; rfl), rfl⟩
end Go.Proofs.Ytapnefhmonpgdaa

/-
  The text of tokens, by the program: a strings.Builder. Conditions: a text below 2^32 bytes.
-/
namespace Go.Proofs.Ytapnefhmonpgdaa
open Go.RowKit LX

set_option maxRecDepth 8000 in
theorem str_cells (x : List UInt8) (s : ByteArray) : Lib.byteCells x ++ Lib.strCells s = Lib.byteCells (x ++ lst s) := by rw [Lib.strCells_eq, Lib.byteCells_append]; rfl
set_option maxRecDepth 8000 in
theorem byte_cells (x : List UInt8) (c : UInt8) : Lib.byteCells x ++ [.int .u8 (c.toNat : Int)] = Lib.byteCells (x ++ [c]) := by rw [Lib.byteCells_append]; rfl

end Go.Proofs.Ytapnefhmonpgdaa

/-
  What Read of package lex returns. Conditions: lines below 2^31 bytes.
-/
namespace Go.Proofs.Ytapnefhmonpgdaa
open Go.RowKit LX

/-- What Read hands back. -/
def Rd (B : Nat) (R : Except Nat (List Tk)) (e : Ending) (w w' : World) : Prop := Below B w w' ∧
  match R with
  | .ok l => ∃ A c, e = .returned (.tuple #[.slice A l.length c, .agg #[.int .i64 0, .int .i64 0]]) ∧ w'.ownsRow B 55 3 (.slice A l.length c) l.length (tkcells l)
  | .error f => e = .returned (.tuple #[.slice none 0 0, .agg #[.int .i64 1, .int .i64 (f : Int)]])
set_option maxRecDepth 8000 in
theorem infoTok : (Try.prog.info? 55).map (fun i => (i.zero, i.size, i.bytes)) = some (some (.agg #[.int .u8 0, .string ⟨#[]⟩, .int .i64 0]), 3, 32) := by kernel_rfl

set_option maxRecDepth 8000 in
theorem own_cell {w : World} {base size n : Nat} {e : TypeId} {x : Value} {cs : List Value} (h : w.ownsRow base e size x n cs) {p : Addr} (hp : p.block < base) (u : Value) : (w.setCell p u).ownsRow base e size x n cs := by
  refine ⟨h.1, ?_⟩
  rcases h.2 with hn | ⟨g', cap, cur, rfl, hg, hh, rest⟩
  · exact .inl hn
  · refine .inr ⟨g', cap, cur, rfl, hg, ?_, rest⟩
    have : p.block ≠ g' := by omega
    simp only [World.setCell, Array.getElem?_modify, if_neg this]
    exact hh
set_option maxRecDepth 8000 in
theorem ret_slot_cell {P : Program} {fn : Func} {p q : Tmp} {ty : TypeId} (h : fn.results = #[.tmp p, .cell q ty]) (tmps : Array Value) (w : World) (v : Value) (g : Nat) (t : TypeId) (cs : Array Value) (fr : Nat × Nat) (d : TypeDesc)
    (hv : tmps.getD p undef = v) (hp : tmps.getD q undef = .pointer (some ⟨g, 0, none⟩)) (hg : w.heap[g]? = some (.cells cs t fr))
    (hu : P.underlying ty = some d) (hd : (match d with | .struct _ | .array _ _ => true | _ => false) = true) (hi : (P.info? ty).map (·.size) = some cs.size) :
    (results fn tmps).run P w = .ok (.tuple #[v, .agg cs]) w := by
  have hp' : tmps[q]?.getD undef = .pointer (some ⟨g, 0, none⟩) := by simpa using hp
  have hv' : tmps[p]?.getD undef = v := by simpa using hv
  simp [results, h, hp', hv', asAddr, run_loadVar_row w g t ty cs fr d hg hu hd hi]
set_option maxRecDepth 8000 in
theorem fault_info (a b : Value) : (Try.prog.info? 27).map (·.size) = some (#[a, b] : Array Value).size := by kernel_rfl

end Go.Proofs.Ytapnefhmonpgdaa

/-
  What the document's Read returns. Conditions: lines below 2^31 bytes.
-/
namespace Go.Proofs.Ytapnefhmonpgdaa
open Go.RowKit LX

set_option maxRecDepth 8000 in
theorem n45 {c : Nat} (h : c ≠ 45) : ((c : Int) == 45) = false := by rw [beq_eq_false_iff_ne]; omega
set_option maxRecDepth 8000 in
theorem y45 {c : Nat} (h : c = 45) : ((c : Int) == 45) = true := by rw [beq_iff_eq]; omega
set_option maxRecDepth 8000 in
theorem blank_no {c : Nat} (h : blankB c = false) : ((c : Int) == 32) = false ∧ ((c : Int) == 9) = false := by
  unfold blankB at h
  simp only [Bool.or_eq_false_iff, decide_eq_false_iff_not] at h
  exact ⟨by rw [beq_eq_false_iff_ne]; omega, by rw [beq_eq_false_iff_ne]; omega⟩
set_option maxRecDepth 8000 in
theorem blank_yes {c : Nat} (h : blankB c = true) : (((c : Int) == 32) = true) ∨ (((c : Int) == 32) = false ∧ ((c : Int) == 9) = true) := by
  unfold blankB at h
  simp only [Bool.or_eq_true, decide_eq_true_eq] at h
  rcases h with h | h
  · exact .inl (by rw [beq_iff_eq]; omega)
  · exact .inr ⟨by rw [beq_eq_false_iff_ne]; omega, by rw [beq_iff_eq]; omega⟩
set_option maxRecDepth 8000 in
theorem dash_no {s : ByteArray} {i : Nat} (h : dash s i = false) : bt s i ≠ 45 ∨ (bt s i = 45 ∧ ¬ i + 1 < s.size) ∨ (bt s i = 45 ∧ i + 1 < s.size ∧ bt s (i + 1) ≠ 45) := by
  unfold dash at h
  by_cases h1 : bt s i = 45
  · by_cases h2 : i + 1 < s.size
    · rw [decide_eq_true h1, decide_eq_true h2, Bool.true_and, Bool.true_and, decide_eq_false_iff_not] at h
      exact .inr (.inr ⟨h1, h2, h⟩)
    · exact .inr (.inl ⟨h1, h2⟩)
  · exact .inl h1
set_option maxRecDepth 8000 in
theorem dash_yes {s : ByteArray} {i : Nat} (h : dash s i = true) : bt s i = 45 ∧ i + 1 < s.size ∧ bt s (i + 1) = 45 := by
  unfold dash at h
  simpa only [Bool.and_eq_true, decide_eq_true_eq] using h

set_option maxRecDepth 100000 in
set_option maxHeartbeats 1600000 in
theorem refRead8_any (s : ByteArray) (w : World) (hl : s.size ≤ 2147483648) :
    Calls Try.prog 23 #[.string s] w fun e w' => Rd w.heap.size (scan s 0 []) e w w' := by
  have HG1 := Lib.hid (RowAt.new w 27 #[.int .i64 0, .int .i64 0])
  have HGB : Hid (Below w.heap.size w (w.alloc (.cells #[.int .i64 0, .int .i64 0] 27))) := (Below.refl _ _).alloc (Nat.le_refl _) _
  have HGS : Hid (w.heap.size + 1 ≤ (w.alloc (.cells #[.int .i64 0, .int .i64 0] 27)).heap.size) := by
    show w.heap.size + 1 ≤ _
    simp
  generalize hR : scan s 0 [] = R
  have HR := Lib.hid hR; clear hR
  go_enter Try.func23, Try.ntmps23
  go_wp2
  go_loopw [4, 5] (fun lv av wr => ∃ (i : Nat) (acc : List Tk) (A : Option Addr) (c : Nat), i ≤ s.size ∧ acc.length ≤ i ∧ lv = .slice A acc.length c ∧ av = .int .i64 i ∧ Hid (wr.ownsRow (w.heap.size + 1) 55 3 (.slice A acc.length c) acc.length (tkcells acc)) ∧ Hid (scan s i acc = R)
      ∧ Hid (RowAt wr w.heap.size 27 #[.int .i64 0, .int .i64 0]) ∧ Hid (Below w.heap.size w wr) ∧ Hid (w.heap.size + 1 ≤ wr.heap.size)) (fun _ av _ => s.size - (intOf av).toNat)
  case atStart => exact ⟨0, [], none, 0, by omega, by simp, rfl, rfl, World.ownsRow_nil _ _ _ _, HR.out, HG1.out, HGB.out, HGS.out⟩
  case round =>
    obtain ⟨i, acc, A, c, hi, hacc, rfl, rfl, HO, HSC, HR1, HW, HSZ⟩ := hrel
    by_cases hlt : i < s.size
    · have hb := bt_at hlt
      cases hbl : blankB (bt s i)
      · cases hda : dash s i
        · cases hin : NM.innr (bt s i)
          · cases hsg : signB (bt s i)
            · have HST := Lib.hid (scan_bad acc hlt (st_else hbl hda hin hsg))
              have h32 := blank_no hbl
              have hdn := dash_no hda
              have HRUN : Hid (Calls Try.prog 54 #[.string s, .int .i64 i] wr fun e w' => e = .returned (.int .i64 0) ∧ wr = w') := by
                have h := refRun_any s wr i hi (by omega)
                rw [runE_stop hlt hin, Int.sub_self] at h
                exact h
              rw [hb] at h32 hdn hsg
              obtain ⟨h32, h9⟩ := h32
              have HSG := Lib.hid hsg
              clear hbl hda hin hsg hb
              have h10 := (HR1.out.cell 0).trans rfl
              have h11 := (HR1.out.cell 1).trans rfl
              have f10 := HR1.out.free 0
              have f11 := HR1.out.free 1
              rcases hdn with hdn | ⟨hdn, h2⟩ | ⟨hdn, h2, h3⟩
              · have h45 := n45 hdn
                clear hdn
                go_wp2_with (go_at_call 54; refine HRUN.out.mono ?_; rintro e w' ⟨rfl, rfl⟩)
                refine (refSign_any _ _).mono ?_
                rintro e w1 ⟨rfl, hb1⟩
                rw [HSG.out]
                have HB1 : Hid (Below wr.heap.size wr w1) := hb1
                have hown1 := own_below HO.out HB1.out (Nat.le_refl _)
                have HO1 := Lib.hid hown1; clear hown1
                have HR1' := Lib.hid (HR1.out.below HB1.out (by have := HSZ.out; omega))
                have HW1 := Lib.hid (HW.out.trans (HB1.out.mono HW.out.size))
                have HSZ1 : Hid (w.heap.size + 1 ≤ w1.heap.size) := by
                  show w.heap.size + 1 ≤ w1.heap.size
                  have h1 := HSZ.out
                  have h2 := HB1.out.size
                  omega
                clear hb1
                have h10 := (HR1'.out.cell 0).trans rfl
                have h11 := (HR1'.out.cell 1).trans rfl
                have f10 := HR1'.out.free 0
                have f11 := HR1'.out.free 1
                go_wp2
                have hgf := (HR1'.out.put 0 (.int .i64 1)).put 1 (.int .i64 i)
                obtain rfl : R = .error i := HSC.out.symm.trans HST.out
                exact bodyPost_ret (ret_slot_cell rfl _ _ _ w.heap.size _ _ (0, 0) _ rfl rfl hgf Try.underlying27 rfl (fault_info _ _)) rfl ⟨(HW1.out.setCell (p := ⟨w.heap.size, 0, none⟩) (Nat.le_refl _) _).setCell (p := ⟨w.heap.size, 1, none⟩) (Nat.le_refl _) _, rfl⟩
              · have h45 := y45 hdn
                clear hdn
                go_wp2_with (go_at_call 54; refine HRUN.out.mono ?_; rintro e w' ⟨rfl, rfl⟩)
                refine (refSign_any _ _).mono ?_
                rintro e w1 ⟨rfl, hb1⟩
                rw [HSG.out]
                have HB1 : Hid (Below wr.heap.size wr w1) := hb1
                have hown1 := own_below HO.out HB1.out (Nat.le_refl _)
                have HO1 := Lib.hid hown1; clear hown1
                have HR1' := Lib.hid (HR1.out.below HB1.out (by have := HSZ.out; omega))
                have HW1 := Lib.hid (HW.out.trans (HB1.out.mono HW.out.size))
                have HSZ1 : Hid (w.heap.size + 1 ≤ w1.heap.size) := by
                  show w.heap.size + 1 ≤ w1.heap.size
                  have h1 := HSZ.out
                  have h2 := HB1.out.size
                  omega
                clear hb1
                have h10 := (HR1'.out.cell 0).trans rfl
                have h11 := (HR1'.out.cell 1).trans rfl
                have f10 := HR1'.out.free 0
                have f11 := HR1'.out.free 1
                go_wp2
                have hgf := (HR1'.out.put 0 (.int .i64 1)).put 1 (.int .i64 i)
                obtain rfl : R = .error i := HSC.out.symm.trans HST.out
                exact bodyPost_ret (ret_slot_cell rfl _ _ _ w.heap.size _ _ (0, 0) _ rfl rfl hgf Try.underlying27 rfl (fault_info _ _)) rfl ⟨(HW1.out.setCell (p := ⟨w.heap.size, 0, none⟩) (Nat.le_refl _) _).setCell (p := ⟨w.heap.size, 1, none⟩) (Nat.le_refl _) _, rfl⟩
              · have h45 := y45 hdn
                have hb2 := bt_at h2
                rw [hb2] at h3
                have h46 := n45 h3
                clear hdn h3 hb2
                go_wp2_with (go_at_call 54; refine HRUN.out.mono ?_; rintro e w' ⟨rfl, rfl⟩)
                refine (refSign_any _ _).mono ?_
                rintro e w1 ⟨rfl, hb1⟩
                rw [HSG.out]
                have HB1 : Hid (Below wr.heap.size wr w1) := hb1
                have hown1 := own_below HO.out HB1.out (Nat.le_refl _)
                have HO1 := Lib.hid hown1; clear hown1
                have HR1' := Lib.hid (HR1.out.below HB1.out (by have := HSZ.out; omega))
                have HW1 := Lib.hid (HW.out.trans (HB1.out.mono HW.out.size))
                have HSZ1 : Hid (w.heap.size + 1 ≤ w1.heap.size) := by
                  show w.heap.size + 1 ≤ w1.heap.size
                  have h1 := HSZ.out
                  have h2 := HB1.out.size
                  omega
                clear hb1
                have h10 := (HR1'.out.cell 0).trans rfl
                have h11 := (HR1'.out.cell 1).trans rfl
                have f10 := HR1'.out.free 0
                have f11 := HR1'.out.free 1
                go_wp2
                have hgf := (HR1'.out.put 0 (.int .i64 1)).put 1 (.int .i64 i)
                obtain rfl : R = .error i := HSC.out.symm.trans HST.out
                exact bodyPost_ret (ret_slot_cell rfl _ _ _ w.heap.size _ _ (0, 0) _ rfl rfl hgf Try.underlying27 rfl (fault_info _ _)) rfl ⟨(HW1.out.setCell (p := ⟨w.heap.size, 0, none⟩) (Nat.le_refl _) _).setCell (p := ⟨w.heap.size, 1, none⟩) (Nat.le_refl _) _, rfl⟩
            · have HST := Lib.hid (scan_tok acc hlt (st_sign hsg))
              have h45 := n45 (sign_not hsg).2.1
              have HRUN : Hid (Calls Try.prog 54 #[.string s, .int .i64 i] wr fun e w' => e = .returned (.int .i64 0) ∧ wr = w') := by
                have h := refRun_any s wr i hi (by omega)
                rw [runE_stop hlt hin, Int.sub_self] at h
                exact h
              rw [hb] at h45 hsg HST
              have HSG := Lib.hid hsg
              clear hbl hda hin hsg hb
              go_wp2_with (go_at_call 54; refine HRUN.out.mono ?_; rintro e w' ⟨rfl, rfl⟩)
              refine (refSign_any _ _).mono ?_
              rintro e w1 ⟨rfl, hb1⟩
              rw [HSG.out]
              have HB1 : Hid (Below wr.heap.size wr w1) := hb1
              have hown1 := own_below HO.out HB1.out (Nat.le_refl _)
              have HO1 := Lib.hid hown1; clear hown1
              have HR1' := Lib.hid (HR1.out.below HB1.out (by have := HSZ.out; omega))
              have HW1 := Lib.hid (HW.out.trans (HB1.out.mono HW.out.size))
              have HSZ1 : Hid (w.heap.size + 1 ≤ w1.heap.size) := by
                show w.heap.size + 1 ≤ w1.heap.size
                have h1 := HSZ.out
                have h2 := HB1.out.size
                omega
              clear hb1
              have HNEW := Lib.hid (RowAt.new w1 55 #[.int .u8 (s[i].toNat : Int), .string (s.extract i (i + 1)), .int .i64 i])
              go_wp2_with (at_builtin; refine wpList_more _ rfl _ _ 43 rfl 55 (.agg #[.int .u8 0, .string ⟨#[]⟩, .int .i64 0]) 3 32 Try.underlying43 infoTok rfl (by decide) (by decide) (w.heap.size + 1) A acc.length c (tkcells acc) rfl (own_below HO1.out ((Below.refl _ _).alloc (Nat.le_refl _) _) (Nat.le_refl _)) w1.heap.size 1 1 [.int .u8 (s[i].toNat : Int), .string (s.extract i (i + 1)), .int .i64 i] rfl rfl (by decide) ?c0 ?c1 ?c2 ?c3 ?_)
              case c0 => exact fun j u hj => (HNEW.out.cell j).trans (by simpa using hj)
              case c1 => simp [Value.oneCell']
              case c2 => omega
              case c3 => rw [World.size_alloc]; have := HSZ1.out; omega
              intro A' c' w4 hown4 hb4 _
              have HO4 : Hid (w4.ownsRow (w.heap.size + 1) 55 3 (.slice A' (acc ++ [Tk.mk s[i].toNat (sub s i (i + 1)) (i : Int)]).length c') (acc ++ [Tk.mk s[i].toNat (sub s i (i + 1)) (i : Int)]).length (tkcells (acc ++ [Tk.mk s[i].toNat (sub s i (i + 1)) (i : Int)]))) := by
                rw [tkcells_append, tkcells_one, List.length_append]
                exact hown4
              have HB4 : Hid (Below (w.heap.size + 1) w1 w4) := ((Below.refl _ _).alloc HSZ1.out _).trans hb4
              have HG14 := Lib.hid (HR1'.out.below HB4.out (by omega))
              have HW4 := Lib.hid (HW1.out.trans (HB4.out.mono (by omega)))
              have HZ4 : Hid (w.heap.size + 1 ≤ w4.heap.size) := Nat.le_trans HSZ1.out HB4.out.size
              clear hown4 hb4
              go_wp2
              go_roundw
              case rel => exact ⟨i + 1, acc ++ [Tk.mk s[i].toNat (sub s i (i + 1)) (i : Int)], A', c', by omega, by rw [List.length_append, List.length_singleton]; omega, by rw [List.length_append, List.length_singleton], by go_num, HO4, by rw [← HST.out]; exact HSC, HG14, HW4, HZ4⟩
              case measure => simp [intOf]; omega
          · cases hri : NM.right (sub s i (runE s i))
            · have HST := Lib.hid (scan_bad acc hlt (st_wrong hin hri))
              obtain ⟨m, hm⟩ : ∃ m, runE s i = i + m := ⟨runE s i - i, by have := runE_ge s i; omega⟩
              have hm0 : 0 < m := by have := runE_gt hlt hin; omega
              have hms : i + m ≤ s.size := by have := runE_le hi; omega
              have h45 := n45 (innr_not hin).2.1
              have hsg := (innr_not hin).2.2
              have h32 := blank_no hbl
              rw [hm] at hri
              have HRUN : Hid (Calls Try.prog 54 #[.string s, .int .i64 i] wr fun e w' => e = .returned (.int .i64 m) ∧ wr = w') := by
                have h := refRun_any s wr i hi (by omega)
                rw [hm, show (((i + m : Nat) : Int) - (i : Int)) = (m : Int) by omega] at h
                exact h
              have HRT : Hid (∀ W : World, Calls Try.prog 49 #[.string (s.extract i (i + m))] W fun e w' => e = .returned (.bool false) ∧ Dr W w') := fun W => by
                have h := refRight_any (s.extract i (i + m)) W
                rw [show NM.right (s.extract i (i + m)) = false from hri] at h
                exact h
              rw [hb] at h45 hsg h32
              obtain ⟨h32, h9⟩ := h32
              have HSG := Lib.hid hsg
              clear hbl hda hin hsg hb hri
              go_wp2_with (go_at_call 54; refine HRUN.out.mono ?_; rintro e w' ⟨rfl, rfl⟩)
              refine (HRT.out _).mono ?_
              rintro e w0 ⟨rfl, hd0⟩
              have HD0 := Lib.hid hd0.below; clear hd0
              go_wp2_with fail
              refine (refSign_any _ _).mono ?_
              rintro e w1 ⟨rfl, hb1⟩
              rw [HSG.out]
              have HB1 : Hid (Below wr.heap.size wr w1) := HD0.out.trans (hb1.mono HD0.out.size)
              have hown1 := own_below HO.out HB1.out (Nat.le_refl _)
              have HO1 := Lib.hid hown1; clear hown1
              have HR1' := Lib.hid (HR1.out.below HB1.out (by have := HSZ.out; omega))
              have HW1 := Lib.hid (HW.out.trans (HB1.out.mono HW.out.size))
              have HSZ1 : Hid (w.heap.size + 1 ≤ w1.heap.size) := by
                show w.heap.size + 1 ≤ w1.heap.size
                have h1 := HSZ.out
                have h2 := HB1.out.size
                omega
              clear hb1
              have h10 := (HR1'.out.cell 0).trans rfl
              have h11 := (HR1'.out.cell 1).trans rfl
              have f10 := HR1'.out.free 0
              have f11 := HR1'.out.free 1
              go_wp2
              have hgf := (HR1'.out.put 0 (.int .i64 1)).put 1 (.int .i64 i)
              obtain rfl : R = .error i := HSC.out.symm.trans HST.out
              exact bodyPost_ret (ret_slot_cell rfl _ _ _ w.heap.size _ _ (0, 0) _ rfl rfl hgf Try.underlying27 rfl (fault_info _ _)) rfl ⟨(HW1.out.setCell (p := ⟨w.heap.size, 0, none⟩) (Nat.le_refl _) _).setCell (p := ⟨w.heap.size, 1, none⟩) (Nat.le_refl _) _, rfl⟩
            · have HST0 := scan_tok acc hlt (st_word hin hri)
              have hge0 := runE_gt hlt hin
              obtain ⟨m, hm⟩ : ∃ m, runE s i = i + m := ⟨runE s i - i, by have := runE_ge s i; omega⟩
              have hm0 : 0 < m := by have := runE_gt hlt hin; omega
              have hms : i + m ≤ s.size := by have := runE_le hi; omega
              have h45 := n45 (innr_not hin).2.1
              have hsg := (innr_not hin).2.2
              have h32 := blank_no hbl
              rw [hm] at hri
              have HRUN : Hid (Calls Try.prog 54 #[.string s, .int .i64 i] wr fun e w' => e = .returned (.int .i64 m) ∧ wr = w') := by
                have h := refRun_any s wr i hi (by omega)
                rw [hm, show (((i + m : Nat) : Int) - (i : Int)) = (m : Int) by omega] at h
                exact h
              have HRT : Hid (∀ W : World, Calls Try.prog 49 #[.string (s.extract i (i + m))] W fun e w' => e = .returned (.bool true) ∧ Dr W w') := fun W => by
                have h := refRight_any (s.extract i (i + m)) W
                rw [show NM.right (s.extract i (i + m)) = true from hri] at h
                exact h
              rw [hb] at h45 hsg h32
              obtain ⟨h32, h9⟩ := h32
              have HSG := Lib.hid hsg
              clear hbl hda hin hsg hb hri
              rw [hm] at HST0 hge0
              have HST := Lib.hid HST0; clear HST0 hge0 hm
              go_wp2_with (go_at_call 54; refine HRUN.out.mono ?_; rintro e w' ⟨rfl, rfl⟩)
              refine (HRT.out _).mono ?_
              rintro e w1 ⟨rfl, hd0⟩
              have hb1 := hd0.below; clear hd0
              have HB1 : Hid (Below wr.heap.size wr w1) := hb1
              have hown1 := own_below HO.out HB1.out (Nat.le_refl _)
              have HO1 := Lib.hid hown1; clear hown1
              have HR1' := Lib.hid (HR1.out.below HB1.out (by have := HSZ.out; omega))
              have HW1 := Lib.hid (HW.out.trans (HB1.out.mono HW.out.size))
              have HSZ1 : Hid (w.heap.size + 1 ≤ w1.heap.size) := by
                show w.heap.size + 1 ≤ w1.heap.size
                have h1 := HSZ.out
                have h2 := HB1.out.size
                omega
              clear hb1
              have HNEW := Lib.hid (RowAt.new w1 55 #[.int .u8 97, .string (s.extract i (i + m)), .int .i64 i])
              go_wp2_with (at_builtin; refine wpList_more _ rfl _ _ 43 rfl 55 (.agg #[.int .u8 0, .string ⟨#[]⟩, .int .i64 0]) 3 32 Try.underlying43 infoTok rfl (by decide) (by decide) (w.heap.size + 1) A acc.length c (tkcells acc) rfl (own_below HO1.out ((Below.refl _ _).alloc (Nat.le_refl _) _) (Nat.le_refl _)) w1.heap.size 1 1 [.int .u8 97, .string (s.extract i (i + m)), .int .i64 i] rfl rfl (by decide) ?c0 ?c1 ?c2 ?c3 ?_)
              case c0 => exact fun j u hj => (HNEW.out.cell j).trans (by simpa using hj)
              case c1 => simp [Value.oneCell']
              case c2 => omega
              case c3 => rw [World.size_alloc]; have := HSZ1.out; omega
              intro A' c' w4 hown4 hb4 _
              have HO4 : Hid (w4.ownsRow (w.heap.size + 1) 55 3 (.slice A' (acc ++ [Tk.mk 97 (sub s i (i + m)) (i : Int)]).length c') (acc ++ [Tk.mk 97 (sub s i (i + m)) (i : Int)]).length (tkcells (acc ++ [Tk.mk 97 (sub s i (i + m)) (i : Int)]))) := by
                rw [tkcells_append, tkcells_one, List.length_append]
                exact hown4
              have HB4 : Hid (Below (w.heap.size + 1) w1 w4) := ((Below.refl _ _).alloc HSZ1.out _).trans hb4
              have HG14 := Lib.hid (HR1'.out.below HB4.out (by omega))
              have HW4 := Lib.hid (HW1.out.trans (HB4.out.mono (by omega)))
              have HZ4 : Hid (w.heap.size + 1 ≤ w4.heap.size) := Nat.le_trans HSZ1.out HB4.out.size
              clear hown4 hb4
              go_wp2
              go_roundw
              case rel => exact ⟨i + m, acc ++ [Tk.mk 97 (sub s i (i + m)) (i : Int)], A', c', by omega, by rw [List.length_append, List.length_singleton]; omega, by rw [List.length_append, List.length_singleton], by go_num, HO4, by rw [← HST.out]; exact HSC, HG14, HW4, HZ4⟩
              case measure => simp [intOf]; omega
        · have HST := Lib.hid (scan_stop acc hlt (st_stop hda))
          obtain ⟨h1, h2, h3⟩ := dash_yes hda
          have hb2 := bt_at h2
          rw [hb] at h1
          rw [hb2] at h3
          have h45 := y45 h1
          have h46 := y45 h3
          have HRUN : Hid (Calls Try.prog 54 #[.string s, .int .i64 i] wr fun e w' => e = .returned (.int .i64 0) ∧ wr = w') := by
            have h := refRun_any s wr i hi (by omega)
            rw [runE_stop hlt (by rw [hb, h1]; decide), Int.sub_self] at h
            exact h
          clear hbl hda hb h1 h3 hb2
          have h10 := (HR1.out.cell 0).trans rfl
          have h11 := (HR1.out.cell 1).trans rfl
          have f10 := HR1.out.free 0
          have f11 := HR1.out.free 1
          go_wp2_with (go_at_call 54; refine HRUN.out.mono ?_; rintro e w' ⟨rfl, rfl⟩)
          have hgf := (HR1.out.put 0 (.int .i64 0)).put 1 (.int .i64 0)
          obtain rfl : R = .ok acc := HSC.out.symm.trans HST.out
          have hown := own_cell (own_cell HO.out (p := ⟨w.heap.size, 0, none⟩) (by show w.heap.size < w.heap.size + 1; omega) (.int .i64 0)) (p := ⟨w.heap.size, 1, none⟩) (by show w.heap.size < w.heap.size + 1; omega) (.int .i64 0)
          exact bodyPost_ret (ret_slot_cell rfl _ _ _ w.heap.size _ _ (0, 0) _ rfl rfl hgf Try.underlying27 rfl (fault_info _ _)) rfl ⟨(HW.out.setCell (p := ⟨w.heap.size, 0, none⟩) (Nat.le_refl _) _).setCell (p := ⟨w.heap.size, 1, none⟩) (Nat.le_refl _) _, A, c, rfl, own_mono hown (by omega)⟩
      · have HST := Lib.hid (scan_skip acc hlt (st_skip hbl))
        have h45 := n45 (blank_not hbl).1
        have hin := (blank_not hbl).2.1
        have hsg := (blank_not hbl).2.2
        have hby := blank_yes (c := bt s i) hbl
        have HRUN : Hid (Calls Try.prog 54 #[.string s, .int .i64 i] wr fun e w' => e = .returned (.int .i64 0) ∧ wr = w') := by
          have h := refRun_any s wr i hi (by omega)
          rw [runE_stop hlt hin, Int.sub_self] at h
          exact h
        rw [hb] at h45 hsg hby
        have HSG := Lib.hid hsg
        clear hbl hin hsg hb
        rcases hby with h32 | ⟨h32, h9⟩
        all_goals
          go_wp2_with (go_at_call 54; refine HRUN.out.mono ?_; rintro e w' ⟨rfl, rfl⟩)
          refine (refSign_any _ _).mono ?_
          rintro e w1 ⟨rfl, hb1⟩
          rw [HSG.out]
          have HB1 : Hid (Below wr.heap.size wr w1) := hb1
          have hown1 := own_below HO.out HB1.out (Nat.le_refl _)
          have HO1 := Lib.hid hown1; clear hown1
          have HR1' := Lib.hid (HR1.out.below HB1.out (by have := HSZ.out; omega))
          have HW1 := Lib.hid (HW.out.trans (HB1.out.mono HW.out.size))
          have HSZ1 : Hid (w.heap.size + 1 ≤ w1.heap.size) := by
            show w.heap.size + 1 ≤ w1.heap.size
            have h1 := HSZ.out
            have h2 := HB1.out.size
            omega
          clear hb1
          go_wp2
          go_roundw
          case rel => exact ⟨i + 1, acc, A, c, by omega, by omega, rfl, by go_num, HO1, by rw [← HST.out]; exact HSC, HR1', HW1, HSZ1⟩
          case measure => simp [intOf]; omega
    · have HST := Lib.hid (scan_end acc hlt)
      have h10 := (HR1.out.cell 0).trans rfl
      have h11 := (HR1.out.cell 1).trans rfl
      have f10 := HR1.out.free 0
      have f11 := HR1.out.free 1
      obtain rfl : i = s.size := by omega
      go_wp2
      have hgf := (HR1.out.put 0 (.int .i64 0)).put 1 (.int .i64 0)
      obtain rfl : R = .ok acc := HSC.out.symm.trans HST.out
      have hown := own_cell (own_cell HO.out (p := ⟨w.heap.size, 0, none⟩) (by show w.heap.size < w.heap.size + 1; omega) (.int .i64 0)) (p := ⟨w.heap.size, 1, none⟩) (by show w.heap.size < w.heap.size + 1; omega) (.int .i64 0)
      exact bodyPost_ret (ret_slot_cell rfl _ _ _ w.heap.size _ _ (0, 0) _ rfl rfl hgf Try.underlying27 rfl (fault_info _ _)) rfl ⟨(HW.out.setCell (p := ⟨w.heap.size, 0, none⟩) (Nat.le_refl _) _).setCell (p := ⟨w.heap.size, 1, none⟩) (Nat.le_refl _) _, A, c, rfl, own_mono hown (by omega)⟩
end Go.Proofs.Ytapnefhmonpgdaa
