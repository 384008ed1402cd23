/-
  What Twice returns, which counts in a map, and the document's answer. Conditions: lists below 2^32 strings, strings below 2^32 bytes.
-/
import Derived.Test.YtjmhnbokojkceaaNameC
import Derived.Maps.OwnOps
import Derived.Maps.Views
import Derived.StillTailTactics
namespace Go.Proofs.Ytjmhnbokojkceaa
open Go.RowKit Go.Maps

theorem lawStr : Keyed Try.prog 9 := string_keyed Try.underlying9
theorem zeroInt (w : World) : (zeroValue 3).run Try.prog w = .ok (.int .i64 0) w := by kernel_rfl
/-- Block B is a map that holds at each string the number f of it. -/
def Cnt (W : World) (B n : Nat) (f : ByteArray → Nat) : Prop :=
  ∃ D : DataW Unit, W.ownsMap Try.prog 9 (plainElem Try.prog 3) B n D ∧ IsMap D ∧ ∀ s : ByteArray, s.size ≤ maxLen → D.atKey (.string s.data.toList) (.lit (.int .i64 0)) = .lit (.int .i64 (f s))
section
variable {W W' : World} {B n : Nat} {f : ByteArray → Nat}
theorem Cnt.kept {row : Option Nat} (h : Cnt W B n f) (hg : W.grownBy W' row) (hne : some B ≠ row) : Cnt W' B n f := by
  obtain ⟨D, h1, h2, h3⟩ := h
  exact ⟨D, h1.kept hg hne, h2, h3⟩
theorem Cnt.drewN (h : Cnt W B n f) (m : Nat) : Cnt (W.drewN m) B n f := h
theorem Cnt.drew (h : Cnt W B n f) : Cnt W.drew B n f := h
theorem Cnt.lt (h : Cnt W B n f) : B < W.heap.size := by
  obtain ⟨D, h1, _⟩ := h
  exact h1.lt
theorem Cnt.new (w : World) : Cnt (w.alloc (.map #[] 0)) w.heap.size 0 (fun _ => 0) :=
  ⟨.map [], World.ownsMap_made _ _ _ _, isMap_empty, fun _ _ => rfl⟩
theorem Cnt.look (h : Cnt W B n f) {s : ByteArray} (hs : s.size ≤ maxLen) : (Instr.lookup 39 (.map (some B)) (.string s) false).run Try.prog W = .ok (.int .i64 (f s)) W := by
  obtain ⟨D, h1, _, h3⟩ := h
  obtain ⟨c, hrun, hat, _⟩ := h1.lookup_int lawStr Try.underlying39 Try.underlying3 (zeroInt _) (WideMaps.keyOf_string_mk Try.underlying9 hs)
  rw [h3 s hs] at hat
  simp only [DataW.lit.injEq, Lit.int.injEq, true_and] at hat
  rw [hat]
  exact hrun
end
/-- The store of a number at a string. -/
theorem wpList_cnt {w : World} {ops : Array Oper} {rest : List Oper} {o : Oper} {a : Act} {Q : Exit → Act → World → Prop}
    (hg : o.guard = none) (m x v : Operand) (hop : o.op = Op.mapUpdate 39 m x v) (B n : Nat) (f : ByteArray → Nat)
    (hm : a.eval m = .map (some B)) (hc : Cnt w B n f) (hn : n < maxLen) (s : ByteArray) (hs : s.size ≤ maxLen) (c : Nat) (hcb : c < 4294967300) (hx : a.eval x = .string s) (hv : a.eval v = .int .i64 c)
    (hK : ∀ w', Cnt w' B (n + 1) (fun t => if t = s then c else f t) → w.grownBy w' (some B) → wpList Try.prog ops Q rest (a.put o.dst undef) w') :
    wpList Try.prog ops Q (o :: rest) a w := by
  obtain ⟨D, h1, h2, h3⟩ := hc
  refine wpList_mapUpdate_own w hg m x v 39 hop 9 3 lawStr Try.underlying39 _ B n D hm h1 hn _ _ _ hx hv (WideMaps.keyOf_string_mk Try.underlying9 hs) _ [] (plainElem_int Try.underlying3 (WalkArith.wf_i64 (by omega))) ?_
  intro w' hown hgr
  refine hK w' ⟨_, hown, h2.put _ _, fun t ht => ?_⟩ hgr
  by_cases hts : t = s
  · subst hts
    rw [atKey_put_same h2 (by simp [WideAt.IsKeyLit])]
    simp
  · have e2 : ((fun t => if t = s then c else f t) t) = f t := if_neg hts
    rw [e2, atKey_put_other, h3 t ht]
    intro e
    apply hts
    simp only [Lit.string.injEq] at e
    cases t; cases s
    simp only [ByteArray.mk.injEq]
    exact Array.toList_inj.1 e

/-- How often a string stands among the first j. -/
def cnt (xs : List ByteArray) (j : Nat) (s : ByteArray) : Nat := (xs.take j).countP fun x => decide (x = s)
theorem cnt_zero (xs : List ByteArray) : cnt xs 0 = fun _ => 0 := by funext s; rfl
theorem cnt_succ (xs : List ByteArray) (j : Nat) (hj : j < xs.length) (s : ByteArray) : cnt xs (j + 1) s = if s = xs.getD j ⟨#[]⟩ then cnt xs j (xs.getD j ⟨#[]⟩) + 1 else cnt xs j s := by
  have e : xs.getD j ⟨#[]⟩ = xs[j] := by rw [List.getD_eq_getElem?_getD, List.getElem?_eq_getElem hj]; rfl
  rw [e]
  unfold cnt
  rw [List.take_succ_eq_append_getElem hj, List.countP_append, List.countP_singleton]
  by_cases h : s = xs[j]
  · subst h; simp
  · rw [if_neg h, if_neg (by rw [decide_eq_true_eq]; exact fun e => h e.symm)]; rfl
theorem cnt_le (xs : List ByteArray) (j : Nat) (s : ByteArray) : cnt xs j s ≤ j := by
  unfold cnt
  exact Nat.le_trans List.countP_le_length (by rw [List.length_take]; omega)
/-- Does it stand among those before? -/
def twice (xs : List ByteArray) (j : Nat) : Bool := decide (idx xs (xs.getD j ⟨#[]⟩) < j)
theorem twice_cnt (xs : List ByteArray) (j : Nat) (hj : j < xs.length) : twice xs j = decide (1 < cnt xs j (xs.getD j ⟨#[]⟩) + 1) := by
  unfold twice
  rw [decide_eq_decide]
  have hc : 1 < cnt xs j (xs.getD j ⟨#[]⟩) + 1 ↔ xs.getD j ⟨#[]⟩ ∈ xs.take j := by
    unfold cnt
    have h := List.countP_pos_iff (p := fun x => decide (x = xs.getD j ⟨#[]⟩)) (l := xs.take j)
    constructor
    · intro h1
      obtain ⟨a, ha, hp⟩ := h.1 (by omega)
      rw [decide_eq_true_eq] at hp
      rw [← hp]; exact ha
    · intro h1
      have := h.2 ⟨_, h1, decide_eq_true rfl⟩
      omega
  rw [hc]
  unfold idx
  rcases NM.fst_cases (fun i => decide (xs.getD i ⟨#[]⟩ = xs.getD j ⟨#[]⟩)) xs.length with ⟨k, hk, e, hp, h0⟩ | ⟨e, h0⟩
  · rw [e]
    constructor
    · intro h
      rw [List.mem_iff_getElem]
      have hp2 : xs.getD k ⟨#[]⟩ = xs.getD j ⟨#[]⟩ := by simpa using hp
      refine ⟨k, by rw [List.length_take]; omega, ?_⟩
      rw [List.getElem_take, ← hp2, List.getD_eq_getElem?_getD, List.getElem?_eq_getElem hk]; rfl
    · intro h
      rw [List.mem_iff_getElem] at h
      obtain ⟨i, hi, he⟩ := h
      rw [List.length_take] at hi
      rw [List.getElem_take] at he
      rcases Nat.lt_or_ge i k with h1 | h1
      · have := h0 i h1
        rw [List.getD_eq_getElem?_getD, List.getElem?_eq_getElem (show i < xs.length by omega)] at this
        simp [he] at this
      · omega
  · exact absurd (h0 j hj) (by simp)
/-- The first that stands twice. -/
def twc (xs : List ByteArray) : Int := NM.fst (twice xs) xs.length

set_option maxHeartbeats 400000 in
theorem twice1_any (b o c : Nat) (n : Nat) (x : ByteArray) (g gs B : Nat) (w : World) (hn : n ≤ 4294967296) (hx : x.size ≤ 4294967296) (f : ByteArray → Nat) (hf : f x ≤ 4294967296)
    (hg : w.cell? ⟨g, 0, none⟩ = some (.map (some B))) (hgs : w.cell? ⟨gs, 0, none⟩ = some (.slice (some ⟨b, o, none⟩) n c)) (hgB : g ≠ B) (hgsB : gs ≠ B) (hbB : b ≠ B) (j : Nat) (hj : j < n) (hcell : w.cell? ⟨b, o + j, none⟩ = some (.string x)) (hc : Cnt w B j f) :
    Calls Try.prog 29 #[.int .i64 j, .pointer (some ⟨g, 0, none⟩), .pointer (some ⟨gs, 0, none⟩)] w fun e w' => e = .returned (.bool (decide (1 < f x + 1))) ∧ w.grownBy w' (some B) ∧ Cnt w' B (j + 1) (fun t => if t = x then f x + 1 else f t) := by
  have hx2 : x.size ≤ maxLen := by unfold maxLen; omega
  have hlook := hc.drew.look hx2
  have hg0 := World.block_lt_of_cell? w _ hg
  have hgs0 := World.block_lt_of_cell? w _ hgs
  have hb0 := World.block_lt_of_cell? w _ hcell
  have HX2 := Lib.hid hx2; clear hx2
  go_enter Try.func29, Try.ntmps29
  go_wp2
  go_still_tail 7, (by kernel_rfl)
  change wpList _ _ _ _ _ w.drew
  refine wpList_cnt rfl _ _ _ rfl B j f rfl hc.drew (by unfold maxLen; omega) x HX2.out (f x + 1) (by omega) rfl (int_eq (by rw [IntWalk.i64_in _ ⟨by omega, by omega⟩]; rfl)) ?_
  intro w1 hc1 hgr
  have hgr2 : w.grownBy w1 (some B) := ⟨hgr.os, hgr.tape, hgr.output, hgr.size, hgr.block⟩
  clear hgr
  have hg1 : w1.cell? ⟨g, 0, none⟩ = some (.map (some B)) := hgr2.cell hg (by simp; exact hgB)
  have hgs1 : w1.cell? ⟨gs, 0, none⟩ = some (.slice (some ⟨b, o, none⟩) n c) := hgr2.cell hgs (by simp; exact hgsB)
  have hcell1 : w1.cell? ⟨b, o + j, none⟩ = some (.string x) := hgr2.cell hcell (by simp; exact hbB)
  have hlook1 : ∀ m, (Instr.lookup 39 (.map (some B)) (.string x) false).run Try.prog (w1.drewN m) = .ok (.int .i64 ((f x : Int) + 1)) (w1.drewN m) := by
    intro m
    have h := (hc1.drewN m).look HX2.out
    simpa using h
  have HC1 := Lib.hid hc1
  have HGR := Lib.hid hgr2
  clear hlook hg hgs hcell hc hc1 hgr2
  simp only [Act.put]
  go_wp2
  go_quiet (fail)
  go_wp2
  go_ret
  refine ⟨ret_eq (bool_eq ?_), ?_, HC1.out.drewN _⟩
  · rw [Bool.eq_iff_iff]; simp <;> omega
  · exact ⟨HGR.out.os, HGR.out.tape, HGR.out.output, HGR.out.size, HGR.out.block⟩

/-- What holds behind j calls of the condition of Twice. -/
def TwInv (w0 : World) (g gs B : Nat) (A : Option Addr) (n c : Nat) (xs : List ByteArray) (j : Nat) (W : World) : Prop :=
  Box W g 39 (.map (some B)) ∧ Box W gs 23 (.slice A n c) ∧ Cnt W B j (cnt xs j) ∧ Below w0.heap.size w0 W
theorem twice_call (A : Option Addr) (c : Nat) (xs : List ByteArray) (w0 : World) (hl : xs.length ≤ 4294967296) (hs : ∀ x ∈ xs, x.size ≤ 4294967296) (hA : Strs w0 A xs) (g gs B : Nat) (hB : w0.heap.size ≤ B) (hgB : g ≠ B) (hgsB : gs ≠ B)
    (W : World) (hI : TwInv w0 g gs B A xs.length c xs 0 W) :
    Calls Try.prog 24 #[.int .i64 xs.length, .func (.func 29) #[] #[.pointer (some ⟨g, 0, none⟩), .pointer (some ⟨gs, 0, none⟩)]] W fun e w' => e = .returned (.int .i64 (twc xs)) ∧ Below w0.heap.size w0 w' := by
  refine (first_any xs.length (twice xs) 29 #[.pointer (some ⟨g, 0, none⟩), .pointer (some ⟨gs, 0, none⟩)] W hl (fun _ _ => by kernel_rfl) (TwInv w0 g gs B A xs.length c xs) hI ?_).mono ?_
  · rintro j W hj ⟨hb1, hb2, hc, hbl⟩ _
    obtain ⟨b, o, rfl, hlt, hcs⟩ := hA (by unfold scells; intro e; rw [List.map_eq_nil_iff] at e; subst e; simp at hj)
    have hcell : w0.cell? ⟨b, o + j, none⟩ = some (.string (xs.getD j ⟨#[]⟩)) := by
      refine hcs j _ ?_
      unfold scells
      rw [List.getElem?_map, List.getD_eq_getElem?_getD, List.getElem?_eq_getElem hj]
      rfl
    have hmem : xs.getD j ⟨#[]⟩ ∈ xs := by
      rw [List.getD_eq_getElem?_getD, List.getElem?_eq_getElem hj]
      exact List.getElem_mem hj
    refine (twice1_any b o c xs.length (xs.getD j ⟨#[]⟩) g gs B W hl (hs _ hmem) (cnt xs j) (Nat.le_trans (cnt_le xs j _) (by omega)) hb1.cell hb2.cell hgB hgsB (by omega) j hj ((hbl.cell (p := ⟨b, o + j, none⟩) hlt).trans hcell) hc).mono ?_
    rintro e W' ⟨rfl, hgr, hc'⟩
    refine ⟨ret_eq (bool_eq (twice_cnt xs j hj).symm), hb1.grown hgr (by simp; omega), hb2.grown hgr (by simp; omega), ?_, hbl.grown hgr hbl.size (fun k hk => by cases hk; exact hB)⟩
    have e : cnt xs (j + 1) = fun t => if t = xs.getD j ⟨#[]⟩ then cnt xs j (xs.getD j ⟨#[]⟩) + 1 else cnt xs j t := funext (cnt_succ xs j hj)
    rw [e]
    exact hc'
  · rintro e w' ⟨rfl, j, _, _, _, hb⟩
    exact ⟨rfl, hb⟩
theorem tw_start (A : Option Addr) (n c : Nat) (xs : List ByteArray) (w : World) :
    TwInv w (w.heap.size + 1 + 1) w.heap.size (w.heap.size + 1) A n c xs 0 (((w.alloc (.cells #[.slice A n c] 23)).alloc (.map #[] 0)).alloc (.cells #[.map (some (w.heap.size + 1))] 39)) := by
  refine ⟨?_, ((Box.new w _ _).alloc _).alloc _, ?_, (((Below.refl _ _).alloc (Nat.le_refl _) _).alloc (by simp) _).alloc (by simp; omega) _⟩
  · have h := Box.new ((w.alloc (.cells #[.slice A n c] 23)).alloc (.map #[] 0)) 39 (.map (some (w.heap.size + 1)))
    rw [show ((w.alloc (.cells #[.slice A n c] 23)).alloc (.map #[] 0)).heap.size = w.heap.size + 1 + 1 by simp] at h
    exact h
  · have h := (Cnt.new (w.alloc (.cells #[.slice A n c] 23))).kept (World.grownBy_alloc _ (.cells #[.map (some (w.heap.size + 1))] 39) none) (by simp)
    rw [show (w.alloc (.cells #[.slice A n c] 23)).heap.size = w.heap.size + 1 by simp] at h
    rw [cnt_zero]
    exact h
theorem twice_any (A : Option Addr) (c : Nat) (xs : List ByteArray) (w : World) (hl : xs.length ≤ 4294967296) (hs : ∀ x ∈ xs, x.size ≤ 4294967296) (hA : Strs w A xs) :
    Calls Try.prog 15 #[.slice A xs.length c] w fun e w' => e = .returned (.int .i64 (twc xs)) ∧ Below w.heap.size w w' := by
  have hmm := @run_makeMap Try.prog
  have hmf : ∀ (fn : Fn) (first cap : Array Value) (w : World), (Instr.makeFunc fn first cap).run Try.prog w = .ok (.func fn first cap) w := fun _ _ _ _ => rfl
  have HC := Lib.hid (twice_call A c xs w hl hs hA)
  clear hA hs
  have hst := tw_start A xs.length c xs w
  have HS := Lib.hid hst; clear hst
  go_enter Try.func15, Try.ntmps15
  go_wp2_with fail
  refine (HC.out (w.heap.size + 1 + 1) w.heap.size (w.heap.size + 1) (by omega) (by omega) (by omega) _ HS.out).mono ?_
  rintro e w' ⟨rfl, hb⟩
  go_wp2
  go_ret
  exact ⟨rfl, hb⟩
set_option maxHeartbeats 400000 in
theorem refTwice_any (A : Option Addr) (c : Nat) (xs : List ByteArray) (w : World) (hl : xs.length ≤ 4294967296) (hA : Strs w A xs) :
    Calls Try.prog 16 #[.slice A xs.length c] w fun e w' => e = .returned (.int .i64 (twc xs)) ∧ w = w' := by
  have HIT := Lib.hid (fun k => @NM.fst_hit (twice xs) xs.length k)
  have MISS := Lib.hid (@NM.fst_miss (twice xs) xs.length)
  have hR : twc xs = NM.fst (twice xs) xs.length := rfl
  have HF0 := Lib.hid (fun s => refFind_any A c xs s w hl hA)
  have HA := Lib.hid hA; clear hA
  generalize twc xs = r at *
  have HR := Lib.hid hR; clear hR
  generalize hn : xs.length = n at *
  have HN := Lib.hid hn; clear hn
  go_enter Try.func16, Try.ntmps16
  go_wp2
  go_loop [3] (fun iv => ∃ i : Nat, i ≤ n ∧ iv = .int .i64 i ∧ Hid (∀ j, j < i → twice xs j = false)) (fun iv => n - (intOf iv).toNat)
  case atStart => exact ⟨0, by omega, rfl, fun j hj => by omega⟩
  case round =>
    obtain ⟨i, hi, rfl, HF⟩ := hrel
    by_cases hlt : i < n
    · obtain ⟨b, o, rfl, hc⟩ := HA.out.at (k := i) (by rw [HN.out]; exact hlt)
      have hci := hc i (by rw [HN.out]; exact hlt)
      clear hc
      have htw : twice xs i = decide (idx xs (xs.getD i ⟨#[]⟩) < i) := rfl
      have HC := Lib.hid (HF0.out (xs.getD i ⟨#[]⟩))
      generalize xs.getD i ⟨#[]⟩ = x at *
      generalize idx xs x = q at *
      cases hd : twice xs i
      · rw [hd] at htw
        have HD := Lib.hid hd; clear hd
        have htw2 : ¬ (q < i) := of_decide_eq_false htw.symm
        clear htw
        go_wp2_with (go_at_call 14; refine HC.out.mono ?_; rintro e w' ⟨rfl, rfl⟩)
        go_round
        case rel =>
          refine ⟨i + 1, by omega, by go_num, ?_⟩
          show ∀ j, j < i + 1 → twice xs j = false
          intro j hj
          by_cases hji : j = i
          · rw [hji]; exact HD.out
          · exact HF.out j (by omega)
        case measure => simp [intOf]; omega
      · rw [hd] at htw
        have HD := Lib.hid hd; clear hd
        have htw2 : q < i := of_decide_eq_true htw.symm
        clear htw
        go_wp2_with (go_at_call 14; refine HC.out.mono ?_; rintro e w' ⟨rfl, rfl⟩)
        go_ret
        exact ⟨ret_eq (int_eq (by rw [HR.out]; exact (HIT.out i hlt HD.out HF.out).symm)), rfl⟩
    · obtain rfl : i = n := by omega
      go_wp2
      go_ret
      exact ⟨ret_eq (int_eq (by rw [HR.out]; exact (MISS.out HF.out).symm)), rfl⟩

/-- Is something longer than what the statements look at? -/
def longB (xs : List ByteArray) : Bool := decide (60 < xs.length) || xs.any fun x => decide (200 < x.size)
theorem longB_no {xs : List ByteArray} (h : longB xs = false) : xs.length ≤ 60 ∧ ∀ x ∈ xs, x.size ≤ 200 := by
  unfold longB at h
  simp only [Bool.or_eq_false_iff, decide_eq_false_iff_not, List.any_eq_false, decide_eq_true_eq] at h
  exact ⟨by omega, fun x hx => by have := h.2 x hx; omega⟩
theorem long_big (A : Option Addr) (c n : Nat) (w : World) (hl : 60 < n) :
    Calls Try.prog 7 #[.slice A n c] w fun e w' => e = .returned (.bool true) ∧ w = w' := by
  go_enter Try.func7, Try.ntmps7
  go_wp2
  go_ret
  exact ⟨rfl, rfl⟩
set_option maxHeartbeats 400000 in
theorem long_any (A : Option Addr) (c : Nat) (xs : List ByteArray) (w : World) (hA : Strs w A xs) :
    Calls Try.prog 7 #[.slice A xs.length c] w fun e w' => e = .returned (.bool (longB xs)) ∧ w = w' := by
  by_cases hbig : 60 < xs.length
  · have e : longB xs = true := by unfold longB; rw [decide_eq_true hbig]; rfl
    rw [e]
    exact long_big A c xs.length w hbig
  · have e : longB xs = xs.any fun x => decide (200 < x.size) := by unfold longB; rw [decide_eq_false hbig, Bool.false_or]
    have HY : Hid (∀ i, i < xs.length → 200 < (xs.getD i ⟨#[]⟩).size → longB xs = true) := by
      show ∀ i, i < xs.length → 200 < (xs.getD i ⟨#[]⟩).size → longB xs = true
      intro i hi h
      rw [e, List.any_eq_true]
      refine ⟨_, ?_, decide_eq_true h⟩
      rw [List.getD_eq_getElem?_getD, List.getElem?_eq_getElem hi]
      exact List.getElem_mem hi
    have HNO : Hid ((∀ i, i < xs.length → (xs.getD i ⟨#[]⟩).size ≤ 200) → longB xs = false) := by
      show (∀ i, i < xs.length → (xs.getD i ⟨#[]⟩).size ≤ 200) → longB xs = false
      intro h
      rw [e, List.any_eq_false]
      intro x hx
      rw [decide_eq_true_eq]
      obtain ⟨i, hi, he⟩ := List.mem_iff_getElem.1 hx
      have := h i hi
      rw [List.getD_eq_getElem?_getD, List.getElem?_eq_getElem hi, Option.getD_some, he] at this
      omega
    clear e
    have HA := Lib.hid hA; clear hA
    generalize longB xs = r at *
    generalize hn : xs.length = n at *
    have HN := Lib.hid hn; clear hn
    have hle : n ≤ 60 := by omega
    clear hbig
    go_enter Try.func7, Try.ntmps7
    go_wp2
    go_loop [3] (fun iv => ∃ i : Nat, i ≤ n ∧ iv = .int .i64 i ∧ Hid (∀ j, j < i → (xs.getD j ⟨#[]⟩).size ≤ 200)) (fun iv => n - (intOf iv).toNat)
    case atStart => exact ⟨0, by omega, rfl, fun j hj => by omega⟩
    case round =>
      obtain ⟨i, hi, rfl, HF⟩ := hrel
      by_cases hlt : i < n
      · obtain ⟨b, o, rfl, hc⟩ := HA.out.at (k := i) (by rw [HN.out]; exact hlt)
        have hci := hc i (by rw [HN.out]; exact hlt)
        clear hc
        have HYI := Lib.hid (HY.out i hlt)
        generalize hx : xs.getD i ⟨#[]⟩ = x at *
        have HX := Lib.hid hx; clear hx
        by_cases h2 : 200 < x.size
        · go_wp2
          go_ret
          exact ⟨ret_eq (bool_eq (HYI.out h2).symm), rfl⟩
        · go_wp2
          go_round
          case rel =>
            refine ⟨i + 1, by omega, by go_num, ?_⟩
            show ∀ j, j < i + 1 → (xs.getD j ⟨#[]⟩).size ≤ 200
            intro j hj
            by_cases hji : j = i
            · rw [hji, HX.out]; omega
            · exact HF.out j (by omega)
          case measure => simp [intOf]; omega
      · obtain rfl : i = n := by omega
        go_wp2
        go_ret
        exact ⟨ret_eq (bool_eq (HNO.out HF.out).symm), rfl⟩
end Go.Proofs.Ytjmhnbokojkceaa
