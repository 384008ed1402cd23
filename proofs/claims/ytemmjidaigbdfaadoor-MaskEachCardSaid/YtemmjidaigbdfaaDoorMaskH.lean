/-
  The statement MaskEach of layer 1: its function returns true. Conditions: the table of math/bits in memory.
-/
import Derived.Test.YtemmjidaigbdfaaDoorMaskE
namespace Go.Proofs.YtemmjidaigbdfaaDoor
open Go.RowKit

/-- What stands behind some elements: a variable in block g holds the list so far, one in block gn the number n. -/
def Got2 (B g gn : Nat) (n : Int) (w : World) (l : List Int) (W : World) : Prop :=
  ∃ A c, Box W g 22 (.slice A l.length c) ∧ OwnI W B A c l ∧ Box W gn 3 (.int .i64 n) ∧ Below w.heap.size w W

set_option maxHeartbeats 400000 in
theorem push2_any (B g gn : Nat) (n : Int) (w : World) (l : List Int) (x : Int) (W : World) (hl : l.length ≤ 4294967296) (hBs : B ≤ W.heap.size) (hg : g < B) (hgn : gn < B) (hne : gn ≠ g)
    (hw : w.heap.size ≤ g) (hwB : w.heap.size ≤ B) (h : Got2 B g gn n w l W) :
    Calls Tryd.prog 26 #[.int .i64 x, .pointer (some ⟨g, 0, none⟩), .pointer (some ⟨gn, 0, none⟩)] W fun e W' => e = .returned (.bool (decide ((l.length : Int) + 1 < n))) ∧ Got2 B g gn n w (l ++ [x]) W' ∧ W.heap.size ≤ W'.heap.size := by
  obtain ⟨A, c, hbox, hown, hboxn, hb⟩ := h
  have hcell := hbox.cell
  have hfree := hbox.free
  have hboxa : ∀ o, Box (W.alloc o) g 22 (.slice A l.length c) := fun o => hbox.alloc o
  have hboxna : ∀ o, Box (W.alloc o) gn 3 (.int .i64 n) := fun o => hboxn.alloc o
  generalize hn : l.length = m at *
  have HN := Lib.hid hn; clear hn
  have hown' : W.ownsRow B 3 1 (.slice A m c) m (cells l) := by
    have h4 := hown
    unfold OwnI at h4
    rw [HN.out] at h4
    exact h4
  clear hown
  have HNE := Lib.hid hne; clear hne
  have HHG := Lib.hid hg; have HHGN := Lib.hid hgn
  go_enter Tryd.func26, Tryd.ntmps26
  go_wp2_with (at_builtin; refine wpList_more _ rfl _ _ 22 rfl 3 (.int .i64 0) 1 8 Tryd.underlying22 infoInt rfl (by decide) (by decide) B A m c (cells l) rfl (hown'.alloc _) W.heap.size 1 1 [.int .i64 x] rfl rfl (by decide) (one_new _ _ _) ?c1 ?c2 ?c3 ?_; (case c1 => simp [Value.oneCell']); (case c2 => omega); (case c3 => simp; omega); intro A2 c2 w2 hown2 hb2 _; have hbox2 := (hboxa (.cells #[.int .i64 x] 3)).below hb2 HHG.out; have hboxn2 := (hboxna (.cells #[.int .i64 x] 3)).below hb2 HHGN.out; have hcell2 := hbox2.cell; have hfree2 := hbox2.free; have hbp := hbox2.put (.slice A2 (m + 1) c2); have hnp := hboxn2.far (p := ⟨g, 0, none⟩) (fun e => HNE.out e.symm) (.slice A2 (m + 1) c2); have hcp := hbp.cell; have hcn := hnp.cell)
  go_ret
  have hsz := hb2.size
  refine ⟨rfl, ⟨A2, c2, ?_, ?_, hnp, ?_⟩, ?_⟩
  · rw [List.length_append, HN.out]
    exact hbp
  · unfold OwnI
    rw [cells_snoc, List.length_append, HN.out]
    exact own_put hown2 hbox2 (by decide) _
  · exact ((hb.alloc hb.size _).trans (hb2.mono hwB)).setCell hw _
  · simp [World.setCell] at hsz ⊢; omega

/-- How many are handed on. -/
def takes (n : Int) (m : Nat) : Nat := if max 1 n < (m : Int) then (max 1 n).toNat else m
def EachInv (w : World) (n : Int) (els : List Nat) (j : Nat) (W : World) : Prop := Got2 (w.heap.size + 2) (w.heap.size + 1) w.heap.size n w (ei (els.take j)) W ∧ w.heap.size + 2 ≤ W.heap.size ∧ (j = 0 ∨ (j : Int) < n)
def EachFin (w : World) (n : Int) (els : List Nat) (W : World) : Prop := Got2 (w.heap.size + 2) (w.heap.size + 1) w.heap.size n w (ei (els.take (takes n els.length))) W ∧ w.heap.size + 2 ≤ W.heap.size

set_option maxHeartbeats 400000 in
theorem each_call (s : Nat) (hs : s < 18446744073709551616) (n : Int) (w : World) (hT : Tab w) (W0 : World) (h0 : EachInv w n (MM.els s) 0 W0) :
    Calls Tryd.prog 25 #[.int .u64 s, .func (.func 26) #[] #[.pointer (some ⟨w.heap.size + 1, 0, none⟩), .pointer (some ⟨w.heap.size, 0, none⟩)]] W0 fun e w' => e = .returned (.tuple #[]) ∧ EachFin w n (MM.els s) w' := by
  have h64 := MM.els_length s
  refine each_any s hs 26 #[.pointer (some ⟨w.heap.size + 1, 0, none⟩), .pointer (some ⟨w.heap.size, 0, none⟩)] W0 (fun _ _ => by kernel_rfl) (EachInv w n (MM.els s)) (EachFin w n (MM.els s)) ?_ h0 ?_ ?_
  · rintro j W ⟨⟨_, _, _, _, _, hb⟩, _⟩
    exact hT.below hb
  · rintro W ⟨hg, hsz, hj⟩
    refine ⟨?_, hsz⟩
    have : takes n (MM.els s).length = (MM.els s).length := by unfold takes; split <;> omega
    rw [this]
    exact hg
  · rintro j W hj ⟨hg, hsz, hj2⟩
    have hlen : (ei ((MM.els s).take j)).length = j := by rw [ei_length, List.length_take]; omega
    refine (push2_any (w.heap.size + 2) (w.heap.size + 1) w.heap.size n w _ _ W (by rw [hlen]; omega) hsz (by omega) (by omega) (by omega) (by omega) (by omega) hg).mono ?_
    rintro e W' ⟨rfl, hG, hsz2⟩
    rw [hlen]
    rw [← ei_take _ _ hj] at hG
    by_cases hlt : (j : Int) + 1 < n
    · exact .inl ⟨by simp [hlt], hG, by omega, .inr (by omega)⟩
    · refine .inr ⟨by simp [hlt], ?_, by omega⟩
      have : takes n (MM.els s).length = j + 1 := by unfold takes; split <;> omega
      rw [this]
      exact hG

theorem each_start (w : World) (n : Int) (l : List Nat) : EachInv w n l 0 ((w.alloc (.cells #[.int .i64 n] 3)).alloc (.cells #[.slice none 0 0] 22)) := by
  have hb : Below w.heap.size w ((w.alloc (.cells #[.int .i64 n] 3)).alloc (.cells #[.slice none 0 0] 22)) := ((Below.refl _ _).alloc (Nat.le_refl _) _).alloc (by simp) _
  have hbx := Box.new (w.alloc (.cells #[.int .i64 n] 3)) 22 (.slice none 0 0)
  rw [show (w.alloc (.cells #[.int .i64 n] 3)).heap.size = w.heap.size + 1 by simp] at hbx
  exact ⟨⟨none, 0, hbx, World.ownsRow_nil _ _ _ _, (Box.new w _ _).alloc _, hb⟩, by simp, .inl rfl⟩
theorem own_cap {w : World} {base size n c : Nat} {e : TypeId} {A : Option Addr} {cs : List Value} (h : w.ownsRow base e size (.slice A n c) n cs) : n ≤ c := by
  obtain ⟨A', c', hv, hc, _⟩ := own_form h
  injection hv with _ _ h3
  omega
theorem Ints.take {w : World} {A : Option Addr} {xs : List Int} (h : Ints w A xs) (k : Nat) : Ints w A (xs.take k) := fun hne => by
  have hne2 : xs.map (Value.int .i64) ≠ [] := by
    intro h2
    apply hne
    rw [List.map_take, h2, List.take_nil]
  obtain ⟨b, o, hA, hlt, hc⟩ := h hne2
  refine ⟨b, o, hA, hlt, fun j u hu => hc j u ?_⟩
  rw [List.map_take, List.getElem?_take] at hu
  split at hu
  · exact hu
  · cases hu
theorem ei_takes (l : List Nat) (k : Nat) : (ei l).take k = ei (l.take k) := by simp [ei, List.map_take]

set_option maxHeartbeats 400000 in
theorem each_a (s : Nat) (n : Int) (hn : n ≤ 1) (hl : 1 < (MM.els s).length) (hs : s < 18446744073709551616) (w : World) (hT : Tab w) :
    Calls Tryd.prog 6 #[.int .u64 s, .int .i64 n] w fun e w' => e = .returned (.bool true) ∧ Below w.heap.size w w' := by
  have hmf : ∀ (fn : Fn) (first cap : Array Value) (w : World), (Instr.makeFunc fn first cap).run Tryd.prog w = .ok (.func fn first cap) w := fun _ _ _ _ => rfl
  have h64 := MM.els_length s
  have HT := Lib.hid hT; clear hT
  have hcall := each_call s hs n w HT.out _ (each_start w n (MM.els s))
  have HC := Lib.hid hcall; clear hcall
  have hrl := refList_any s hs
  have htk : takes n (MM.els s).length = 1 := by unfold takes; split <;> omega
  generalize hm : (MM.els s).length = m at *
  have HM := Lib.hid hm; clear hm
  have HRL := Lib.hid hrl; clear hrl
  have htm : 1 ≤ m := by omega
  have HTK := Lib.hid htk; clear htk
  go_enter Tryd.func6, Tryd.ntmps6
  go_wp2_with fail
  refine HC.out.mono ?_
  rintro e W ⟨rfl, ⟨A, c, hbox, hown, hboxn, hb⟩, hsz⟩
  rw [HM.out, HTK.out] at hbox hown
  have HB := Lib.hid hb; clear hb
  have hlen : (ei ((MM.els s).take (1))).length = 1 := by rw [ei_length, List.length_take, HM.out]; omega
  rw [hlen] at hbox
  have HLEN := Lib.hid hlen; clear hlen
  go_wp2_with fail
  refine (HRL.out _).mono ?_
  rintro e W2 ⟨A2, c2, rfl, hown2, hb2⟩
  have hcap : m ≤ c2 := by have h := own_cap hown2; rw [ei_length, HM.out] at h; exact h
  have hbox2 := hbox.below hb2 (by omega)
  have hboxn2 := hboxn.below hb2 (by omega)
  have hcell := hbox2.cell
  have hcelln := hboxn2.cell
  have HB2 := Lib.hid (HB.out.trans (hb2.mono HB.out.size))
  have hcall2 := ints_any A A2 c c2 _ _ W2 (by rw [HLEN.out]; omega) (hown.ints.below hb2) (hown2.ints.take (1))
  rw [ei_takes, HLEN.out] at hcall2
  have HI := Lib.hid hcall2
  clear hcall2 hb2 hown hown2 hbox hboxn hbox2 hboxn2
  go_wp2_with fail
  refine HI.out.mono ?_
  rintro e w3 ⟨rfl, hb3⟩
  have HB3 := Lib.hid (HB2.out.trans (hb3.mono HB2.out.size))
  clear hb3
  go_wp2_with fail
  refine (alive_any _ (HT.out.below HB3.out)).mono ?_
  rintro e w4 ⟨rfl, hb4⟩
  have HB4 := Lib.hid (HB3.out.trans (hb4.mono HB3.out.size))
  clear hb4
  go_wp2
  go_ret
  exact ⟨rfl, HB4.out⟩

set_option maxHeartbeats 400000 in
theorem each_b (s : Nat) (n : Int) (hn : n ≤ 1) (hl : (MM.els s).length ≤ 1) (hs : s < 18446744073709551616) (w : World) (hT : Tab w) :
    Calls Tryd.prog 6 #[.int .u64 s, .int .i64 n] w fun e w' => e = .returned (.bool true) ∧ Below w.heap.size w w' := by
  have hmf : ∀ (fn : Fn) (first cap : Array Value) (w : World), (Instr.makeFunc fn first cap).run Tryd.prog w = .ok (.func fn first cap) w := fun _ _ _ _ => rfl
  have h64 := MM.els_length s
  have HT := Lib.hid hT; clear hT
  have hcall := each_call s hs n w HT.out _ (each_start w n (MM.els s))
  have HC := Lib.hid hcall; clear hcall
  have hrl := refList_any s hs
  have htk : takes n (MM.els s).length = (MM.els s).length := by unfold takes; split <;> omega
  generalize hm : (MM.els s).length = m at *
  have HM := Lib.hid hm; clear hm
  have HRL := Lib.hid hrl; clear hrl
  have htm : m ≤ m := by omega
  have HTK := Lib.hid htk; clear htk
  go_enter Tryd.func6, Tryd.ntmps6
  go_wp2_with fail
  refine HC.out.mono ?_
  rintro e W ⟨rfl, ⟨A, c, hbox, hown, hboxn, hb⟩, hsz⟩
  rw [HM.out, HTK.out] at hbox hown
  have HB := Lib.hid hb; clear hb
  have hlen : (ei ((MM.els s).take (m))).length = m := by rw [ei_length, List.length_take, HM.out]; omega
  rw [hlen] at hbox
  have HLEN := Lib.hid hlen; clear hlen
  go_wp2_with fail
  refine (HRL.out _).mono ?_
  rintro e W2 ⟨A2, c2, rfl, hown2, hb2⟩
  have hcap : m ≤ c2 := by have h := own_cap hown2; rw [ei_length, HM.out] at h; exact h
  have hbox2 := hbox.below hb2 (by omega)
  have hboxn2 := hboxn.below hb2 (by omega)
  have hcell := hbox2.cell
  have hcelln := hboxn2.cell
  have HB2 := Lib.hid (HB.out.trans (hb2.mono HB.out.size))
  have hcall2 := ints_any A A2 c c2 _ _ W2 (by rw [HLEN.out]; omega) (hown.ints.below hb2) (hown2.ints.take (m))
  rw [ei_takes, HLEN.out] at hcall2
  have HI := Lib.hid hcall2
  clear hcall2 hb2 hown hown2 hbox hboxn hbox2 hboxn2
  go_wp2_with fail
  refine HI.out.mono ?_
  rintro e w3 ⟨rfl, hb3⟩
  have HB3 := Lib.hid (HB2.out.trans (hb3.mono HB2.out.size))
  clear hb3
  go_wp2_with fail
  refine (alive_any _ (HT.out.below HB3.out)).mono ?_
  rintro e w4 ⟨rfl, hb4⟩
  have HB4 := Lib.hid (HB3.out.trans (hb4.mono HB3.out.size))
  clear hb4
  go_wp2
  go_ret
  exact ⟨rfl, HB4.out⟩

set_option maxHeartbeats 400000 in
theorem each_c (s : Nat) (k : Nat) (hn : 1 < k) (hl : k < (MM.els s).length) (hs : s < 18446744073709551616) (w : World) (hT : Tab w) :
    Calls Tryd.prog 6 #[.int .u64 s, .int .i64 k] w fun e w' => e = .returned (.bool true) ∧ Below w.heap.size w w' := by
  have hmf : ∀ (fn : Fn) (first cap : Array Value) (w : World), (Instr.makeFunc fn first cap).run Tryd.prog w = .ok (.func fn first cap) w := fun _ _ _ _ => rfl
  have h64 := MM.els_length s
  have HT := Lib.hid hT; clear hT
  have hcall := each_call s hs k w HT.out _ (each_start w k (MM.els s))
  have HC := Lib.hid hcall; clear hcall
  have hrl := refList_any s hs
  have htk : takes k (MM.els s).length = k := by unfold takes; split <;> omega
  generalize hm : (MM.els s).length = m at *
  have HM := Lib.hid hm; clear hm
  have HRL := Lib.hid hrl; clear hrl
  have htm : k ≤ m := by omega
  have HTK := Lib.hid htk; clear htk
  go_enter Tryd.func6, Tryd.ntmps6
  go_wp2_with fail
  refine HC.out.mono ?_
  rintro e W ⟨rfl, ⟨A, c, hbox, hown, hboxn, hb⟩, hsz⟩
  rw [HM.out, HTK.out] at hbox hown
  have HB := Lib.hid hb; clear hb
  have hlen : (ei ((MM.els s).take (k))).length = k := by rw [ei_length, List.length_take, HM.out]; omega
  rw [hlen] at hbox
  have HLEN := Lib.hid hlen; clear hlen
  go_wp2_with fail
  refine (HRL.out _).mono ?_
  rintro e W2 ⟨A2, c2, rfl, hown2, hb2⟩
  have hcap : m ≤ c2 := by have h := own_cap hown2; rw [ei_length, HM.out] at h; exact h
  have hbox2 := hbox.below hb2 (by omega)
  have hboxn2 := hboxn.below hb2 (by omega)
  have hcell := hbox2.cell
  have hcelln := hboxn2.cell
  have HB2 := Lib.hid (HB.out.trans (hb2.mono HB.out.size))
  have hcall2 := ints_any A A2 c c2 _ _ W2 (by rw [HLEN.out]; omega) (hown.ints.below hb2) (hown2.ints.take (k))
  rw [ei_takes, HLEN.out] at hcall2
  have HI := Lib.hid hcall2
  clear hcall2 hb2 hown hown2 hbox hboxn hbox2 hboxn2
  go_wp2_with fail
  refine HI.out.mono ?_
  rintro e w3 ⟨rfl, hb3⟩
  have HB3 := Lib.hid (HB2.out.trans (hb3.mono HB2.out.size))
  clear hb3
  go_wp2_with fail
  refine (alive_any _ (HT.out.below HB3.out)).mono ?_
  rintro e w4 ⟨rfl, hb4⟩
  have HB4 := Lib.hid (HB3.out.trans (hb4.mono HB3.out.size))
  clear hb4
  go_wp2
  go_ret
  exact ⟨rfl, HB4.out⟩

set_option maxHeartbeats 400000 in
theorem each_d (s : Nat) (k : Nat) (hn : 1 < k) (hl : (MM.els s).length ≤ k) (hs : s < 18446744073709551616) (w : World) (hT : Tab w) :
    Calls Tryd.prog 6 #[.int .u64 s, .int .i64 k] w fun e w' => e = .returned (.bool true) ∧ Below w.heap.size w w' := by
  have hmf : ∀ (fn : Fn) (first cap : Array Value) (w : World), (Instr.makeFunc fn first cap).run Tryd.prog w = .ok (.func fn first cap) w := fun _ _ _ _ => rfl
  have h64 := MM.els_length s
  have HT := Lib.hid hT; clear hT
  have hcall := each_call s hs k w HT.out _ (each_start w k (MM.els s))
  have HC := Lib.hid hcall; clear hcall
  have hrl := refList_any s hs
  have htk : takes k (MM.els s).length = (MM.els s).length := by unfold takes; split <;> omega
  generalize hm : (MM.els s).length = m at *
  have HM := Lib.hid hm; clear hm
  have HRL := Lib.hid hrl; clear hrl
  have htm : m ≤ m := by omega
  have HTK := Lib.hid htk; clear htk
  go_enter Tryd.func6, Tryd.ntmps6
  go_wp2_with fail
  refine HC.out.mono ?_
  rintro e W ⟨rfl, ⟨A, c, hbox, hown, hboxn, hb⟩, hsz⟩
  rw [HM.out, HTK.out] at hbox hown
  have HB := Lib.hid hb; clear hb
  have hlen : (ei ((MM.els s).take (m))).length = m := by rw [ei_length, List.length_take, HM.out]; omega
  rw [hlen] at hbox
  have HLEN := Lib.hid hlen; clear hlen
  go_wp2_with fail
  refine (HRL.out _).mono ?_
  rintro e W2 ⟨A2, c2, rfl, hown2, hb2⟩
  have hcap : m ≤ c2 := by have h := own_cap hown2; rw [ei_length, HM.out] at h; exact h
  have hbox2 := hbox.below hb2 (by omega)
  have hboxn2 := hboxn.below hb2 (by omega)
  have hcell := hbox2.cell
  have hcelln := hboxn2.cell
  have HB2 := Lib.hid (HB.out.trans (hb2.mono HB.out.size))
  have hcall2 := ints_any A A2 c c2 _ _ W2 (by rw [HLEN.out]; omega) (hown.ints.below hb2) (hown2.ints.take (m))
  rw [ei_takes, HLEN.out] at hcall2
  have HI := Lib.hid hcall2
  clear hcall2 hb2 hown hown2 hbox hboxn hbox2 hboxn2
  go_wp2_with fail
  refine HI.out.mono ?_
  rintro e w3 ⟨rfl, hb3⟩
  have HB3 := Lib.hid (HB2.out.trans (hb3.mono HB2.out.size))
  clear hb3
  go_wp2_with fail
  refine (alive_any _ (HT.out.below HB3.out)).mono ?_
  rintro e w4 ⟨rfl, hb4⟩
  have HB4 := Lib.hid (HB3.out.trans (hb4.mono HB3.out.size))
  clear hb4
  go_wp2
  go_ret
  exact ⟨rfl, HB4.out⟩

theorem maskEach_law (s : Nat) (n : Int) (hs : s < 18446744073709551616) (w : World) (hT : Tab w) :
    Calls Tryd.prog 6 #[.int .u64 s, .int .i64 n] w fun e w' => e = .returned (.bool true) ∧ Below w.heap.size w w' := by
  by_cases hn : n ≤ 1
  · by_cases hl : 1 < (MM.els s).length
    · exact each_a s n hn hl hs w hT
    · exact each_b s n hn (by omega) hs w hT
  · obtain ⟨k, rfl⟩ := Int.eq_ofNat_of_zero_le (show 0 ≤ n by omega)
    by_cases hl : k < (MM.els s).length
    · exact each_c s k (by omega) hl hs w hT
    · exact each_d s k (by omega) (by omega) hs w hT
end Go.Proofs.YtemmjidaigbdfaaDoor
