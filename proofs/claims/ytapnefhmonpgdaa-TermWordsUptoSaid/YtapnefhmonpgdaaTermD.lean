/-
  The program's reader: what stands in a bracket. Conditions: lists of trees of at most 2^41.
-/
import Derived.Test.YtapnefhmonpgdaaTermC
namespace Go.Proofs.Ytapnefhmonpgdaa
open Go.RowKit LX TR TM

/-- What the content of a bracket does: it reads the bracket's list, and puts what it has read where V says. -/
def Content {α : Type} (G : FuncId) (caps : Array Value) (V : World → α → Prop) (rd : Rdr α) (b g N : Nat) (x0 : α) : Prop :=
  ∀ (w : World) (A : Option Addr) (c : Nat) (l : List Tr) (e : Int), V w x0 → Rs w b A c l 0 e none → (nodes l).length ≤ N →
    Calls Try.prog G caps w fun e' w' => ∃ x i2 f2, e' = .returned (.tuple #[]) ∧ V w' x ∧ Rs w' b A c l i2 e f2 ∧ Below b w w' ∧ (∀ k, k < w.heap.size → k ≠ b → k ≠ g → w'.heap[k]? = w.heap[k]?) ∧ Step rd l 0 e none x i2 f2
/-- Two old blocks may be others. -/
structure Mv2 (b g : Nat) (w w' : World) : Prop where
  low : Below b w w'
  block : ∀ k, k < w.heap.size → k ≠ b → k ≠ g → w'.heap[k]? = w.heap[k]?
theorem Mv.two {b : Nat} {w w' : World} (h : Mv b w w') (g : Nat) : Mv2 b g w w' := ⟨h.low, fun k hk h1 _ => h.block k hk h1⟩
theorem Mv2.trans {b g : Nat} {w w' w2 : World} (h : Mv2 b g w w') (h2 : Mv2 b g w' w2) : Mv2 b g w w2 :=
  ⟨h.low.trans h2.low, fun k hk hb hg => (h2.block k (Nat.lt_of_lt_of_le hk h.low.size) hb hg).trans (h.block k hk hb hg)⟩
/-- A reader turned to another list. -/
def turn (w : World) (b : Nat) (A : Option Addr) (n c : Nat) (i e : Int) : World := ((w.setCell ⟨b, 0, none⟩ (.slice A n c)).setCell ⟨b, 1, none⟩ (.int .i64 i)).setCell ⟨b, 2, none⟩ (.int .i64 e)
theorem turn_mv (w : World) (b : Nat) (hb : b < w.heap.size) (A : Option Addr) (n c : Nat) (i e : Int) : Mv b w (turn w b A n c i e) :=
  (((Mv.refl b w).setCell (p := ⟨b, 0, none⟩) (.inl rfl) hb _).setCell (p := ⟨b, 1, none⟩) (.inl rfl) hb _).setCell (p := ⟨b, 2, none⟩) (.inl rfl) hb _
theorem turn_rs {w : World} {b : Nat} {A A2 : Option Addr} {c c2 : Nat} {l l2 : List Tr} {i e i2 e2 : Int} {f : Option Int} (h : Rs w b A c l i e f) (hT : Trs w b A2 l2) (hl : l2.length ≤ 2199023255552 ∧ ∀ x ∈ nodes l2, x.ks.length ≤ 2199023255552) :
    Rs (turn w b A2 l2.length c2 i2 e2) b A2 c2 l2 i2 e2 f := ⟨((h.at_.put 0 _).put 1 _).put 2 _, hT.below (turn_mv w b h.lt _ _ _ _ _).low, hl⟩
/-- The end of a list is asked. -/
theorem ended_rs {w : World} {b : Nat} {A : Option Addr} {c : Nat} {l : List Tr} {i e : Int} {f : Option Int} (h : Rs w b A c l i e f) :
    Calls Try.prog 98 #[.pointer (some ⟨b, 0, none⟩)] w fun e' w' => e' = .returned (.bool (decide (rest l i = []))) ∧ Dr w w' := by
  have h1 := ended_any b A l.length c i e (fc f) (fa f) w h.at_
  rw [show decide (i < 0 ∨ (l.length : Int) ≤ i) = decide (rest l i = []) from by rw [Bool.eq_iff_iff]; simp only [decide_eq_true_eq]; exact rest_nil.symm] at h1
  exact h1

set_option maxRecDepth 100000 in
set_option maxHeartbeats 1600000 in
theorem within_any {α : Type} {G : FuncId} {caps : Array Value} {V : World → α → Prop} {rd : Rdr α} {g N : Nat} (k : Nat) (hk : 0 < k)
    (hf : ∀ w, (callFunc G caps).run Try.prog w = .ok (.enter G caps) w)
    {w : World} {b : Nat} {A : Option Addr} {c : Nat} {l : List Tr} {i e : Int} {f : Option Int} {x0 : α} (h : Rs w b A c l i e f) (hg : b < g) (hgw : g < w.heap.size) (hN : (nodes (rest l i)).length ≤ N + 1)
    (HG : Content G caps V rd b g N x0) (hV : V w x0) (hV2 : ∀ wa wb x, V wa x → (∀ k, k < wa.heap.size → k ≠ b → wb.heap[k]? = wa.heap[k]?) → V wb x) :
    Calls Try.prog 63 #[.pointer (some ⟨b, 0, none⟩), .int .u8 (k : Int), .func (.func G) #[] caps] w fun e' w' => ∃ x i2 f2, e' = .returned (.tuple #[]) ∧ V w' x ∧ Rs w' b A c l i2 e f2 ∧ Mv2 b g w w' ∧ Step (withinR k rd) l i e f x i2 f2 := by
  have hbw := h.lt
  have HT := Lib.hid (take_any h k hk)
  obtain ⟨c0, c1, c2, c3, c4⟩ := rd_cells h.at_
  have HRS := Lib.hid h; clear h
  have HV := Lib.hid hV; clear hV
  have HV2 := Lib.hid hV2; clear hV2
  have HGG := Lib.hid HG; clear HG
  go_enter Try.func63, Try.ntmps63
  go_wp2_with fail
  refine HT.out.mono ?_
  rintro e' w1 ⟨t, i2, f2, rfl, hs, hm, hst⟩
  cases f2 with
  | some p =>
    obtain ⟨c0', c1', c2', c3', c4'⟩ := rd_cells hs.at_
    simp only [fc, Option.isSome_some, if_true] at c3'
    have HS1 := Lib.hid hs
    have HM1 := Lib.hid hm
    have HST := Lib.hid (within_fault (rd := rd) hst x0)
    have HV1 := Lib.hid (HV2.out w w1 x0 HV.out hm.block)
    clear hs hm hst c0 c1 c2 c3 c4
    go_wp2
    exact bodyPost_ret (results_none rfl _ _ _) rfl ⟨x0, i2, some p, rfl, HV1.out, HS1.out, HM1.out.two g, HST.out⟩
  | none =>
    obtain ⟨rfl, j, rfl, hj, rfl, rfl, hkk, hrest⟩ := take_ok hst
    obtain ⟨c0', c1', c2', c3', c4'⟩ := rd_cells hs.at_
    simp only [fc, Option.isSome_none, Bool.false_eq_true, if_false] at c3'
    obtain ⟨bb, o, rfl, hbl, hc⟩ := hs.trs.at hj
    obtain ⟨k0, k1, k2, k3, k4⟩ := hc j hj
    have hjn : (j : Int) < (l.length : Int) := by omega
    have hb1 : b < w1.heap.size := hs.lt
    have hb2 : bb < w1.heap.size := by omega
    have HS1 := Lib.hid hs
    have HM1 := Lib.hid hm
    have HV1 := Lib.hid (HV2.out w w1 x0 HV.out hm.block)
    have HKT := Lib.hid (hs.trs.kidAt hj)
    have HKL := Lib.hid (hs.len.2 (l.getD j r0) (mem_nodes (getD_mem hj)))
    have HKN : Hid (∀ x ∈ nodes (l.getD j r0).ks, x.ks.length ≤ 2199023255552) := fun x hx => hs.len.2 x (mem_kids (getD_mem hj) hx)
    have HNN : Hid ((nodes (l.getD j r0).ks).length ≤ N) := by
      have h1 := nodes_kid (l := rest l j) (x := l.getD j r0) (by rw [hrest]; simp)
      show _ ≤ N
      omega
    have HSTEP : Hid (∀ (x : α) i3 f3 f4, Step rd (l.getD j r0).ks 0 (l.getD j r0).e none x i3 f3 → ((rest (l.getD j r0).ks i3 = [] ∧ f4 = f3) ∨ (rest (l.getD j r0).ks i3 ≠ [] ∧ f4 = some (f3.getD (offOf (rest (l.getD j r0).ks i3) (l.getD j r0).e)))) → Step (withinR k rd) l j e none x ((j : Int) + 1) f4) := fun x i3 f3 f4 h1 h2 => within_step hkk hrest h1 h2
    clear hs hm hst c0 c1 c2 c3 c4 hc hkk hrest HT
    generalize l.getD j r0 = y at *
    obtain ⟨⟨q, s, p⟩, YA, yc, ks, ye⟩ := y
    simp only [Tr.t, Tr.A, Tr.c, Tr.ks, Tr.e] at *
    generalize hn : l.length = n at *
    generalize hnk : ks.length = nk at *
    have HN := Lib.hid hn; clear hn
    have HNK := Lib.hid hnk; clear hnk
    have HMZ : Hid (w.heap.size ≤ w1.heap.size) := HM1.out.size
    have hB2 : Below w1.heap.size w1 (((w1.alloc (.cells #[.slice (some ⟨bb, o, none⟩) n c, .int .i64 ((j : Int) + 1), .int .i64 e] 93)).alloc (.cells #[.int .u8 (q : Int), .string s, .int .i64 p, .slice YA nk yc, .int .i64 ye] 57))) := ((Below.refl _ _).alloc (Nat.le_refl _) _).alloc (by simp) _
    have HS2 := Lib.hid (HS1.out.below hB2)
    have HM2 := Lib.hid (HM1.out.onBelow hbw hB2 HM1.out.size)
    have HV2' := Lib.hid (HV2.out _ _ _ HV1.out fun k hk _ => hB2.block k hk)
    have HO1 := Lib.hid ((RowAt.new w1 93 #[.slice (some ⟨bb, o, none⟩) n c, .int .i64 ((j : Int) + 1), .int .i64 e]).alloc (.cells #[.int .u8 (q : Int), .string s, .int .i64 p, .slice YA nk yc, .int .i64 ye] 57))
    have HO2 := Lib.hid (RowAt.new (w1.alloc (.cells #[.slice (some ⟨bb, o, none⟩) n c, .int .i64 ((j : Int) + 1), .int .i64 e] 93)) 57 #[.int .u8 (q : Int), .string s, .int .i64 p, .slice YA nk yc, .int .i64 ye])
    rw [show (w1.alloc (.cells #[.slice (some ⟨bb, o, none⟩) n c, .int .i64 ((j : Int) + 1), .int .i64 e] 93)).heap.size = w1.heap.size + 1 by simp] at HO2
    have HKT2 := Lib.hid (HKT.out.below (hB2.mono (Nat.le_of_lt hb1)))
    clear hB2
    go_upto_region 5 with fail
    clear c0' c1' c2' c3' c4' k0 k1 k2 k3 k4 HS1 HM1 HV1 HKT
    generalize ((w1.alloc (.cells #[.slice (some ⟨bb, o, none⟩) n c, .int .i64 ((j : Int) + 1), .int .i64 e] 93)).alloc (.cells #[.int .u8 (q : Int), .string s, .int .i64 p, .slice YA nk yc, .int .i64 ye] 57)) = w2 at *
    have hz : w1.heap.size < w2.heap.size := HO1.out.lt
    obtain ⟨m0, m1, m2, m3, m4, n0, n1, n2, n3, n4⟩ := row5 HO2.out
    have f0 := HS2.out.at_.free 0
    have f1 := HS2.out.at_.free 1
    have f2 := HS2.out.at_.free 2
    obtain ⟨c0, c1, c2, c3, c4⟩ := rd_cells HS2.out.at_
    go_upto_region 6 with fail
    clear m0 m1 m2 m3 m4 n0 n1 n2 n3 n4 c0 c1 c2 c3 c4 f0 f1 f2
    have HTM := Lib.hid (turn_mv w2 b (Nat.lt_trans hb1 hz) YA nk yc 0 ye)
    have HRS3 : Hid (Rs (turn w2 b YA nk yc 0 ye) b YA yc ks 0 ye none) := by
      have h1 := turn_rs (c2 := yc) (i2 := 0) (e2 := ye) HS2.out HKT2.out (by rw [HNK.out]; exact ⟨HKL.out, HKN.out⟩)
      rw [HNK.out] at h1
      exact h1
    have HV3 := Lib.hid (HV2.out _ _ _ HV2'.out HTM.out.block)
    have HO3 := Lib.hid (HO1.out.mv HTM.out (Nat.ne_of_gt hb1))
    have HM3 := Lib.hid (HM2.out.trans HTM.out)
    have HL3 := Lib.hid (HS2.out.trs.below HTM.out.low)
    have HLL := Lib.hid HS2.out.len
    change Code.wp _ _ _ _ (turn w2 b YA nk yc 0 ye)
    generalize turn w2 b YA nk yc 0 ye = w3 at *
    have HM0S : Hid (g < w1.heap.size) := Nat.lt_of_lt_of_le hgw HMZ.out
    clear HTM HS2 HM2 HV2' HO2 HKT2 HO1 hz
    have HCC := Lib.hid (HGG.out w3 YA yc ks ye HV3.out HRS3.out HNN.out)
    go_wp2_with fail
    refine HCC.out.mono ?_
    rintro e' w4 ⟨x, i3, f3, rfl, hv4, hs4, hlow, hblk, hst⟩
    have HE4 := Lib.hid (ended_rs hs4)
    have HO4 : Hid (RowAt w4 w1.heap.size 93 #[.slice (some ⟨bb, o, none⟩) n c, .int .i64 ((j : Int) + 1), .int .i64 e]) := (hblk _ HO3.out.lt (Nat.ne_of_gt hb1) (by have := HM0S.out; omega)).trans HO3.out
    have HM4 : Hid (Mv2 b g w w4) := (HM3.out.two g).trans ⟨hlow, hblk⟩
    have HL4 := Lib.hid (HL3.out.below hlow)
    have HS4 := Lib.hid hs4
    have HV4 := Lib.hid hv4
    have HST := Lib.hid hst
    clear hv4 hs4 hlow hblk hst HCC HO3 HM3 HL3 HV3 HRS3
    by_cases hend : rest ks i3 = []
    · rw [decide_eq_true hend] at HE4
      have HSF := Lib.hid (HSTEP.out x i3 f3 f3 HST.out (.inl ⟨hend, rfl⟩))
      clear hend
      go_wp2_with fail
      refine HE4.out.mono ?_
      rintro e' w5 ⟨rfl, hd⟩
      have HS5 : Hid (Rs w5 b YA yc ks i3 ye f3) := HS4.out.dr hd
      have HL5 := Lib.hid (HL4.out.below ((hd.below).mono (by have := HS4.out.lt; omega)))
      have HM5 : Hid (Mv2 b g w w5) := (HM4.out.trans (Mv.two (Mv.below HS4.out.lt hd.below) g))
      have HV5 : Hid (V w5 x) := HV2.out _ _ _ HV4.out fun k hk _ => hd.below.block k hk
      have HO5 := Lib.hid (HO4.out.below hd.below HO4.out.lt)
      clear hd HS4 HL4 HM4 HV4 HO4 HE4
      obtain ⟨n0, n1, n2, _, _, _⟩ := row3 HO5.out
      have g0 := HS5.out.at_.free 0
      have g1 := HS5.out.at_.free 1
      have g2 := HS5.out.at_.free 2
      obtain ⟨c0, c1, c2, c3, c4⟩ := rd_cells HS5.out.at_
      go_wp2_with fail
      go_end0
      have hrf := turn_rs (c2 := c) (i2 := (j : Int) + 1) (e2 := e) HS5.out HL5.out HLL.out
      rw [HN.out] at hrf
      have hmf := turn_mv w5 b HS5.out.lt (some ⟨bb, o, none⟩) n c ((j : Int) + 1) e
      exact ⟨x, (j : Int) + 1, _, rfl, HV2.out _ _ _ HV5.out hmf.block, hrf, HM5.out.trans (hmf.two g), HSF.out⟩
    · rw [decide_eq_false hend] at HE4
      have HSF := Lib.hid (HSTEP.out x i3 f3 _ HST.out (.inr ⟨hend, rfl⟩))
      clear hend
      go_wp2_with fail
      refine HE4.out.mono ?_
      rintro e' w5' ⟨rfl, hd⟩
      have HF5 := Lib.hid (fail_any (HS4.out.dr hd))
      have HD5 := Lib.hid hd
      clear hd
      go_wp2_with fail
      refine HF5.out.mono ?_
      rintro e' w5 ⟨rfl, hs5, hm5, hz5⟩
      have hmm := (Mv.below HS4.out.lt HD5.out.below).trans hm5
      have HS5 : Hid (Rs w5 b YA yc ks i3 ye (some (f3.getD (offOf (rest ks i3) ye)))) := hs5
      have HL5 := Lib.hid (HL4.out.below ((hmm.low).mono (by have := HS4.out.lt; omega)))
      have HM5 : Hid (Mv2 b g w w5) := (HM4.out.trans (hmm.two g))
      have HV5 : Hid (V w5 x) := HV2.out _ _ _ HV4.out hmm.block
      have HO5 := Lib.hid (HO4.out.mv hmm (Nat.ne_of_gt hb1))
      clear hs5 hm5 hz5 hmm HS4 HL4 HM4 HV4 HO4 HE4
      obtain ⟨n0, n1, n2, _, _, _⟩ := row3 HO5.out
      have g0 := HS5.out.at_.free 0
      have g1 := HS5.out.at_.free 1
      have g2 := HS5.out.at_.free 2
      obtain ⟨c0, c1, c2, c3, c4⟩ := rd_cells HS5.out.at_
      go_wp2_with fail
      go_end0
      have hrf := turn_rs (c2 := c) (i2 := (j : Int) + 1) (e2 := e) HS5.out HL5.out HLL.out
      rw [HN.out] at hrf
      have hmf := turn_mv w5 b HS5.out.lt (some ⟨bb, o, none⟩) n c ((j : Int) + 1) e
      exact ⟨x, (j : Int) + 1, _, rfl, HV2.out _ _ _ HV5.out hmf.block, hrf, HM5.out.trans (hmf.two g), HSF.out⟩
end Go.Proofs.Ytapnefhmonpgdaa
