/-
  The program's reader: rows. Conditions: at most 2^32 trees.
-/
import Derived.Test.YtapnefhmonpgdaaTermK
namespace Go.Proofs.Ytapnefhmonpgdaa
open Go.RowKit LX TR TM

/-- A variable for a row whose kids and names are read, and one for the reader. -/
def BoxR (b r g : Nat) (p : Int) (w : World) (x : List Nd × List Wd) : Prop :=
  (∃ A c B d zs, TM.er zs = x.1 ∧ zs.length ≤ d ∧ x.2.length ≤ c ∧ RowAt w g 32 #[.int .i64 10, .int .i64 p, .string ⟨#[]⟩, .slice A x.2.length c, .slice B zs.length d] ∧ SlC w (fun k => g < k) A (wcs x.2) ∧ SlC w (fun k => g < k) B (ncs zs) ∧ DeepN w (fun k => g < k) zs) ∧ RowAt w r 62 #[.pointer (some ⟨b, 0, none⟩)]
theorem BoxR.keep {b r g : Nat} {p : Int} {wa wb : World} {x : List Nd × List Wd} (h : BoxR b r g p wa x) (hr : r ≠ b) (hb : b < g) (hk : ∀ k, k < wa.heap.size → k ≠ b → wb.heap[k]? = wa.heap[k]?) : BoxR b r g p wb x := by
  obtain ⟨⟨A, c, B, d, zs, h0, h1, h1', h2, h3, h3', h5⟩, h4⟩ := h
  exact ⟨⟨A, c, B, d, zs, h0, h1, h1', (hk g h2.lt (by omega)).trans h2, h3.keep9 fun k hlt hok => hk k hlt (by omega), h3'.keep9 fun k hlt hok => hk k hlt (by omega), h5.keep9 fun k hlt hok => hk k hlt (by omega)⟩, (hk r h4.lt hr).trans h4⟩
section
variable {d : Nat} {l : List Tr} {i e : Int} {f : Option Int} {i2 i3 : Int} {f2 f3 : Option Int} {ks : List Nd}
theorem tail_none (hk : kindOf (rest l i) f ≠ 124) : Step (tailR ks) l i e f (ks, []) i f := by
  cases f with
  | some p => exact Step.bad (Adv.refl _ _)
  | none =>
    refine Step.ok (Adv.refl _ _) ?_
    cases hr : rest l i with
    | nil => rfl
    | cons y r =>
      rw [hr] at hk
      have q : ¬ y.t.k = 124 := hk
      simp only [tailR]
      rw [if_neg q]
theorem tail_some {t : Tk} {x : Wd} (hk : kindOf (rest l i) f = 124) (h : Step (takeR 124) l i e f t i2 f2) (h2 : Step nameR l i2 e f2 x i3 f3) : Step (tailR ks) l i e f (ks, [x]) i3 f3 := by
  obtain ⟨rfl, y, r, hr, hy⟩ := kind_head hk (by decide)
  have e2 := h2.map (fun w : Wd => (ks, [w]))
  refine Step.of_eq (Step.bind (rd2 := fun _ ts e' => bnd (nameR ts e') fun w r2 => .ok ((ks, [w]), r2)) h e2) ?_
  rw [hr, takeR_hit hy]
  simp only [tailR]
  rw [if_pos hy]; rfl
theorem inrow_step {x : List Nd × List Wd} (h : Step (optR (fieldR d)) l i e f ks i2 f2) (h2 : Step (tailR ks) l i2 e f2 x i3 f3) : Step (inrowR d) l i e f x i3 f3 := by
  have h3 := Step.bind (rd2 := fun ks ts e => tailR ks ts e) h h2
  exact h3
theorem row_var {x : Nd} (hk : kindOf (rest l i) f ≠ 91) (h : Step varR l i e f x i2 f2) : Step (rowR d) l i e f x i2 f2 := by
  cases f with
  | some p =>
    obtain rfl := h.2.1 p rfl
    exact Step.bad h.1
  | none =>
    refine h.of_eq ?_
    cases hr : rest l i with
    | nil => rfl
    | cons y r =>
      rw [hr] at hk
      have q : ¬ y.t.k = 91 := hk
      simp only [rowR]
      rw [if_neg q]
theorem row_in {x : List Nd × List Wd} (hk : kindOf (rest l i) f = 91) (h : Step (withinR 91 (inrowR d)) l i e f x i2 f2) : Step (rowR d) l i e f (nd 10 (offOf (rest l i) e) e0 x.2 x.1) i2 f2 := by
  obtain ⟨rfl, y, r, hr, hy⟩ := kind_head hk (by decide)
  refine Step.of_eq (h.map fun kw => nd 10 (offOf (rest l i) e) e0 kw.2 kw.1) ?_
  rw [hr]
  simp only [rowR]
  rw [if_pos hy]; rfl
end
set_option maxRecDepth 100000 in
set_option maxHeartbeats 3200000 in
theorem row1_in (N b r g : Nat) (p : Int) (hb : b < g) (hr : r ≠ b) (hrg : r ≠ g) (hN : N ≤ 4294967296) : Content 95 #[.pointer (some ⟨r, 0, none⟩), .pointer (some ⟨g, 0, none⟩)] (BoxR b r g p) (inrowR (N + 1)) b g N ([], []) := by
  intro w A c l e hv h hNl
  obtain ⟨⟨A0, c0, B0, d0, zs0, he0, _, _, hg0, _, _, _⟩, hr0⟩ := hv
  obtain rfl : zs0 = [] := by
    have h1 : (TM.er zs0).length = 0 := by rw [he0]; rfl
    rw [TM.er_length] at h1
    exact List.eq_nil_of_length_eq_zero h1
  have r0 := (hr0.cell 0).trans rfl
  have hll := length_nodes l
  have HC := Lib.hid (optN_any (fun _ _ => by kernel_rfl) (field_any N hN) h (by simpa [rest] using hNl) (by omega))
  have hbw := h.lt
  have hgw := hg0.lt
  have HG0 := Lib.hid hg0
  have HR0 := Lib.hid hr0
  clear h hg0 hr0 he0
  refine calls_hid fun Q' hQ => ?_
  have HQ := Lib.hid hQ; clear hQ
  go_enter Try.func95, Try.ntmps95
  go_wp2_with fail
  refine HC.out.mono ?_
  rintro e' w1 ⟨v, x, i2, f2, rfl, ⟨X, d, zs, rfl, hd, rfl, hsl, hdp⟩, hs, hm, hst⟩
  have HG1 := Lib.hid (HG0.out.mv hm (by omega))
  have HR1 := Lib.hid (HR0.out.mv hm (by omega))
  have hoth : ∀ k, k ≠ g → (w1.setCell ⟨g, 4, none⟩ (.slice X zs.length d)).heap[k]? = w1.heap[k]? := fun k hk => by
    simp only [World.setCell, Array.getElem?_modify]
    rw [if_neg (Ne.symm hk)]
  have HSL : Hid (SlC (w1.setCell ⟨g, 4, none⟩ (.slice X zs.length d)) (fun k => g < k) X (ncs zs)) := hsl.keep (by simp [World.setCell]) (fun k _ hk => hoth k (by omega)) fun k _ hk => by omega
  have HDP : Hid (DeepN (w1.setCell ⟨g, 4, none⟩ (.slice X zs.length d)) (fun k => g < k) zs) := hdp.keep (by simp [World.setCell]) (fun k _ hk => hoth k (by omega)) fun k _ hk => by omega
  have HOT := Lib.hid hoth
  have HS2 := Lib.hid (hs.far (g := g) (j := 4) (u := .slice X zs.length d) (by omega))
  have HG2 := Lib.hid (HG1.out.put 4 (.slice X zs.length d))
  have HR2 := Lib.hid (HR1.out.far (p := ⟨g, 4, none⟩) (Ne.symm hrg) (.slice X zs.length d))
  have HB2 : Hid (Below b w (w1.setCell ⟨g, 4, none⟩ (.slice X zs.length d))) := hm.low.setCell (p := ⟨g, 4, none⟩) (by show b ≤ g; omega) _
  have HF2 : Hid (∀ k, k < w.heap.size → k ≠ b → k ≠ g → (w1.setCell ⟨g, 4, none⟩ (.slice X zs.length d)).heap[k]? = w.heap[k]?) := fun k hk h1 h2 => (hoth k h2).trans (hm.block k hk h1)
  have HST := Lib.hid hst
  have g4 := (HG1.out.cell 4).trans rfl
  have u4 := HG1.out.free 4
  have hgg : g < w1.heap.size := HG1.out.lt
  clear hs hm hst hsl hdp hoth r0
  go_upto_region 1 with fail
  have hw2 : (w1.setCell ⟨g, 4, none⟩ (.slice X zs.length d)).heap.size = w1.heap.size := by simp [World.setCell]
  clear g4 u4 HG1 HR1 HOT
  generalize w1.setCell ⟨g, 4, none⟩ (.slice X zs.length d) = w2 at *
  have r2 := (HR2.out.cell 0).trans rfl
  have HK2 := Lib.hid (kind_any HS2.out)
  by_cases hk : kindOf (rest l i2) f2 = 124
  · rw [hk] at HK2
    have HKK := Lib.hid hk; clear hk
    go_wp2_with fail
    refine HK2.out.mono ?_
    rintro e' w3 ⟨rfl, hd3⟩
    have HR3 := Lib.hid (HR2.out.below hd3.below HR2.out.lt)
    have HM3 := Lib.hid (Mv.below HS2.out.lt hd3.below)
    have HT3 := Lib.hid (take_any (HS2.out.dr hd3) 124 (by decide))
    have r3 := (HR3.out.cell 0).trans rfl
    clear hd3 r2
    go_wp2_with fail
    refine HT3.out.mono ?_
    rintro e' w4 ⟨t, i3, f3, rfl, hs4, hm4, hst4⟩
    have HR4 := Lib.hid (HR3.out.mv hm4 (by omega))
    have HM4 := Lib.hid (HM3.out.trans hm4)
    have HST4 := Lib.hid hst4
    have HC4 := Lib.hid (name_any (nodes (rest l i3)).length w4 b A c l i3 e f3 hs4 (Nat.le_refl _))
    have r4 := (HR4.out.cell 0).trans rfl
    clear hs4 hm4 hst4 r3
    go_wp2_with fail
    refine HC4.out.mono ?_
    rintro e' w5 ⟨v, ⟨s9, p9⟩, i4, f4, rfl, rfl, hs5, hm5, hst5⟩
    have HM5 := Lib.hid (HM4.out.trans hm5)
    have HG5 := Lib.hid (HG2.out.mv HM5.out (by omega))
    have HR5 := Lib.hid (HR2.out.mv HM5.out (by omega))
    have HS5 := Lib.hid hs5
    have HSS := Lib.hid (inrow_step HST.out (tail_some (ks := TM.er zs) HKK.out HST4.out hst5))
    have hg5 : g < w5.heap.size := HG5.out.lt
    have g3 := (HG5.out.cell 3).trans rfl
    have u3 := HG5.out.free 3
    clear hs5 hm5 hst5 r4
    unfold wv
    go_wp2_with fail
    go_end0
    have hsz5 : (w5.setCell ⟨g, 3, none⟩ (.slice (some ⟨w5.heap.size, 0, none⟩) 1 1)).heap.size = w5.heap.size := by simp [World.setCell]
    have hoth : ∀ k, k < w5.heap.size → k ≠ g → ((w5.setCell ⟨g, 3, none⟩ (.slice (some ⟨w5.heap.size, 0, none⟩) 1 1)).alloc (.cells #[.string s9, .int .i64 p9] 69)).heap[k]? = w5.heap[k]? := fun k hk hne => by
      rw [heap_alloc_old _ _ (by rw [hsz5]; exact hk)]
      simp only [World.setCell, Array.getElem?_modify]
      rw [if_neg (Ne.symm hne)]
    have hkp : ∀ k, k < w2.heap.size → g < k → ((w5.setCell ⟨g, 3, none⟩ (.slice (some ⟨w5.heap.size, 0, none⟩) 1 1)).alloc (.cells #[.string s9, .int .i64 p9] 69)).heap[k]? = w2.heap[k]? := fun k hk hgk =>
      (hoth k (Nat.lt_of_lt_of_le hk HM5.out.size) (by omega)).trans (HM5.out.block k hk (by omega))
    have hnew := RowAt.new (w5.setCell ⟨g, 3, none⟩ (.slice (some ⟨w5.heap.size, 0, none⟩) 1 1)) 69 #[.string s9, .int .i64 p9]
    rw [hsz5] at hnew
    refine HQ.out _ _ ⟨(TM.er zs, [⟨s9, p9⟩]), i4, f4, rfl, ⟨⟨some ⟨w5.heap.size, 0, none⟩, 1, X, d, zs, rfl, hd, Nat.le_refl _, (HG5.out.put 3 _).alloc _, fun _ => ⟨w5.heap.size, 0, rfl, hnew.lt, hg5, fun j u hu => by
      rw [Nat.zero_add, hnew.cell]
      simpa [wcs, wcells] using hu⟩, HSL.out.keep9 hkp, HDP.out.keep9 hkp⟩, (HR5.out.far (p := ⟨g, 3, none⟩) (Ne.symm hrg) _).alloc _⟩, (HS5.out.far (by omega)).alloc _, ?_, fun k hk h1 h2 => ?_, HSS.out⟩
    · exact ((HB2.out.trans HM5.out.low).setCell (p := ⟨g, 3, none⟩) (by show b ≤ g; omega) _).alloc (by show b ≤ _; rw [hsz5]; omega) _
    · have h3 : k < w2.heap.size := Nat.lt_of_lt_of_le hk HB2.out.size
      exact (hoth k (Nat.lt_of_lt_of_le h3 HM5.out.size) h2).trans ((HM5.out.block k h3 h1).trans (HF2.out k hk h1 h2))
  · have hne : ((kindOf (rest l i2) f2 : Int) == 124) = false := by rw [beq_eq_false_iff_ne]; omega
    have HSS := Lib.hid (inrow_step HST.out (tail_none (ks := TM.er zs) (e := e) hk))
    clear hk
    generalize kindOf (rest l i2) f2 = q at *
    go_wp2_with fail
    refine HK2.out.mono ?_
    rintro e' w3 ⟨rfl, hd3⟩
    have hm3 := Mv.below HS2.out.lt hd3.below
    have HS3 := Lib.hid (HS2.out.dr hd3)
    have hV3 : BoxR b r g p w3 (TM.er zs, []) := BoxR.keep (wa := w2) ⟨⟨_, _, X, d, zs, rfl, hd, Nat.zero_le _, HG2.out, SlC.nil _ _ _, HSL.out, HDP.out⟩, HR2.out⟩ hr hb hm3.block
    have HV3 := Lib.hid hV3
    have HB3 := Lib.hid (HB2.out.trans hm3.low)
    have HF3 : Hid (∀ k, k < w.heap.size → k ≠ b → k ≠ g → w3.heap[k]? = w.heap[k]?) := fun k hk h1 h2 => (hm3.block k (Nat.lt_of_lt_of_le hk HB2.out.size) h1).trans (HF2.out k hk h1 h2)
    clear hd3 hm3 hV3 r2
    go_wp2_with fail
    go_end0
    exact HQ.out _ _ ⟨(TM.er zs, []), i2, f2, rfl, HV3.out, HS3.out, HB3.out, HF3.out, HSS.out⟩
theorem nodeV_row {w : World} {s0 : Nat} {p : Int} {ws : List Wd} {zs : List Nd} {A X : Option Addr} {c d : Nat} (hc : ws.length ≤ c) (hd : zs.length ≤ d) (h0 : SlC w (fun k => s0 ≤ k) A (wcs ws)) (h : SlC w (fun k => s0 ≤ k) X (ncs zs)) (h2 : DeepN w (fun k => s0 ≤ k) zs) :
    NodeV w s0 (nd 10 p e0 ws (TM.er zs)) (.agg #[.int .i64 10, .int .i64 p, .string ⟨#[]⟩, .slice A ws.length c, .slice X zs.length d]) :=
  ⟨.mk 10 p e0 A c ws X d zs, rfl, by simp [er1, nd, Nd.k, Nd.p, Nd.s, Nd.ws, Nd.ks], DeepN.one ⟨⟨h0, hc⟩, h, hd⟩ h2⟩
set_option maxRecDepth 100000 in
set_option maxHeartbeats 6400000 in
theorem row_any (d : Nat) (hd : d ≤ 4294967296) : Reads 61 NodeV (rowR (d + 1)) d := by
  intro w b A c l i e f h hN
  have hmf : ∀ (fn : Fn) (first cap : Array Value) (w : World), (Instr.makeFunc fn first cap).run Try.prog w = .ok (.func fn first cap) w := fun _ _ _ _ => rfl
  have hbw := h.lt
  have hr0 := (RowAt.new w 62 #[.pointer (some ⟨b, 0, none⟩)]).alloc (.cells #[.int .i64 0, .int .i64 0, .string ⟨#[]⟩, .slice none 0 0, .slice none 0 0] 32)
  have hg0 := RowAt.new (w.alloc (.cells #[.pointer (some ⟨b, 0, none⟩)] 62)) 32 #[.int .i64 0, .int .i64 0, .string ⟨#[]⟩, .slice none 0 0, .slice none 0 0]
  rw [show (w.alloc (.cells #[.pointer (some ⟨b, 0, none⟩)] 62)).heap.size = w.heap.size + 1 by simp] at hg0
  have hbz : Below w.heap.size w ((w.alloc (.cells #[.pointer (some ⟨b, 0, none⟩)] 62)).alloc (.cells #[.int .i64 0, .int .i64 0, .string ⟨#[]⟩, .slice none 0 0, .slice none 0 0] 32)) := ((Below.refl _ _).alloc (Nat.le_refl _) _).alloc (by simp) _
  have HS0 := Lib.hid (h.below hbz)
  have HM0 := Lib.hid (Mv.below hbw hbz)
  have HK0 := Lib.hid (kind_any HS0.out)
  have HR0 := Lib.hid hr0
  have HG0 := Lib.hid hg0
  have r0 := (hr0.cell 0).trans rfl
  have hzz : ((w.alloc (.cells #[.pointer (some ⟨b, 0, none⟩)] 62)).alloc (.cells #[.int .i64 0, .int .i64 0, .string ⟨#[]⟩, .slice none 0 0, .slice none 0 0] 32)).heap.size = w.heap.size + 2 := by simp
  have HZZ := Lib.hid hzz
  clear h hr0 hg0 hbz hzz
  refine calls_hid fun Q' hQ => ?_
  have HQ := Lib.hid hQ; clear hQ
  by_cases h91 : kindOf (rest l i) f = 91
  · rw [h91] at HK0
    have HKK := Lib.hid h91; clear h91
    generalize hoff : offOf (rest l i) e = off at *
    have HOFF := Lib.hid hoff; clear hoff
    go_enter Try.func61, Try.ntmps61
    go_wp2_with fail
    refine HK0.out.mono ?_
    rintro e' w0 ⟨rfl, hd0⟩
    have HZ0 : Hid (w0.heap.size = w.heap.size + 2) := by obtain ⟨n, rfl⟩ := hd0; exact HZZ.out
    have HRa := Lib.hid (HR0.out.below hd0.below HR0.out.lt)
    have HGa := Lib.hid (HG0.out.below hd0.below HG0.out.lt)
    have HSa := Lib.hid (HS0.out.dr hd0)
    have HMa := Lib.hid (HM0.out.dr hbw hd0)
    have HO := Lib.hid (offset_any HSa.out)
    rw [HOFF.out] at HO
    have ra := (HRa.out.cell 0).trans rfl
    clear hd0 r0 HR0 HG0 HS0 HM0
    go_wp2_with fail
    refine HO.out.mono ?_
    rintro e' w1 ⟨rfl, hd1⟩
    have hz1 : w1.heap.size = w.heap.size + 2 := by obtain ⟨n, rfl⟩ := hd1; exact HZ0.out
    have HR1 := Lib.hid ((HRa.out.below hd1.below HRa.out.lt).alloc (.cells #[.int .i64 10, .int .i64 off, .string ⟨#[]⟩, .slice none 0 0, .slice none 0 0] 32))
    have HG1 := Lib.hid ((HGa.out.below hd1.below HGa.out.lt).alloc (.cells #[.int .i64 10, .int .i64 off, .string ⟨#[]⟩, .slice none 0 0, .slice none 0 0] 32))
    have hn1 := RowAt.new w1 32 #[.int .i64 10, .int .i64 off, .string ⟨#[]⟩, .slice none 0 0, .slice none 0 0]
    rw [hz1] at hn1
    have HN1 := Lib.hid hn1
    have HS1 := Lib.hid ((HSa.out.dr hd1).alloc (.cells #[.int .i64 10, .int .i64 off, .string ⟨#[]⟩, .slice none 0 0, .slice none 0 0] 32))
    have HM1 := Lib.hid ((HMa.out.dr hbw hd1).alloc hbw (.cells #[.int .i64 10, .int .i64 off, .string ⟨#[]⟩, .slice none 0 0, .slice none 0 0] 32))
    clear ra HRa HGa HSa HMa hd1 hn1
    go_upto_region 4 with fail
    generalize w1.alloc (.cells #[.int .i64 10, .int .i64 off, .string ⟨#[]⟩, .slice none 0 0, .slice none 0 0] 32) = w2 at *
    have r2 := (HR1.out.cell 0).trans rfl
    have hzn : w.heap.size + 2 < w2.heap.size := HN1.out.lt
    have HB2 : Hid (BoxR b w.heap.size (w.heap.size + 2) off w2 ([], [])) := ⟨⟨none, 0, none, 0, [], by simp [TM.er], Nat.le_refl _, Nat.le_refl _, HN1.out, SlC.nil _ _ _, SlC.nil _ _ _, DeepN.nil _ _⟩, HR1.out⟩
    have HW := Lib.hid (within_any (N := d) 91 (by decide) (fun _ => by kernel_rfl) HS1.out (by omega) (by omega) (Nat.le_succ_of_le hN) (row1_in d b w.heap.size (w.heap.size + 2) off (by omega) (by omega) (by omega) hd) HB2.out (fun wa wb x hv hk => hv.keep (by omega) (by omega) hk))
    obtain ⟨n0, n1, n2, n3, n4, v0, v1, v2, v3, v4⟩ := row5 HN1.out
    go_wp2_with fail
    refine HW.out.mono ?_
    rintro e' w5 ⟨⟨xk, ws⟩, i9, f9, rfl, ⟨⟨Y, cc, X, dd, zs, hxk, hdd, hcc, hn9, hsw, hsl, hdp⟩, _⟩, hs9, hm9, hst9⟩
    have hxk' : TM.er zs = xk := hxk
    subst hxk'
    have HS9 := Lib.hid hs9
    have HM9 := Lib.hid (HM1.out.fresh hbw hm9 (by omega))
    have HG9 : Hid (RowAt w5 (w.heap.size + 1) 32 #[.int .i64 0, .int .i64 0, .string ⟨#[]⟩, .slice none 0 0, .slice none 0 0]) := (hm9.block _ HG1.out.lt (by omega) (by omega)).trans HG1.out
    have HN9 := Lib.hid hn9
    have HST9 := Lib.hid (row_in (d := d + 1) HKK.out hst9)
    rw [HOFF.out] at HST9
    have HSW := Lib.hid hsw
    have HSL := Lib.hid hsl
    have HDP := Lib.hid hdp
    simp only at HN9 HSW HST9 hcc
    clear n0 n1 n2 n3 n4 v0 v1 v2 v3 v4 r2
    obtain ⟨n0, n1, n2, n3, n4, v0, v1, v2, v3, v4⟩ := row5 HN9.out
    obtain ⟨g0, g1, g2, g3, g4, u0, u1, u2, u3, u4⟩ := row5 HG9.out
    clear hs9 hm9 hst9 hsl hdp hn9 hsw hxk
    go_wp2_with fail
    have HRF : Hid (RowAt (set5 (w5) (w.heap.size + 1) (.int .i64 10) (.int .i64 off) (.string ⟨#[]⟩) (.slice Y ws.length cc) (.slice X zs.length dd)) (w.heap.size + 1) 32 #[.int .i64 10, .int .i64 off, .string ⟨#[]⟩, (.slice Y ws.length cc), (.slice X zs.length dd)]) := set5_row (HG9.out)
    have HSF : Hid (Rs (set5 (w5) (w.heap.size + 1) (.int .i64 10) (.int .i64 off) (.string ⟨#[]⟩) (.slice Y ws.length cc) (.slice X zs.length dd)) b A c l _ e _) := set5_rs (HS9.out) (by omega)
    have HMF : Hid (Mv b w (set5 (w5) (w.heap.size + 1) (.int .i64 10) (.int .i64 off) (.string ⟨#[]⟩) (.slice Y ws.length cc) (.slice X zs.length dd))) := set5_mv (HM9.out) (by omega) hbw
    have HNF : Hid (NodeV (set5 (w5) (w.heap.size + 1) (.int .i64 10) (.int .i64 off) (.string ⟨#[]⟩) (.slice Y ws.length cc) (.slice X zs.length dd)) w.heap.size (nd 10 off e0 ws (TM.er zs)) (.agg #[.int .i64 10, .int .i64 off, .string ⟨#[]⟩, (.slice Y ws.length cc), (.slice X zs.length dd)])) := nodeV_row hcc hdd (set5_slc HSW.out fun k _ hk => ⟨by omega, by omega⟩) (set5_slc HSL.out fun k _ hk => ⟨by omega, by omega⟩) (set5_deep HDP.out fun k _ hk => ⟨by omega, by omega⟩)
    change bodyPost _ _ _ _ _ (set5 (w5) (w.heap.size + 1) (.int .i64 10) (.int .i64 off) (.string ⟨#[]⟩) (.slice Y ws.length cc) (.slice X zs.length dd))
    exact bodyPost_ret (ret_cell rfl _ _ (w.heap.size + 1) _ _ (0, 0) _ rfl HRF.out Try.underlying32 rfl (node_info _ _ _ _ _)) rfl (HQ.out _ _ ⟨_, (nd 10 off e0 ws (TM.er zs)), _, _, rfl, HNF.out, HSF.out, HMF.out, HST9.out⟩)
  · have hne : ((kindOf (rest l i) f : Int) != 91) = true := by simp; omega
    have HAV := Lib.hid (fun x i2 f2 (h : Step varR l i e f x i2 f2) => row_var (d := d + 1) h91 h)
    clear h91
    generalize kindOf (rest l i) f = q at *
    go_enter Try.func61, Try.ntmps61
    go_wp2_with fail
    refine HK0.out.mono ?_
    rintro e' w0 ⟨rfl, hd1⟩
    have HG := Lib.hid (HG0.out.below hd1.below HG0.out.lt)
    have HRa := Lib.hid (HR0.out.below hd1.below HR0.out.lt)
    have HM := Lib.hid (HM0.out.dr hbw hd1)
    have HC := Lib.hid (variable_any (nodes (rest l i)).length _ b A c l i e f (HS0.out.dr hd1) (Nat.le_refl _))
    have ra := (HRa.out.cell 0).trans rfl
    clear hd1 r0
    go_wp2_with fail
    refine HC.out.mono ?_
    rintro e' w1 ⟨v, x, i2, f2, rfl, ⟨⟨zk, zp, zs, zA, zc, zw, zB, zd, zz⟩, rfl, hz, hdz⟩, hs1, hm1, hst⟩
    have HG1 := Lib.hid (HG.out.mv hm1 (by have := HG.out.lt; omega))
    have HS1 := Lib.hid hs1
    have HMM := Lib.hid (HM.out.trans hm1)
    have HZ := Lib.hid hz
    have HDZ := Lib.hid hdz
    have HZW := Lib.hid HG.out.lt
    have HST1 := Lib.hid hst
    obtain ⟨g0, g1, g2, g3, g4, u0, u1, u2, u3, u4⟩ := row5 HG1.out
    clear hs1 hm1 hst hz hdz
    unfold nv
    simp only [Nd.k, Nd.p, Nd.s, Nd.A, Nd.c, Nd.ws, Nd.B, Nd.d, Nd.ks]
    go_wp2_with fail
    have HRF : Hid (RowAt (set5 (w1) (w.heap.size + 1) (.int .i64 zk) (.int .i64 zp) (.string zs) (.slice zA zw.length zc) (.slice zB zz.length zd)) (w.heap.size + 1) 32 #[.int .i64 zk, .int .i64 zp, .string zs, (.slice zA zw.length zc), (.slice zB zz.length zd)]) := set5_row (HG1.out)
    have HSF : Hid (Rs (set5 (w1) (w.heap.size + 1) (.int .i64 zk) (.int .i64 zp) (.string zs) (.slice zA zw.length zc) (.slice zB zz.length zd)) b A c l _ e _) := set5_rs (HS1.out) (by omega)
    have HMF : Hid (Mv b w (set5 (w1) (w.heap.size + 1) (.int .i64 zk) (.int .i64 zp) (.string zs) (.slice zA zw.length zc) (.slice zB zz.length zd))) := set5_mv (HMM.out) (by omega) hbw
    have HNF : Hid (NodeV (set5 (w1) (w.heap.size + 1) (.int .i64 zk) (.int .i64 zp) (.string zs) (.slice zA zw.length zc) (.slice zB zz.length zd)) w.heap.size (x) (.agg #[.int .i64 zk, .int .i64 zp, .string zs, (.slice zA zw.length zc), (.slice zB zz.length zd)])) := ⟨.mk zk zp zs zA zc zw zB zd zz, rfl, HZ.out, set5_deep HDZ.out fun k _ hk => ⟨by have := HZW.out; omega, by have := HZW.out; omega⟩⟩
    change bodyPost _ _ _ _ _ (set5 (w1) (w.heap.size + 1) (.int .i64 zk) (.int .i64 zp) (.string zs) (.slice zA zw.length zc) (.slice zB zz.length zd))
    exact bodyPost_ret (ret_cell rfl _ _ (w.heap.size + 1) _ _ (0, 0) _ rfl HRF.out Try.underlying32 rfl (node_info _ _ _ _ _)) rfl (HQ.out _ _ ⟨_, (x), _, _, rfl, HNF.out, HSF.out, HMF.out, HAV.out _ _ _ HST1.out⟩)
end Go.Proofs.Ytapnefhmonpgdaa
