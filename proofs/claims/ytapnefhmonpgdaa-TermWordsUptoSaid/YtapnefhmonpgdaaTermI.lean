/-
  The program's reader: what reads a constant. Conditions: at most 2^32 trees.
-/
import Derived.Test.YtapnefhmonpgdaaTermH
namespace Go.Proofs.Ytapnefhmonpgdaa
open Go.RowKit LX TR TM

theorem run_word0 (s : ByteArray) (p : Int) (w : World) : (Instr.field 69 (.agg #[.string s, .int .i64 p]) 0).run Try.prog w = .ok (.string s) w := by kernel_rfl
theorem run_tok2 (k : Int) (s : ByteArray) (p : Int) (w : World) : (Instr.field 55 (.agg #[.int .u8 k, .string s, .int .i64 p]) 2).run Try.prog w = .ok (.int .i64 p) w := by kernel_rfl
theorem SlC.setCell9 {w : World} {ok : Nat → Prop} {A : Option Addr} {cs : List Value} (h : SlC w ok A cs) {p : Addr} (hk : ∀ k, ok k → k ≠ p.block) (u : Value) : SlC (w.setCell p u) ok A cs :=
  h.keep9 fun k _ ho => by
    simp only [World.setCell, Array.getElem?_modify]
    rw [if_neg (Ne.symm (hk k ho))]
theorem kind_head {ts : List Tr} {f : Option Int} {k : Nat} (h : kindOf ts f = k) (hk : 0 < k) : f = none ∧ ∃ x r, ts = x :: r ∧ x.t.k = k := by
  cases f with
  | some p => cases ts <;> simp only [kindOf] at h <;> omega
  | none =>
    cases ts with
    | nil => simp only [kindOf] at h; omega
    | cons x r => exact ⟨rfl, x, r, rfl, h⟩
section
variable {d : Nat} {l : List Tr} {i e : Int} {f : Option Int} {i2 : Int} {f2 : Option Int}
theorem const_point {x : Wd} (hk : kindOf (rest l i) f = 97) (h : Step nameR l i e f x i2 f2) : Step (constR (d + 1)) l i e f (nd 2 (offOf (rest l i) e) x.s [] []) i2 f2 := by
  obtain ⟨rfl, y, r, hr, hy⟩ := kind_head hk (by decide)
  rcases h.cases with ⟨p, h1, ⟨_, h2⟩ | h2⟩ | ⟨_, rfl, h2⟩
  · rw [hr] at h2; unfold nameR at h2; rw [takeR_hit hy] at h2; cases h2
  · cases h2
  · rw [hr] at h2
    unfold nameR at h2
    rw [takeR_hit hy] at h2
    simp only [bnd, Except.ok.injEq, Prod.mk.injEq] at h2
    obtain ⟨rfl, h2⟩ := h2
    refine Step.ok h.1 ?_
    rw [hr]
    simp only [constR]
    rw [if_pos hy, h2]; rfl
theorem const_set {ws : List Wd} (hk : kindOf (rest l i) f = 123) (h : Step setR l i e f ws i2 f2) : Step (constR (d + 1)) l i e f (nd 3 (offOf (rest l i) e) e0 ws []) i2 f2 := by
  obtain ⟨rfl, y, r, hr, hy⟩ := kind_head hk (by decide)
  refine Step.of_eq (h.map fun ws => nd 3 (offOf (rest l i) e) e0 ws []) ?_
  rw [hr]
  simp only [constR]
  rw [if_neg (by omega), if_pos hy]; rfl
theorem const_tuple {ks : List Nd} (hk : kindOf (rest l i) f = 40) (h : Step (withinR 40 (someR (constR d))) l i e f ks i2 f2) : Step (constR (d + 1)) l i e f (nd 4 (offOf (rest l i) e) e0 [] ks) i2 f2 := by
  obtain ⟨rfl, y, r, hr, hy⟩ := kind_head hk (by decide)
  refine Step.of_eq (h.map fun ks => nd 4 (offOf (rest l i) e) e0 [] ks) ?_
  rw [hr]
  simp only [constR]
  rw [if_neg (by omega), if_neg (by omega), if_pos hy]; rfl
theorem const_grid {ks : List Nd} (hk : kindOf (rest l i) f = 91) (h : Step (withinR 91 (optR ruleR)) l i e f ks i2 f2) : Step (constR (d + 1)) l i e f (nd 5 (offOf (rest l i) e) e0 [] ks) i2 f2 := by
  obtain ⟨rfl, y, r, hr, hy⟩ := kind_head hk (by decide)
  refine Step.of_eq (h.map fun ks => nd 5 (offOf (rest l i) e) e0 [] ks) ?_
  rw [hr]
  simp only [constR]
  rw [if_neg (by omega), if_neg (by omega), if_neg (by omega), if_pos hy]; rfl
theorem const_none {x : Nd} (h1 : kindOf (rest l i) f ≠ 97) (h2 : kindOf (rest l i) f ≠ 123) (h3 : kindOf (rest l i) f ≠ 40) (h4 : kindOf (rest l i) f ≠ 91) : Step (constR (d + 1)) l i e f x i (failed l i e f) := by
  cases f with
  | some p => exact Step.bad (Adv.refl _ _)
  | none =>
    refine Step.fault (Adv.refl _ _) ?_
    cases hr : rest l i with
    | nil => rfl
    | cons y r =>
      rw [hr] at h1 h2 h3 h4
      have q1 : ¬ y.t.k = 97 := h1
      have q2 : ¬ y.t.k = 123 := h2
      have q3 : ¬ y.t.k = 40 := h3
      have q4 : ¬ y.t.k = 91 := h4
      simp only [constR]
      rw [if_neg q1, if_neg q2, if_neg q3, if_neg q4]; rfl
end

set_option maxRecDepth 100000 in
set_option maxHeartbeats 6400000 in
theorem constant_step (d : Nat) (hd : d ≤ 4294967296) (ih : ∀ d', d = d' + 1 → Reads 59 NodeV (constR d) d') : Reads 59 NodeV (constR (d + 1)) d := by
  intro w b A c l i e f h hN
  have hmf : ∀ (fn : Fn) (first cap : Array Value) (w : World), (Instr.makeFunc fn first cap).run Try.prog w = .ok (.func fn first cap) w := fun _ _ _ _ => rfl
  have hbw := h.lt
  have hr0 := (RowAt.new w 62 #[.pointer (some ⟨b, 0, none⟩)]).alloc (.cells #[.int .i64 0, .int .i64 0, .string ⟨#[]⟩, .slice none 0 0, .slice none 0 0] 32)
  have hg0 := RowAt.new (w.alloc (.cells #[.pointer (some ⟨b, 0, none⟩)] 62)) 32 #[.int .i64 0, .int .i64 0, .string ⟨#[]⟩, .slice none 0 0, .slice none 0 0]
  rw [show (w.alloc (.cells #[.pointer (some ⟨b, 0, none⟩)] 62)).heap.size = w.heap.size + 1 by simp] at hg0
  have hbz : Below w.heap.size w ((w.alloc (.cells #[.pointer (some ⟨b, 0, none⟩)] 62)).alloc (.cells #[.int .i64 0, .int .i64 0, .string ⟨#[]⟩, .slice none 0 0, .slice none 0 0] 32)) := ((Below.refl _ _).alloc (Nat.le_refl _) _).alloc (by simp) _
  have HS0 := Lib.hid (h.below hbz)
  have HM0 := Lib.hid (Mv.below hbw hbz)
  have HO := Lib.hid (offset_any HS0.out)
  have HIH := Lib.hid ih; clear ih
  have HR0 := Lib.hid hr0
  have HG0 := Lib.hid hg0
  have r0 := (hr0.cell 0).trans rfl
  have hzz : ((w.alloc (.cells #[.pointer (some ⟨b, 0, none⟩)] 62)).alloc (.cells #[.int .i64 0, .int .i64 0, .string ⟨#[]⟩, .slice none 0 0, .slice none 0 0] 32)).heap.size = w.heap.size + 2 := by simp
  have HZZ := Lib.hid hzz
  clear h hr0 hg0 hbz hzz
  refine calls_hid fun Q' hQ => ?_
  have HQ := Lib.hid hQ; clear hQ
  generalize hoff : offOf (rest l i) e = off at *
  have HOFF := Lib.hid hoff; clear hoff
  go_enter Try.func59, Try.ntmps59
  go_wp2_with fail
  refine HO.out.mono ?_
  rintro e' w1 ⟨rfl, hd1⟩
  have hz1 : w1.heap.size = w.heap.size + 2 := by obtain ⟨n, rfl⟩ := hd1; exact HZZ.out
  have HR1 := Lib.hid ((HR0.out.below hd1.below HR0.out.lt).alloc (.cells #[.int .i64 0, .int .i64 off, .string ⟨#[]⟩, .slice none 0 0, .slice none 0 0] 32))
  have HG1 := Lib.hid ((HG0.out.below hd1.below HG0.out.lt).alloc (.cells #[.int .i64 0, .int .i64 off, .string ⟨#[]⟩, .slice none 0 0, .slice none 0 0] 32))
  have hn1 := RowAt.new w1 32 #[.int .i64 0, .int .i64 off, .string ⟨#[]⟩, .slice none 0 0, .slice none 0 0]
  rw [hz1] at hn1
  have HN1 := Lib.hid hn1
  have HS1 := Lib.hid ((HS0.out.dr hd1).alloc (.cells #[.int .i64 0, .int .i64 off, .string ⟨#[]⟩, .slice none 0 0, .slice none 0 0] 32))
  have HM1 := Lib.hid ((HM0.out.dr hbw hd1).alloc hbw (.cells #[.int .i64 0, .int .i64 off, .string ⟨#[]⟩, .slice none 0 0, .slice none 0 0] 32))
  have hr1 := (HR0.out.below hd1.below HR0.out.lt)
  have r1 := (hr1.cell 0).trans rfl
  clear r0 HS0 HM0 HR0 HG0 HO hd1 hn1 HZZ hr1
  go_upto_region 2 with fail
  clear r1
  generalize w1.alloc (.cells #[.int .i64 0, .int .i64 off, .string ⟨#[]⟩, .slice none 0 0, .slice none 0 0] 32) = w2 at *
  have r1 := (HR1.out.cell 0).trans rfl
  have HK2 := Lib.hid (kind_any HS1.out)
  by_cases h97 : kindOf (rest l i) f = 97
  · rw [h97] at HK2
    have HKK := Lib.hid h97; clear h97
    go_wp2_with fail
    refine HK2.out.mono ?_
    rintro e' w3 ⟨rfl, hd3⟩
    have HS3 := Lib.hid (HS1.out.dr hd3)
    have HM3 := Lib.hid (HM1.out.dr hbw hd3)
    have HR3 := Lib.hid (HR1.out.below hd3.below HR1.out.lt)
    have HG3 := Lib.hid (HG1.out.below hd3.below HG1.out.lt)
    have HN3 := Lib.hid (HN1.out.below hd3.below HN1.out.lt)
    have r3 := (HR3.out.cell 0).trans rfl
    have hzn : w.heap.size + 2 < w3.heap.size := HN3.out.lt
    clear hd3 HS1 HM1 HR1 HG1 HN1 r1
    have HC := Lib.hid (name_any (nodes (rest l i)).length _ b A c l i e f HS3.out (Nat.le_refl _))
    go_wp2_with fail
    refine HC.out.mono ?_
    rintro e' w4 ⟨v, ⟨s, p⟩, i2, f2, rfl, rfl, hs4, hm4, hst⟩
    have HS4 := Lib.hid hs4
    have HM4 := Lib.hid (HM3.out.trans hm4)
    have HG4 := Lib.hid (HG3.out.mv hm4 (by omega))
    have HN4 := Lib.hid (HN3.out.mv hm4 (by omega))
    have HST := Lib.hid (const_point (d := d) HKK.out hst)
    rw [HOFF.out] at HST
    obtain ⟨n0, n1, n2, n3, n4, v0, v1, v2, v3, v4⟩ := row5 HN4.out
    obtain ⟨g0, g1, g2, g3, g4, u0, u1, u2, u3, u4⟩ := row5 HG4.out
    have hw0 := run_word0 s p
    clear hs4 hm4 hst
    unfold wv
    go_wp2_with fail
    have HRF : Hid (RowAt (set5 ((w4.setCell ⟨w.heap.size + 2, 0, none⟩ (.int .i64 2)).setCell ⟨w.heap.size + 2, 2, none⟩ (.string s)) (w.heap.size + 1) (.int .i64 2) (.int .i64 off) (.string s) (.slice none 0 0) (.slice none 0 0)) (w.heap.size + 1) 32 #[.int .i64 2, .int .i64 off, .string s, (.slice none 0 0), (.slice none 0 0)]) := set5_row ((HG4.out.far (p := ⟨w.heap.size + 2, 0, none⟩) (by show w.heap.size + 2 ≠ w.heap.size + 1; omega) _).far (p := ⟨w.heap.size + 2, 2, none⟩) (by show w.heap.size + 2 ≠ w.heap.size + 1; omega) _)
    have HSF : Hid (Rs (set5 ((w4.setCell ⟨w.heap.size + 2, 0, none⟩ (.int .i64 2)).setCell ⟨w.heap.size + 2, 2, none⟩ (.string s)) (w.heap.size + 1) (.int .i64 2) (.int .i64 off) (.string s) (.slice none 0 0) (.slice none 0 0)) b A c l _ e _) := set5_rs ((HS4.out.far (by omega)).far (by omega)) (by omega)
    have HMF : Hid (Mv b w (set5 ((w4.setCell ⟨w.heap.size + 2, 0, none⟩ (.int .i64 2)).setCell ⟨w.heap.size + 2, 2, none⟩ (.string s)) (w.heap.size + 1) (.int .i64 2) (.int .i64 off) (.string s) (.slice none 0 0) (.slice none 0 0))) := set5_mv ((HM4.out.setCell (p := ⟨w.heap.size + 2, 0, none⟩) (.inr (by show w.heap.size ≤ w.heap.size + 2; omega)) hbw _).setCell (p := ⟨w.heap.size + 2, 2, none⟩) (.inr (by show w.heap.size ≤ w.heap.size + 2; omega)) hbw _) (by omega) hbw
    have HNF : Hid (NodeV (set5 ((w4.setCell ⟨w.heap.size + 2, 0, none⟩ (.int .i64 2)).setCell ⟨w.heap.size + 2, 2, none⟩ (.string s)) (w.heap.size + 1) (.int .i64 2) (.int .i64 off) (.string s) (.slice none 0 0) (.slice none 0 0)) w.heap.size (nd 2 off s [] []) (.agg #[.int .i64 2, .int .i64 off, .string s, (.slice none 0 0), (.slice none 0 0)])) := nodeV_leaf _ _ _ _ _
    change bodyPost _ _ _ _ _ (set5 ((w4.setCell ⟨w.heap.size + 2, 0, none⟩ (.int .i64 2)).setCell ⟨w.heap.size + 2, 2, none⟩ (.string s)) (w.heap.size + 1) (.int .i64 2) (.int .i64 off) (.string s) (.slice none 0 0) (.slice none 0 0))
    exact bodyPost_ret (ret_cell rfl _ _ (w.heap.size + 1) _ _ (0, 0) _ rfl HRF.out Try.underlying32 rfl (node_info _ _ _ _ _)) rfl (HQ.out _ _ ⟨_, (nd 2 off s [] []), _, _, rfl, HNF.out, HSF.out, HMF.out, HST.out⟩)
  · by_cases h123 : kindOf (rest l i) f = 123
    · rw [h123] at HK2
      have HKK := Lib.hid h123; clear h123 h97
      go_wp2_with fail
      refine HK2.out.mono ?_
      rintro e' w3 ⟨rfl, hd3⟩
      have HS3 := Lib.hid (HS1.out.dr hd3)
      have HM3 := Lib.hid (HM1.out.dr hbw hd3)
      have HR3 := Lib.hid (HR1.out.below hd3.below HR1.out.lt)
      have HG3 := Lib.hid (HG1.out.below hd3.below HG1.out.lt)
      have HN3 := Lib.hid (HN1.out.below hd3.below HN1.out.lt)
      have r3 := (HR3.out.cell 0).trans rfl
      have hzn : w.heap.size + 2 < w3.heap.size := HN3.out.lt
      clear hd3 HS1 HM1 HR1 HG1 HN1 r1
      have HC := Lib.hid (set_any HS3.out)
      go_wp2_with fail
      refine HC.out.mono ?_
      rintro e' w4 ⟨v, ws, i2, f2, rfl, ⟨X, dd, rfl, hdd, hsl⟩, hs4, hm4, hst⟩
      have HS4 := Lib.hid hs4
      have HM4 := Lib.hid (HM3.out.trans hm4)
      have HG4 := Lib.hid (HG3.out.mv hm4 (by omega))
      have HN4 := Lib.hid (HN3.out.mv hm4 (by omega))
      have HST := Lib.hid (const_set (d := d) HKK.out hst)
      rw [HOFF.out] at HST
      have HSL := Lib.hid hsl
      obtain ⟨n0, n1, n2, n3, n4, v0, v1, v2, v3, v4⟩ := row5 HN4.out
      obtain ⟨g0, g1, g2, g3, g4, u0, u1, u2, u3, u4⟩ := row5 HG4.out
      clear hs4 hm4 hst hsl
      go_wp2_with fail
      have HRF : Hid (RowAt (set5 ((w4.setCell ⟨w.heap.size + 2, 0, none⟩ (.int .i64 3)).setCell ⟨w.heap.size + 2, 3, none⟩ (.slice X ws.length dd)) (w.heap.size + 1) (.int .i64 3) (.int .i64 off) (.string ⟨#[]⟩) (.slice X ws.length dd) (.slice none 0 0)) (w.heap.size + 1) 32 #[.int .i64 3, .int .i64 off, .string ⟨#[]⟩, (.slice X ws.length dd), (.slice none 0 0)]) := set5_row ((HG4.out.far (p := ⟨w.heap.size + 2, 0, none⟩) (by show w.heap.size + 2 ≠ w.heap.size + 1; omega) _).far (p := ⟨w.heap.size + 2, 3, none⟩) (by show w.heap.size + 2 ≠ w.heap.size + 1; omega) _)
      have HSF : Hid (Rs (set5 ((w4.setCell ⟨w.heap.size + 2, 0, none⟩ (.int .i64 3)).setCell ⟨w.heap.size + 2, 3, none⟩ (.slice X ws.length dd)) (w.heap.size + 1) (.int .i64 3) (.int .i64 off) (.string ⟨#[]⟩) (.slice X ws.length dd) (.slice none 0 0)) b A c l _ e _) := set5_rs ((HS4.out.far (by omega)).far (by omega)) (by omega)
      have HMF : Hid (Mv b w (set5 ((w4.setCell ⟨w.heap.size + 2, 0, none⟩ (.int .i64 3)).setCell ⟨w.heap.size + 2, 3, none⟩ (.slice X ws.length dd)) (w.heap.size + 1) (.int .i64 3) (.int .i64 off) (.string ⟨#[]⟩) (.slice X ws.length dd) (.slice none 0 0))) := set5_mv ((HM4.out.setCell (p := ⟨w.heap.size + 2, 0, none⟩) (.inr (by show w.heap.size ≤ w.heap.size + 2; omega)) hbw _).setCell (p := ⟨w.heap.size + 2, 3, none⟩) (.inr (by show w.heap.size ≤ w.heap.size + 2; omega)) hbw _) (by omega) hbw
      have HNF : Hid (NodeV (set5 ((w4.setCell ⟨w.heap.size + 2, 0, none⟩ (.int .i64 3)).setCell ⟨w.heap.size + 2, 3, none⟩ (.slice X ws.length dd)) (w.heap.size + 1) (.int .i64 3) (.int .i64 off) (.string ⟨#[]⟩) (.slice X ws.length dd) (.slice none 0 0)) w.heap.size (nd 3 off e0 ws []) (.agg #[.int .i64 3, .int .i64 off, .string ⟨#[]⟩, (.slice X ws.length dd), (.slice none 0 0)])) := nodeV_names trivial hdd (set5_slc ((HSL.out.setCell9 (p := ⟨w.heap.size + 2, 0, none⟩) (fun k hk => by show k ≠ w.heap.size + 2; omega) _).setCell9 (p := ⟨w.heap.size + 2, 3, none⟩) (fun k hk => by show k ≠ w.heap.size + 2; omega) _) fun k _ hk => ⟨by omega, by omega⟩)
      change bodyPost _ _ _ _ _ (set5 ((w4.setCell ⟨w.heap.size + 2, 0, none⟩ (.int .i64 3)).setCell ⟨w.heap.size + 2, 3, none⟩ (.slice X ws.length dd)) (w.heap.size + 1) (.int .i64 3) (.int .i64 off) (.string ⟨#[]⟩) (.slice X ws.length dd) (.slice none 0 0))
      exact bodyPost_ret (ret_cell rfl _ _ (w.heap.size + 1) _ _ (0, 0) _ rfl HRF.out Try.underlying32 rfl (node_info _ _ _ _ _)) rfl (HQ.out _ _ ⟨_, (nd 3 off e0 ws []), _, _, rfl, HNF.out, HSF.out, HMF.out, HST.out⟩)
    · by_cases h40 : kindOf (rest l i) f = 40
      · rw [h40] at HK2
        have HKK := Lib.hid h40; clear h40 h97 h123
        obtain ⟨N9, h9⟩ : ∃ N9, d = N9 + 1 := by
          obtain ⟨_, y, r, hr, _⟩ := kind_head HKK.out (by decide)
          rw [hr] at hN
          have := length_nodes (y :: r)
          simp only [List.length_cons] at this
          exact ⟨d - 1, by omega⟩
        have H9 : Hid (d = N9 + 1) := h9
        have HNN : Hid ((nodes (rest l i)).length ≤ N9 + 1) := by
          show _ ≤ N9 + 1
          omega
        have HEL := Lib.hid (HIH.out N9 h9)
        clear h9
        go_wp2_with fail
        refine HK2.out.mono ?_
        rintro e' w3 ⟨rfl, hd3⟩
        have HS3 := Lib.hid (HS1.out.dr hd3)
        have HM3 := Lib.hid (HM1.out.dr hbw hd3)
        have HR3 := Lib.hid (HR1.out.below hd3.below HR1.out.lt)
        have HG3 := Lib.hid (HG1.out.below hd3.below HG1.out.lt)
        have HN3 := Lib.hid (HN1.out.below hd3.below HN1.out.lt)
        have r3 := (HR3.out.cell 0).trans rfl
        have hzn : w.heap.size + 2 < w3.heap.size := HN3.out.lt
        clear hd3 HS1 HM1 HR1 HG1 HN1 r1
        have HS3' := Lib.hid (HS3.out.far (g := w.heap.size + 2) (j := 0) (u := .int .i64 4) (by omega))
        have HM3' := Lib.hid (HM3.out.setCell (p := ⟨w.heap.size + 2, 0, none⟩) (.inr (by show w.heap.size ≤ w.heap.size + 2; omega)) hbw (.int .i64 4))
        have HG3' := Lib.hid (HG3.out.far (p := ⟨w.heap.size + 2, 0, none⟩) (by show w.heap.size + 2 ≠ w.heap.size + 1; omega) (.int .i64 4))
        have HR3' := Lib.hid (HR3.out.far (p := ⟨w.heap.size + 2, 0, none⟩) (by show w.heap.size + 2 ≠ w.heap.size; omega) (.int .i64 4))
        have HN3' := Lib.hid (HN3.out.put 0 (.int .i64 4))
        have HB3 : Hid (BoxN b w.heap.size (w.heap.size + 2) 4 off ⟨#[]⟩ (w3.setCell ⟨w.heap.size + 2, 0, none⟩ (.int .i64 4)) []) := ⟨⟨none, 0, [], by simp [TM.er], Nat.le_refl _, HN3'.out, SlC.nil _ _ _, DeepN.nil _ _⟩, HR3'.out⟩
        have hz3 : (w3.setCell ⟨w.heap.size + 2, 0, none⟩ (.int .i64 4)).heap.size = w3.heap.size := by simp [World.setCell]
        have HW := Lib.hid (within_any (N := N9) 40 (by decide) (fun _ => by kernel_rfl) HS3'.out (by omega) (by omega) HNN.out (const1_in N9 b w.heap.size (w.heap.size + 2) 4 off ⟨#[]⟩ (by omega) (by omega) (by omega) (by have h9 := H9.out; omega) HEL.out) HB3.out (fun wa wb x hv hk => hv.keep (by omega) (by omega) hk))
        obtain ⟨n0, n1, n2, n3, n4, v0, v1, v2, v3, v4⟩ := row5 HN3.out
        go_wp2_with fail
        refine HW.out.mono ?_
        rintro e' w4 ⟨x, i2, f2, rfl, ⟨⟨X, dd, zs, rfl, hdd, hn4, hsl, hdp⟩, _⟩, hs4, hm4, hst⟩
        have HS4 := Lib.hid hs4
        have HM4 := Lib.hid (HM3'.out.fresh hbw hm4 (by omega))
        have HG4 : Hid (RowAt w4 (w.heap.size + 1) 32 #[.int .i64 0, .int .i64 0, .string ⟨#[]⟩, .slice none 0 0, .slice none 0 0]) := (hm4.block _ HG3'.out.lt (by omega) (by omega)).trans HG3'.out
        have HN4 := Lib.hid hn4
        have HST := Lib.hid (const_tuple (d := d) HKK.out hst)
        rw [HOFF.out] at HST
        have HSL := Lib.hid hsl
        have HDP := Lib.hid hdp
        clear n0 n1 n2 n3 n4 v0 v1 v2 v3 v4 r3
        obtain ⟨n0, n1, n2, n3, n4, v0, v1, v2, v3, v4⟩ := row5 HN4.out
        obtain ⟨g0, g1, g2, g3, g4, u0, u1, u2, u3, u4⟩ := row5 HG4.out
        clear hs4 hm4 hst hsl hdp hn4
        go_wp2_with fail
        have HRF : Hid (RowAt (set5 (w4) (w.heap.size + 1) (.int .i64 4) (.int .i64 off) (.string ⟨#[]⟩) (.slice none 0 0) (.slice X zs.length dd)) (w.heap.size + 1) 32 #[.int .i64 4, .int .i64 off, .string ⟨#[]⟩, (.slice none 0 0), (.slice X zs.length dd)]) := set5_row (HG4.out)
        have HSF : Hid (Rs (set5 (w4) (w.heap.size + 1) (.int .i64 4) (.int .i64 off) (.string ⟨#[]⟩) (.slice none 0 0) (.slice X zs.length dd)) b A c l _ e _) := set5_rs (HS4.out) (by omega)
        have HMF : Hid (Mv b w (set5 (w4) (w.heap.size + 1) (.int .i64 4) (.int .i64 off) (.string ⟨#[]⟩) (.slice none 0 0) (.slice X zs.length dd))) := set5_mv (HM4.out) (by omega) hbw
        have HNF : Hid (NodeV (set5 (w4) (w.heap.size + 1) (.int .i64 4) (.int .i64 off) (.string ⟨#[]⟩) (.slice none 0 0) (.slice X zs.length dd)) w.heap.size (nd 4 off e0 [] (TM.er zs)) (.agg #[.int .i64 4, .int .i64 off, .string ⟨#[]⟩, (.slice none 0 0), (.slice X zs.length dd)])) := nodeV_kids hdd (set5_slc HSL.out fun k _ hk => ⟨by omega, by omega⟩) (set5_deep HDP.out fun k _ hk => ⟨by omega, by omega⟩)
        change bodyPost _ _ _ _ _ (set5 (w4) (w.heap.size + 1) (.int .i64 4) (.int .i64 off) (.string ⟨#[]⟩) (.slice none 0 0) (.slice X zs.length dd))
        exact bodyPost_ret (ret_cell rfl _ _ (w.heap.size + 1) _ _ (0, 0) _ rfl HRF.out Try.underlying32 rfl (node_info _ _ _ _ _)) rfl (HQ.out _ _ ⟨_, (nd 4 off e0 [] (TM.er zs)), _, _, rfl, HNF.out, HSF.out, HMF.out, HST.out⟩)
      · by_cases h91 : kindOf (rest l i) f = 91
        · rw [h91] at HK2
          have HKK := Lib.hid h91; clear h91 h97 h123 h40
          obtain ⟨N9, h9⟩ : ∃ N9, d = N9 + 1 := by
            obtain ⟨_, y, r, hr, _⟩ := kind_head HKK.out (by decide)
            rw [hr] at hN
            have := length_nodes (y :: r)
            simp only [List.length_cons] at this
            exact ⟨d - 1, by omega⟩
          have H9 : Hid (d = N9 + 1) := h9
          have HNN : Hid ((nodes (rest l i)).length ≤ N9 + 1) := by
            show _ ≤ N9 + 1
            omega
          have HEL := Lib.hid (HIH.out N9 h9)
          clear h9
          go_wp2_with fail
          refine HK2.out.mono ?_
          rintro e' w3 ⟨rfl, hd3⟩
          have HS3 := Lib.hid (HS1.out.dr hd3)
          have HM3 := Lib.hid (HM1.out.dr hbw hd3)
          have HR3 := Lib.hid (HR1.out.below hd3.below HR1.out.lt)
          have HG3 := Lib.hid (HG1.out.below hd3.below HG1.out.lt)
          have HN3 := Lib.hid (HN1.out.below hd3.below HN1.out.lt)
          have r3 := (HR3.out.cell 0).trans rfl
          have hzn : w.heap.size + 2 < w3.heap.size := HN3.out.lt
          clear hd3 HS1 HM1 HR1 HG1 HN1 r1
          have HS3' := Lib.hid (HS3.out.far (g := w.heap.size + 2) (j := 0) (u := .int .i64 5) (by omega))
          have HM3' := Lib.hid (HM3.out.setCell (p := ⟨w.heap.size + 2, 0, none⟩) (.inr (by show w.heap.size ≤ w.heap.size + 2; omega)) hbw (.int .i64 5))
          have HG3' := Lib.hid (HG3.out.far (p := ⟨w.heap.size + 2, 0, none⟩) (by show w.heap.size + 2 ≠ w.heap.size + 1; omega) (.int .i64 5))
          have HR3' := Lib.hid (HR3.out.far (p := ⟨w.heap.size + 2, 0, none⟩) (by show w.heap.size + 2 ≠ w.heap.size; omega) (.int .i64 5))
          have HN3' := Lib.hid (HN3.out.put 0 (.int .i64 5))
          have HB3 : Hid (BoxN b w.heap.size (w.heap.size + 2) 5 off ⟨#[]⟩ (w3.setCell ⟨w.heap.size + 2, 0, none⟩ (.int .i64 5)) []) := ⟨⟨none, 0, [], by simp [TM.er], Nat.le_refl _, HN3'.out, SlC.nil _ _ _, DeepN.nil _ _⟩, HR3'.out⟩
          have hz3 : (w3.setCell ⟨w.heap.size + 2, 0, none⟩ (.int .i64 5)).heap.size = w3.heap.size := by simp [World.setCell]
          have HW := Lib.hid (within_any (N := N9) 91 (by decide) (fun _ => by kernel_rfl) HS3'.out (by omega) (by omega) HNN.out (const2_in N9 b w.heap.size (w.heap.size + 2) 5 off ⟨#[]⟩ (by omega) (by omega) (by omega) (by have h9 := H9.out; omega) (rule_any N9)) HB3.out (fun wa wb x hv hk => hv.keep (by omega) (by omega) hk))
          obtain ⟨n0, n1, n2, n3, n4, v0, v1, v2, v3, v4⟩ := row5 HN3.out
          go_wp2_with fail
          refine HW.out.mono ?_
          rintro e' w4 ⟨x, i2, f2, rfl, ⟨⟨X, dd, zs, rfl, hdd, hn4, hsl, hdp⟩, _⟩, hs4, hm4, hst⟩
          have HS4 := Lib.hid hs4
          have HM4 := Lib.hid (HM3'.out.fresh hbw hm4 (by omega))
          have HG4 : Hid (RowAt w4 (w.heap.size + 1) 32 #[.int .i64 0, .int .i64 0, .string ⟨#[]⟩, .slice none 0 0, .slice none 0 0]) := (hm4.block _ HG3'.out.lt (by omega) (by omega)).trans HG3'.out
          have HN4 := Lib.hid hn4
          have HST := Lib.hid (const_grid (d := d) HKK.out hst)
          rw [HOFF.out] at HST
          have HSL := Lib.hid hsl
          have HDP := Lib.hid hdp
          clear n0 n1 n2 n3 n4 v0 v1 v2 v3 v4 r3
          obtain ⟨n0, n1, n2, n3, n4, v0, v1, v2, v3, v4⟩ := row5 HN4.out
          obtain ⟨g0, g1, g2, g3, g4, u0, u1, u2, u3, u4⟩ := row5 HG4.out
          clear hs4 hm4 hst hsl hdp hn4
          go_wp2_with fail
          have HRF : Hid (RowAt (set5 (w4) (w.heap.size + 1) (.int .i64 5) (.int .i64 off) (.string ⟨#[]⟩) (.slice none 0 0) (.slice X zs.length dd)) (w.heap.size + 1) 32 #[.int .i64 5, .int .i64 off, .string ⟨#[]⟩, (.slice none 0 0), (.slice X zs.length dd)]) := set5_row (HG4.out)
          have HSF : Hid (Rs (set5 (w4) (w.heap.size + 1) (.int .i64 5) (.int .i64 off) (.string ⟨#[]⟩) (.slice none 0 0) (.slice X zs.length dd)) b A c l _ e _) := set5_rs (HS4.out) (by omega)
          have HMF : Hid (Mv b w (set5 (w4) (w.heap.size + 1) (.int .i64 5) (.int .i64 off) (.string ⟨#[]⟩) (.slice none 0 0) (.slice X zs.length dd))) := set5_mv (HM4.out) (by omega) hbw
          have HNF : Hid (NodeV (set5 (w4) (w.heap.size + 1) (.int .i64 5) (.int .i64 off) (.string ⟨#[]⟩) (.slice none 0 0) (.slice X zs.length dd)) w.heap.size (nd 5 off e0 [] (TM.er zs)) (.agg #[.int .i64 5, .int .i64 off, .string ⟨#[]⟩, (.slice none 0 0), (.slice X zs.length dd)])) := nodeV_kids hdd (set5_slc HSL.out fun k _ hk => ⟨by omega, by omega⟩) (set5_deep HDP.out fun k _ hk => ⟨by omega, by omega⟩)
          change bodyPost _ _ _ _ _ (set5 (w4) (w.heap.size + 1) (.int .i64 5) (.int .i64 off) (.string ⟨#[]⟩) (.slice none 0 0) (.slice X zs.length dd))
          exact bodyPost_ret (ret_cell rfl _ _ (w.heap.size + 1) _ _ (0, 0) _ rfl HRF.out Try.underlying32 rfl (node_info _ _ _ _ _)) rfl (HQ.out _ _ ⟨_, (nd 5 off e0 [] (TM.er zs)), _, _, rfl, HNF.out, HSF.out, HMF.out, HST.out⟩)
        · have q1 : ((kindOf (rest l i) f : Int) == 97) = false := by rw [beq_eq_false_iff_ne]; omega
          have q2 : ((kindOf (rest l i) f : Int) == 123) = false := by rw [beq_eq_false_iff_ne]; omega
          have q3 : ((kindOf (rest l i) f : Int) == 40) = false := by rw [beq_eq_false_iff_ne]; omega
          have q4 : ((kindOf (rest l i) f : Int) == 91) = false := by rw [beq_eq_false_iff_ne]; omega
          have HST := Lib.hid (fun x => const_none (d := d) (e := e) (x := x) h97 h123 h40 h91)
          clear h97 h123 h40 h91
          generalize kindOf (rest l i) f = q at *
          go_wp2_with fail
          refine HK2.out.mono ?_
          rintro e' w3 ⟨rfl, hd3⟩
          have HS3 := Lib.hid (HS1.out.dr hd3)
          have HM3 := Lib.hid (HM1.out.dr hbw hd3)
          have HR3 := Lib.hid (HR1.out.below hd3.below HR1.out.lt)
          have HG3 := Lib.hid (HG1.out.below hd3.below HG1.out.lt)
          have HN3 := Lib.hid (HN1.out.below hd3.below HN1.out.lt)
          have r3 := (HR3.out.cell 0).trans rfl
          have hzn : w.heap.size + 2 < w3.heap.size := HN3.out.lt
          clear hd3 HS1 HM1 HR1 HG1 HN1 r1
          have HC := Lib.hid (fail_any HS3.out)
          go_wp2_with fail
          refine HC.out.mono ?_
          rintro e' w4 ⟨rfl, hs4, hm4, _⟩
          have HS4 := Lib.hid hs4
          have HM4 := Lib.hid (HM3.out.trans hm4)
          have HG4 := Lib.hid (HG3.out.mv hm4 (by omega))
          have HN4 := Lib.hid (HN3.out.mv hm4 (by omega))
          obtain ⟨n0, n1, n2, n3, n4, v0, v1, v2, v3, v4⟩ := row5 HN4.out
          obtain ⟨g0, g1, g2, g3, g4, u0, u1, u2, u3, u4⟩ := row5 HG4.out
          clear hs4 hm4
          go_wp2_with fail
          have HRF : Hid (RowAt (set5 (w4) (w.heap.size + 1) (.int .i64 0) (.int .i64 off) (.string ⟨#[]⟩) (.slice none 0 0) (.slice none 0 0)) (w.heap.size + 1) 32 #[.int .i64 0, .int .i64 off, .string ⟨#[]⟩, (.slice none 0 0), (.slice none 0 0)]) := set5_row (HG4.out)
          have HSF : Hid (Rs (set5 (w4) (w.heap.size + 1) (.int .i64 0) (.int .i64 off) (.string ⟨#[]⟩) (.slice none 0 0) (.slice none 0 0)) b A c l _ e _) := set5_rs (HS4.out) (by omega)
          have HMF : Hid (Mv b w (set5 (w4) (w.heap.size + 1) (.int .i64 0) (.int .i64 off) (.string ⟨#[]⟩) (.slice none 0 0) (.slice none 0 0))) := set5_mv (HM4.out) (by omega) hbw
          have HNF : Hid (NodeV (set5 (w4) (w.heap.size + 1) (.int .i64 0) (.int .i64 off) (.string ⟨#[]⟩) (.slice none 0 0) (.slice none 0 0)) w.heap.size (nd 0 off e0 [] []) (.agg #[.int .i64 0, .int .i64 off, .string ⟨#[]⟩, (.slice none 0 0), (.slice none 0 0)])) := nodeV_leaf _ _ _ _ _
          change bodyPost _ _ _ _ _ (set5 (w4) (w.heap.size + 1) (.int .i64 0) (.int .i64 off) (.string ⟨#[]⟩) (.slice none 0 0) (.slice none 0 0))
          exact bodyPost_ret (ret_cell rfl _ _ (w.heap.size + 1) _ _ (0, 0) _ rfl HRF.out Try.underlying32 rfl (node_info _ _ _ _ _)) rfl (HQ.out _ _ ⟨_, (nd 0 off e0 [] []), _, _, rfl, HNF.out, HSF.out, HMF.out, HST.out _⟩)
end Go.Proofs.Ytapnefhmonpgdaa
