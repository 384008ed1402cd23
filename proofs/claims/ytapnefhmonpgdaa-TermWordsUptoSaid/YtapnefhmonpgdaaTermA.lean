/-
  The program's reader: fail, take, name, variable. Conditions: lists of trees of at most 2^41.
-/
import Derived.Test.YtapnefhmonpgdaaTermKit
import Derived.StillTailTactics
namespace Go.Proofs.Ytapnefhmonpgdaa
open Go.RowKit LX TR TM

/-- The fault behind a failure. -/
def failed (l : List Tr) (i e : Int) (f : Option Int) : Option Int := some (f.getD (offOf (rest l i) e))
set_option maxHeartbeats 800000 in
theorem fail_any {w : World} {b : Nat} {A : Option Addr} {c : Nat} {l : List Tr} {i e : Int} {f : Option Int} (h : Rs w b A c l i e f) :
    Calls Try.prog 91 #[.pointer (some ⟨b, 0, none⟩)] w fun e' w' => e' = .returned (.tuple #[]) ∧ Rs w' b A c l i e (failed l i e f) ∧ Mv b w w' ∧ w'.heap.size = w.heap.size := by
  obtain ⟨c0, c1, c2, c3, c4⟩ := rd_cells h.at_
  cases f with
  | some p =>
    have HR : Hid (Rs w b A c l i e (failed l i e (some p))) := h
    clear h
    simp only [fc, Option.isSome_some, if_true] at c3
    go_enter Try.func91, Try.ntmps91
    go_wp2_with fail
    go_end0
    exact ⟨rfl, HR.out, Mv.refl _ _, rfl⟩
  | none =>
    have HO := Lib.hid (offset_any h)
    have H := Lib.hid h
    have f0 := h.at_.free
    have hbw := h.lt
    clear h
    show Calls _ _ _ _ fun e' w' => e' = .returned (.tuple #[]) ∧ Rs w' b A c l i e (some (offOf (rest l i) e)) ∧ _
    generalize offOf (rest l i) e = q at *
    simp only [fc, Option.isSome_none, Bool.false_eq_true, if_false] at c3
    go_enter Try.func91, Try.ntmps91
    go_wp2_with fail
    refine HO.out.mono ?_
    rintro e' w' ⟨rfl, m, rfl⟩
    go_wp2
    go_end0
    have hm : Mv b w (((w.drewN m).setCell ⟨b, 3, none⟩ (.int .i64 2)).setCell ⟨b, 4, none⟩ (.int .i64 q)) := (((Mv.refl b w).drewN m).setCell (p := ⟨b, 3, none⟩) (.inl rfl) hbw _).setCell (p := ⟨b, 4, none⟩) (.inl rfl) hbw _
    exact ⟨rfl, H.out.mv hm (((H.out.at_.drewN m).put 3 _).put 4 _), hm, by simp [World.setCell]⟩
theorem ret_cell {P : Program} {fn : Func} {q : Tmp} {ty : TypeId} (h : fn.results = #[.cell q ty]) (tmps : Array Value) (w : World) (g : Nat) (t : TypeId) (cs : Array Value) (fr : Nat × Nat) (d : TypeDesc)
    (hp : tmps.getD q undef = .pointer (some ⟨g, 0, none⟩)) (hg : w.heap[g]? = some (.cells cs t fr))
    (hu : P.underlying ty = some d) (hd : (match d with | .struct _ | .array _ _ => true | _ => false) = true) (hi : (P.info? ty).map (·.size) = some cs.size) :
    (results fn tmps).run P w = .ok (.agg cs) w := by
  have hp' : tmps[q]?.getD undef = .pointer (some ⟨g, 0, none⟩) := by simpa using hp
  simp [results, h, hp', asAddr, run_loadVar_row w g t ty cs fr d hg hu hd hi]
theorem ret_one {P : Program} {fn : Func} {q : Tmp} {ty e : TypeId} (h : fn.results = #[.cell q ty]) (tmps : Array Value) (w : World) (g : Nat) (v : Value)
    (hp : tmps.getD q undef = .pointer (some ⟨g, 0, none⟩)) (hg : w.cell? ⟨g, 0, none⟩ = some v) (hu : P.underlying ty = some (.slice e)) :
    (results fn tmps).run P w = .ok v w := by
  have hp' : tmps[q]?.getD undef = .pointer (some ⟨g, 0, none⟩) := by simpa using hp
  have hagg : (isAgg ty).run P w = .ok false w := by
    unfold isAgg
    rw [Sem.run_bind, run_underlying hu w]
    rfl
  simp [results, h, hp', asAddr, loadVar, Sem.run_bind, hagg, hg]
theorem tok_info (a b c : Value) : (Try.prog.info? 55).map (·.size) = some (#[a, b, c] : Array Value).size := by kernel_rfl
theorem word_info (a b : Value) : (Try.prog.info? 69).map (·.size) = some (#[a, b] : Array Value).size := by kernel_rfl
theorem node_info (a b c d e : Value) : (Try.prog.info? 32).map (·.size) = some (#[a, b, c, d, e] : Array Value).size := by kernel_rfl
theorem rd_row {w : World} {b : Nat} {A : Option Addr} {n c : Nat} {i e x y : Int} (h : RdAt w b A n c i e x y) (i2 : Int) : RdAt (w.setCell ⟨b, 1, none⟩ (.int .i64 i2)) b A n c i2 e x y := h.put 1 _

set_option maxRecDepth 100000 in
set_option maxHeartbeats 800000 in
theorem take_any {w : World} {b : Nat} {A : Option Addr} {c : Nat} {l : List Tr} {i e : Int} {f : Option Int} (h : Rs w b A c l i e f) (k : Nat) (hk : 0 < k) :
    Calls Try.prog 97 #[.pointer (some ⟨b, 0, none⟩), .int .u8 (k : Int)] w fun e' w' => ∃ t i2 f2, e' = .returned (.agg (tv t)) ∧ Rs w' b A c l i2 e f2 ∧ Mv b w w' ∧ Step (takeR k) l i e f t i2 f2 := by
  have hbw := h.lt
  have HA0 := Lib.hid (h.at_.alloc (.cells #[.int .u8 0, .string ⟨#[]⟩, .int .i64 0] 55))
  have HM0 : Hid (Mv b w (w.alloc (.cells #[.int .u8 0, .string ⟨#[]⟩, .int .i64 0] 55))) := (Mv.refl b w).alloc hbw _
  have HG := Lib.hid (RowAt.new w 55 #[.int .u8 0, .string ⟨#[]⟩, .int .i64 0])
  have HS := Lib.hid (h.mv HM0.out HA0.out)
  have HK := Lib.hid (kind_any HS.out)
  by_cases hm : kindOf (rest l i) f = k
  · obtain ⟨rfl, h0, hj⟩ : f = none ∧ 0 ≤ i ∧ i < l.length := by
      cases f with
      | some p => cases hr : rest l i <;> rw [hr] at hm <;> simp only [kindOf] at hm <;> omega
      | none =>
        refine ⟨rfl, ?_⟩
        by_cases hend : i < 0 ∨ (l.length : Int) ≤ i
        · rw [rest_nil.2 hend] at hm
          simp only [kindOf] at hm; omega
        · omega
    obtain ⟨j, rfl⟩ := Int.eq_ofNat_of_zero_le h0
    have hj : j < l.length := by omega
    have hrest := rest_cons (l := l) (i := (j : Int)) (by omega) (by omega)
    rw [Int.toNat_natCast] at hrest
    have hkk : (l.getD j r0).t.k = k := by rw [hrest] at hm; exact hm
    have HST : Hid (∀ t, t = (l.getD j r0).t → Step (takeR k) l j e none t ((j : Int) + 1) none) := fun t ht => by
      subst ht
      exact Step.ok ⟨1, rfl, by rw [hrest]; simp⟩ (by rw [hrest]; exact takeR_hit hkk)
    obtain ⟨bb, o, rfl, hbl, hc⟩ := h.trs.at hj
    obtain ⟨k0, k1, k2, k3, k4⟩ := hc j hj
    have hne : bb ≠ b := by omega
    have hb1 : bb < w.heap.size := by omega
    rw [hm] at HK
    have hlen := h.len.1
    clear h k3 k4 hc hm hrest h0
    generalize (l.getD j r0).t = t at *
    obtain ⟨k', s', p'⟩ := t
    obtain rfl : k' = k := hkk
    simp only at k0 k1 k2
    have HL := Lib.hid k0; have HL1 := Lib.hid k1; have HL2 := Lib.hid k2
    clear k0 k1 k2
    have hjn : (j : Int) < (l.length : Int) := by omega
    have hw1 : IntKind.i64.wrap ((j : Int) + 1) = (j : Int) + 1 := by rw [IntKind.wrap_i64] <;> omega
    generalize hn : l.length = n at *
    have HN := Lib.hid hn; clear hn
    go_enter Try.func97, Try.ntmps97
    go_wp2_with fail
    refine HK.out.mono ?_
    rintro e' w' ⟨rfl, hd⟩
    have HM1 := Lib.hid (HM0.out.onBelow hbw hd.below HM0.out.size)
    have HS1 := Lib.hid (HS.out.below hd.below)
    have HG1 := Lib.hid (HG.out.below hd.below HG.out.lt)
    have K0 := (HM1.out.low.cell (p := ⟨bb, o + j * 5, none⟩) hbl).trans HL.out
    have K1 := (HM1.out.low.cell (p := ⟨bb, o + j * 5 + 1, none⟩) hbl).trans HL1.out
    have K2 := (HM1.out.low.cell (p := ⟨bb, o + j * 5 + 2, none⟩) hbl).trans HL2.out
    obtain ⟨c0, c1, c2, c3, c4⟩ := rd_cells HS1.out.at_
    rw [HN.out] at c0
    clear hd
    go_wp2_with fail
    have q1 := HS1.out.lt
    have q2 : bb < w'.heap.size := by omega
    have q3 := HG1.out.lt
    obtain ⟨g0, g1, g2, u0, u1, u2⟩ := row3 HG1.out
    have q4 : w.heap.size ≠ w'.heap.size := by omega
    have q5 : b ≠ w'.heap.size := by omega
    have q6 : bb ≠ w'.heap.size := by omega
    have HB3 : Hid (Below w'.heap.size w' ((w'.alloc (.cells #[.int .u8 (k' : Int), .string s', .int .i64 p'] 55)).drew)) := ((Below.refl _ _).alloc (Nat.le_refl _) _).drew
    have HM3 : Hid (Mv b w ((w'.alloc (.cells #[.int .u8 (k' : Int), .string s', .int .i64 p'] 55)).drew)) := (HM1.out.alloc hbw _).drew
    have HS3 := Lib.hid (HS1.out.below HB3.out)
    have HG3 := Lib.hid (HG1.out.below HB3.out HG1.out.lt)
    have HN5 : Hid (RowAt ((w'.alloc (.cells #[.int .u8 (k' : Int), .string s', .int .i64 p'] 55)).drew) w'.heap.size 55 #[.int .u8 (k' : Int), .string s', .int .i64 p']) := (RowAt.new w' _ _).drew
    go_region
    clear c0 c1 c2 c3 c4 g0 g1 g2 u0 u1 u2 K0 K1 K2 HB3
    generalize (w'.alloc (.cells #[.int .u8 (k' : Int), .string s', .int .i64 p'] 55)).drew = w2 at *
    obtain ⟨c0, c1, c2, c3, c4⟩ := rd_cells HS3.out.at_
    obtain ⟨g0, g1, g2, u0, u1, u2⟩ := row3 HG3.out
    obtain ⟨m0, m1, m2, _, _, _⟩ := row3 HN5.out
    have f1 := HS3.out.at_.free 1
    have hd2 : w.heap.size ≠ b := by omega
    go_wp2_with fail
    have hmf := HM3.out.setCell (p := ⟨b, 1, none⟩) (.inl rfl) hbw (.int .i64 ((j : Int) + 1))
    have hsf := HS3.out.mv ((Mv.refl b _).setCell (p := ⟨b, 1, none⟩) (.inl rfl) HS3.out.lt (.int .i64 ((j : Int) + 1))) (rd_row HS3.out.at_ _)
    have hgf := (((HG3.out.far (p := ⟨b, 1, none⟩) (Nat.ne_of_lt hbw) (.int .i64 ((j : Int) + 1))).put 0 (.int .u8 (k' : Int))).put 1 (.string s')).put 2 (.int .i64 p')
    exact bodyPost_ret (ret_cell rfl _ _ w.heap.size _ _ (0, 0) _ rfl hgf Try.underlying55 rfl (tok_info _ _ _)) rfl ⟨⟨k', s', p'⟩, (j : Int) + 1, none, rfl, ((hsf.far hbw).far hbw).far hbw,
      ((hmf.setCell (p := ⟨w.heap.size, 0, none⟩) (.inr (Nat.le_refl _)) hbw _).setCell (p := ⟨w.heap.size, 1, none⟩) (.inr (Nat.le_refl _)) hbw _).setCell (p := ⟨w.heap.size, 2, none⟩) (.inr (Nat.le_refl _)) hbw _, HST.out _ rfl⟩
  · have HST : Hid (∀ t, Step (takeR k) l i e f t i (failed l i e f)) := fun t => by
      cases f with
      | some p => exact Step.bad (Adv.refl _ _)
      | none => exact Step.fault (Adv.refl _ _) (takeR_miss hm)
    have hne : ((kindOf (rest l i) f : Int) != (k : Int)) = true := by simp; omega
    clear hm
    generalize kindOf (rest l i) f = q at *
    go_enter Try.func97, Try.ntmps97
    go_wp2_with fail
    refine HK.out.mono ?_
    rintro e' w' ⟨rfl, m, rfl⟩
    have HF := Lib.hid (fail_any (HS.out.below (bdrewN (Below.refl _ _) m)))
    go_wp2_with fail
    refine HF.out.mono ?_
    rintro e' w1 ⟨rfl, hs1, hm1, hz1⟩
    have hg1 := (HG.out.drewN m).mv hm1 (Nat.ne_of_gt hbw)
    obtain ⟨g0, g1, g2, u0, u1, u2⟩ := row3 hg1
    have HG1 := Lib.hid hg1; clear hg1
    have HM1 := Lib.hid ((HM0.out.drewN m).trans hm1)
    have HS1 := Lib.hid hs1
    clear hs1 hm1
    go_wp2_with fail
    have hgf := ((HG1.out.put 0 (.int .u8 0)).put 1 (.string ⟨#[]⟩)).put 2 (.int .i64 0)
    refine bodyPost_ret (ret_cell rfl _ _ w.heap.size _ _ (0, 0) _ rfl hgf Try.underlying55 rfl (tok_info _ _ _)) rfl ⟨t0, i, failed l i e f, rfl, ?_, ?_, HST.out _⟩
    · exact ((HS1.out.far hbw).far hbw).far hbw
    · exact ((HM1.out.setCell (p := ⟨w.heap.size, 0, none⟩) (.inr (Nat.le_refl _)) hbw _).setCell (p := ⟨w.heap.size, 1, none⟩) (.inr (Nat.le_refl _)) hbw _).setCell (p := ⟨w.heap.size, 2, none⟩) (.inr (Nat.le_refl _)) hbw _
end Go.Proofs.Ytapnefhmonpgdaa
