/-
  TermSound. Conditions: none.
-/
import Derived.Test.YtapnefhmonpgdaaTermBF
import Derived.Test.YtapnefhmonpgdaaTrmH
set_option linter.unusedSimpArgs false
set_option linter.unusedVariables false
namespace Go.Proofs.Ytapnefhmonpgdaa
open Go.RowKit LX TR TM
set_option maxRecDepth 100000 in
set_option maxHeartbeats 6400000 in
theorem termSound_any (s : ByteArray) (w : World) :
    Calls Try.prog 6 #[.string s] w fun e w' => e = .returned (.bool true) ∧ Below w.heap.size w w' := by
  by_cases hl : 1000 < s.size
  · have hl2 : (1000 : Int) < (s.size : Int) := by omega
    go_enter Try.func6, Try.ntmps6
    go_wp2_with fail
    refine (alive10_any _).mono ?_
    rintro e w2 ⟨rfl, hb⟩
    have HB2 := Lib.hid hb; clear hb
    go_wp2_with fail
    go_ret
    exact ⟨rfl, HB2.out⟩
  · have HT := Lib.hid (trees10_any s w (by omega))
    have hsz : s.size ≤ 1000 := by omega
    go_enter Try.func6, Try.ntmps6
    go_wp2_with fail
    refine HT.out.mono ?_
    rintro e w1 ⟨hb1, X, d, us, rfl, hu, hcap, htr⟩
    have hfew := few_us hu
    have hlen := length_nodes us
    have hsm : us.length ≤ 2199023255552 ∧ ∀ x ∈ nodes us, x.ks.length ≤ 2199023255552 := ⟨by omega, fun x hx => by have := kids_few us x hx; omega⟩
    have hN0 : (nodes (rest us 0)).length ≤ 1000 := by rw [rest_zero]; omega
    have hTR : ∀ W, Below w1.heap.size w1 W → Trs W W.heap.size X us := fun W h => (htr.below h).mono h.size
    have HC : Hid (∀ W, Below w1.heap.size w1 W → Calls Try.prog 25 #[.slice X us.length d, .int .i64 0, .int .i64 s.size] W fun e' w' => ∃ z i2 fx fy, e' = .returned (.tuple #[.agg (nv z), .int .i64 i2, .agg #[.int .i64 fx, .int .i64 fy]]) ∧ DeepN w' (fun k => W.heap.size ≤ k) [z] ∧ cnt [z] ≤ 2000 ∧ Res3 1 us z i2 fx fy ∧ Below W.heap.size W w') := fun W h =>
      call_fact (snd_const 1001) (ei_const 1001) hu hsz (const_call 1000 (by omega) X d us 0 s.size W (hTR W h) hsm hN0)
    have HL : Hid (∀ W, Below w1.heap.size w1 W → Calls Try.prog 26 #[.slice X us.length d, .int .i64 0, .int .i64 s.size] W fun e' w' => ∃ z i2 fx fy, e' = .returned (.tuple #[.agg (nv z), .int .i64 i2, .agg #[.int .i64 fx, .int .i64 fy]]) ∧ DeepN w' (fun k => W.heap.size ≤ k) [z] ∧ cnt [z] ≤ 2000 ∧ Res3 3 us z i2 fx fy ∧ Below W.heap.size W w') := fun W h =>
      call_fact (snd_label 1001) (ei_label 1001) hu hsz (label_call 1000 (by omega) X d us 0 s.size W (hTR W h) hsm hN0)
    have HR : Hid (∀ W, Below w1.heap.size w1 W → Calls Try.prog 27 #[.slice X us.length d, .int .i64 0, .int .i64 s.size] W fun e' w' => ∃ z i2 fx fy, e' = .returned (.tuple #[.agg (nv z), .int .i64 i2, .agg #[.int .i64 fx, .int .i64 fy]]) ∧ DeepN w' (fun k => W.heap.size ≤ k) [z] ∧ cnt [z] ≤ 2000 ∧ Res3 6 us z i2 fx fy ∧ Below W.heap.size W w') := fun W h =>
      call_fact (snd_row 1001) (ei_row 1001) hu hsz (row_call 1000 (by omega) X d us 0 s.size W (hTR W h) hsm hN0)
    have HIC : Hid (∀ (z : Nd) W, cnt [z] ≤ 2000 → Nods W W.heap.size [z] → Calls Try.prog 17 #[.agg (nv z)] W fun e w' => e = .returned (.bool (gF 1 (fl z))) ∧ Below W.heap.size W w') := fun z W h1 h2 => isConst_any 4294967296 (Nat.le_refl _) z (by omega) W h2
    have HIL : Hid (∀ (z : Nd) W, cnt [z] ≤ 2000 → Nods W W.heap.size [z] → Calls Try.prog 19 #[.agg (nv z)] W fun e w' => e = .returned (.bool (gF 3 (fl z))) ∧ Below W.heap.size W w') := fun z W h1 h2 => isLabel_any 4294967296 (Nat.le_refl _) z (by omega) W h2
    have HIR : Hid (∀ (z : Nd) W, cnt [z] ≤ 2000 → Nods W W.heap.size [z] → Calls Try.prog 21 #[.agg (nv z)] W fun e w' => e = .returned (.bool (gF 6 (fl z))) ∧ Below W.heap.size W w') := fun z W h1 h2 => isRow_any z (by omega) W h2
    have HTT : Hid (∀ (z : Nd) W, cnt [z] ≤ 2000 → (tx z).length ≤ 34000 → Nods W W.heap.size [z] → Calls Try.prog 13 #[.agg (nv z)] W fun e w' => e = .returned (.string (text10 z)) ∧ Below W.heap.size W w') := fun z W h1 h2 h3 => text_any z W (by omega) (by omega) h3
    have HFL : Hid (∀ (m : Nat) W, (nodes (us.take m)).length ≤ 1000 → m ≤ us.length → Below w1.heap.size w1 W → Calls Try.prog 30 #[.slice X m d] W fun e w' => (∃ A' c', e = .returned (.slice A' (flat (us.take m)).length c') ∧ Toks w' A' (flat (us.take m))) ∧ Below W.heap.size W w') := fun m W h1 h2 h3 => by
      have h4 := refFlat_any 1000 (us.take m) X d W h1 (by omega) ((hTR W h3).take m)
      rw [List.length_take, Nat.min_eq_left h2] at h4
      exact h4.mono fun e w' ⟨⟨A', c', h5, h6⟩, h7⟩ => ⟨⟨A', c', h5, Sl.of_own h6⟩, h7⟩
    have HTX8 : Hid (∀ (m : Nat) A c W (z : Nd), (nodes (us.take m)).length ≤ 1000 → (tx z).length ≤ 34000 → text (flat (us.take m)) = text10 z → Toks W A (flat (us.take m)) → Calls Try.prog 29 #[.slice A (flat (us.take m)).length c] W fun e w' => e = .returned (.string (text10 z)) ∧ W = w') := fun m A c W z h1 h2 h3 h4 => by
      have h5 := flat_length (us.take m)
      have h6 : (txt false (flat (us.take m))).length ≤ 4294967296 := by
        have h7 := congrArg ByteArray.size h3
        unfold text text10 at h7
        rw [mk_size, mk_size] at h7
        omega
      have h8 := refText_any A c (flat (us.take m)) W (by omega) h6 h4
      rw [h3] at h8
      exact h8
    have HB1 := Lib.hid hb1
    have hn1 : us.length ≤ 1000 := by omega
    clear hlen
    clear hb1 htr hu hfew hsm hN0 hTR HT
    generalize hnn : us.length = n at *
    have HNN := Lib.hid hnn
    clear hnn
    go_wp2_with fail
    go_loopw [4] (fun iv wr => ∃ i : Int, (i = 0 ∨ i = 1 ∨ i = 2 ∨ i = 3) ∧ iv = .int .i64 i ∧ Hid (Below w1.heap.size w1 wr)) (fun iv _ => 3 - (intOf iv).toNat)
    case atStart => exact ⟨0, .inl rfl, rfl, Below.refl _ _⟩
    case round =>
      obtain ⟨i, hi, rfl, HW⟩ := hrel
      rcases hi with rfl | rfl | rfl | rfl
      · skip
        go_wp2_with fail
        refine (HC.out wr HW.out).mono ?_
        rintro e' w2 ⟨x, y2, gx, gy, rfl, hnx, hcx, hrx, hbx⟩
        have HRX := Lib.hid hrx
        have HB2 := Lib.hid (HW.out.trans (hbx.mono HW.out.size))
        have HNX := Lib.hid (fun W (h : Below w2.heap.size w2 W) => HIC.out x W hcx ((hnx.nods.below h).mono h.size))
        have HTX := Lib.hid (fun hl W (h : Below w2.heap.size w2 W) => HTT.out x W hcx hl ((hnx.nods.below h).mono h.size))
        clear hrx hbx hnx hcx
        obtain ⟨xk, xp, xs, xA, xc, xw, xB, xd, xz⟩ := x
        unfold nv at HNX HTX ⊢
        simp only [Nd.k, Nd.p, Nd.s, Nd.A, Nd.c, Nd.ws, Nd.B, Nd.d, Nd.ks] at HNX HTX ⊢
        have hbw3 : Below w2.heap.size w2 ((w2.alloc (.cells #[.int .i64 xk, .int .i64 xp, .string xs, .slice xA xw.length xc, .slice xB xz.length xd] 32)).alloc (.cells #[.int .i64 gx, .int .i64 gy] 27)) := ((Below.refl _ _).alloc (Nat.le_refl _) _).alloc (by simp) _
        have HA3 := Lib.hid ((RowAt.new w2 32 #[.int .i64 xk, .int .i64 xp, .string xs, .slice xA xw.length xc, .slice xB xz.length xd]).alloc (.cells #[.int .i64 gx, .int .i64 gy] 27))
        have hf3 := RowAt.new (w2.alloc (.cells #[.int .i64 xk, .int .i64 xp, .string xs, .slice xA xw.length xc, .slice xB xz.length xd] 32)) 27 #[.int .i64 gx, .int .i64 gy]
        rw [show (w2.alloc (.cells #[.int .i64 xk, .int .i64 xp, .string xs, .slice xA xw.length xc, .slice xB xz.length xd] 32)).heap.size = w2.heap.size + 1 by simp] at hf3
        have HF3 := Lib.hid hf3
        have HB3 := Lib.hid (HB2.out.trans (hbw3.mono HB2.out.size))
        have HN3 := Lib.hid (HNX.out _ hbw3)
        have HBX := Lib.hid hbw3
        clear hbw3 hf3 HNX
        go_upto_region 8 with fail
        generalize ((w2.alloc (.cells #[.int .i64 xk, .int .i64 xp, .string xs, .slice xA xw.length xc, .slice xB xz.length xd] 32)).alloc (.cells #[.int .i64 gx, .int .i64 gy] 27)) = w3 at *
        obtain ⟨a0, a1, a2, a3, a4, _, _, _, _, _⟩ := row5 HA3.out
        have HRX9 := HRX.out
        clear HRX
        unfold Res3 Fact at HRX9
        simp only [HNN.out] at HRX9
        rcases HRX9 with rfl | ⟨rfl, rfl, m, rfl, hm1, hm2, hg, htx, hln, hnt⟩
        · skip
          generalize gF _ (fl (.mk xk xp xs xA xc xw xB xd xz)) = q at HN3
          go_wp2_with fail
          refine HN3.out.mono ?_
          rintro e' w9 ⟨rfl, hb⟩
          have HF9 := Lib.hid (HF3.out.below hb HF3.out.lt)
          have HB9 := Lib.hid (HB3.out.trans (hb.mono HB3.out.size))
          clear hb
          obtain ⟨f0, f1, _, _⟩ := row2 HF9.out
          go_wp2_with fail
          go_roundw
          case rel => exact ⟨1, by omega, by first | rfl | go_num, HB9⟩
          case measure => simp [intOf]
        · skip
          rw [hg] at HN3
          have HTA := Lib.hid (HTX.out hln)
          have HTB := Lib.hid (fun A c W (h : Toks W A (flat (us.take m))) => HTX8.out m A c W (.mk xk xp xs xA xc xw xB xd xz) hnt hln htx h)
          have HTF := Lib.hid (fun W (h : Below w1.heap.size w1 W) => HFL.out m W hnt hm2 h)
          clear hg htx hln hnt
          generalize text10 (.mk xk xp xs xA xc xw xB xd xz) = T at *
          generalize flat (us.take m) = FL at *
          have hmd : m ≤ d := Nat.le_trans hm2 hcap
          have hmdI : (m : Int) ≤ (d : Int) := by omega
          have hm0 : (0 : Int) ≤ (m : Int) := by omega
          have hmt : ((m : Int)).toNat = m := by omega
          have hml : decide ((m : Int) < 1) = false := decide_eq_false (by omega)
          have hml2 : decide (m < 1) = false := decide_eq_false (by omega)
          have hmn : decide (n < m) = false := decide_eq_false (by omega)
          go_wp2_with fail
          refine HN3.out.mono ?_
          rintro e' w9 ⟨rfl, hb⟩
          have HA9 := Lib.hid (HA3.out.below hb HA3.out.lt)
          have HF9 := Lib.hid (HF3.out.below hb HF3.out.lt)
          have HB9 := Lib.hid (HB3.out.trans (hb.mono HB3.out.size))
          have HN9 := Lib.hid (HBX.out.trans (hb.mono HBX.out.size))
          clear hb
          obtain ⟨f0, f1, _, _⟩ := row2 HF9.out
          go_upto_region 16 with fail
          obtain ⟨S, hSe⟩ : ∃ S : World → Prop, S = fun w' => Below w1.heap.size w1 w' ∧ Below w2.heap.size w2 w' ∧ RowAt w' w2.heap.size 32 #[.int .i64 xk, .int .i64 xp, .string xs, .slice xA xw.length xc, .slice xB xz.length xd] := ⟨_, rfl⟩
          have keepS : ∀ wa wb, S wa → Below wa.heap.size wa wb → S wb := fun wa wb h hb => by
            rw [hSe] at h ⊢
            exact ⟨h.1.trans (hb.mono h.1.size), h.2.1.trans (hb.mono h.2.1.size), h.2.2.below hb h.2.2.lt⟩
          have HSB : Hid (∀ W, S W → Below w1.heap.size w1 W) := fun W h => by
            rw [hSe] at h
            exact h.1
          have HSN : Hid (∀ W, S W → Below w2.heap.size w2 W) := fun W h => by
            rw [hSe] at h
            exact h.2.1
          have C0 : ∀ W, S W → W.cell? ⟨w2.heap.size, 0, none⟩ = some (.int .i64 xk) := fun W h => by
            rw [hSe] at h
            exact (RowAt.cell h.2.2 0).trans rfl
          have C1 : ∀ W, S W → W.cell? ⟨w2.heap.size, 1, none⟩ = some (.int .i64 xp) := fun W h => by
            rw [hSe] at h
            exact (RowAt.cell h.2.2 1).trans rfl
          have C2 : ∀ W, S W → W.cell? ⟨w2.heap.size, 2, none⟩ = some (.string xs) := fun W h => by
            rw [hSe] at h
            exact (RowAt.cell h.2.2 2).trans rfl
          have C3 : ∀ W, S W → W.cell? ⟨w2.heap.size, 3, none⟩ = some (.slice xA xw.length xc) := fun W h => by
            rw [hSe] at h
            exact (RowAt.cell h.2.2 3).trans rfl
          have C4 : ∀ W, S W → W.cell? ⟨w2.heap.size, 4, none⟩ = some (.slice xB xz.length xd) := fun W h => by
            rw [hSe] at h
            exact (RowAt.cell h.2.2 4).trans rfl
          have HS : Hid (S w9.drew) := by
            show S w9.drew
            rw [hSe]
            exact ⟨HB9.out.drew, HN9.out.drew, HA9.out.below (Below.refl _ _).drew HA9.out.lt⟩
          refine wp_region_ord S [(0, true), (1, true), (2, true), (3, true), (4, true), (5, true), (6, true), (7, true), (8, true), (9, true), (10, true), (11, true), (12, true), (13, true), (15, true), (16, true), (17, true), (14, false), (18, false), (19, false), (20, true), (21, true)] (by kernel_rfl) (by kernel_rfl) rfl (by kernel_rfl) HS.out ?_
          iterate 17
            (refine wpOrd_step (o := ?_) ?_ ?_; rotate_left 1; (simp only [List.getElem?_toArray, List.getElem?_cons_succ, List.getElem?_cons_zero]; with_reducible rfl))
            (first
                | (refine wpOrd_skip (by rfl) ?_)
                | (refine wpOrd_take (v := ?_) (by rfl) ?_ ?_; rotate_left 1; (intro wx hSx; have hc_0 := C0 wx hSx; have hc_1 := C1 wx hSx; have hc_2 := C2 wx hSx; have hc_3 := C3 wx hSx; have hc_4 := C4 wx hSx; go_simp; try with_reducible rfl)))
            (try simp only [Act.put, List.setIfInBounds_toArray, List.set_cons_zero, List.set_cons_succ])
          (refine wpOrd_solo (o := ?_) ?_ ?_; rotate_left 1; (simp only [List.getElem?_toArray, List.getElem?_cons_succ, List.getElem?_cons_zero]; with_reducible rfl))
          intro K hK
          go_simp
          go_at_call 13
          refine (HTA.out _ (HSN.out _ HS.out)).mono ?_
          rintro e v1 ⟨rfl, hb⟩
          have hS := keepS _ _ HS.out hb
          clear HS
          have HS := Lib.hid hS; clear hS hb
          refine hK.out _ _ HS.out ?_
          clear hK K
          (try simp only [Act.put, List.setIfInBounds_toArray, List.set_cons_zero, List.set_cons_succ])
          (refine wpOrd_solo (o := ?_) ?_ ?_; rotate_left 1; (simp only [List.getElem?_toArray, List.getElem?_cons_succ, List.getElem?_cons_zero]; with_reducible rfl))
          intro K hK
          go_simp
          go_at_call 30
          refine (HTF.out _ (HSB.out _ HS.out)).mono ?_
          rintro e v2 ⟨⟨AF, cF, rfl, htk⟩, hb⟩
          have hS := keepS _ _ HS.out hb
          clear HS
          have HS := Lib.hid hS; clear hS hb
          have HTK := Lib.hid htk
          clear htk
          refine hK.out _ _ HS.out ?_
          clear hK K
          (try simp only [Act.put, List.setIfInBounds_toArray, List.set_cons_zero, List.set_cons_succ])
          (refine wpOrd_solo (o := ?_) ?_ ?_; rotate_left 1; (simp only [List.getElem?_toArray, List.getElem?_cons_succ, List.getElem?_cons_zero]; with_reducible rfl))
          intro K hK
          go_simp
          go_at_call 29
          refine (HTB.out _ _ _ HTK.out).mono ?_
          rintro e w' ⟨rfl, rfl⟩
          refine hK.out _ _ HS.out ?_
          clear hK K
          (try simp only [Act.put, List.setIfInBounds_toArray, List.set_cons_zero, List.set_cons_succ])
          iterate 2
            (refine wpOrd_step (o := ?_) ?_ ?_; rotate_left 1; (simp only [List.getElem?_toArray, List.getElem?_cons_succ, List.getElem?_cons_zero]; with_reducible rfl))
            (first
                | (refine wpOrd_skip (by rfl) ?_)
                | (refine wpOrd_take (v := ?_) (by rfl) ?_ ?_; rotate_left 1; (intro wx hSx; have hc_0 := C0 wx hSx; have hc_1 := C1 wx hSx; have hc_2 := C2 wx hSx; have hc_3 := C3 wx hSx; have hc_4 := C4 wx hSx; go_simp; try with_reducible rfl)))
            (try simp only [Act.put, List.setIfInBounds_toArray, List.set_cons_zero, List.set_cons_succ])
          refine wpOrd_done ?_
          have hS9 := HSB.out _ HS.out
          have HB8 := Lib.hid hS9
          clear hS9
          go_wp2_with fail
          go_roundw
          case rel => exact ⟨1, by omega, by first | rfl | go_num, HB8⟩
          case measure => simp [intOf]
      · skip
        go_wp2_with fail
        refine (HC.out wr HW.out).mono ?_
        rintro e' w2 ⟨x, y2, gx, gy, rfl, hnx, hcx, hrx, hbx⟩
        have HRX := Lib.hid hrx
        have HB2 := Lib.hid (HW.out.trans (hbx.mono HW.out.size))
        have HNX := Lib.hid (fun W (h : Below w2.heap.size w2 W) => HIC.out x W hcx ((hnx.nods.below h).mono h.size))
        have HTX := Lib.hid (fun hl W (h : Below w2.heap.size w2 W) => HTT.out x W hcx hl ((hnx.nods.below h).mono h.size))
        clear hrx hbx hnx hcx
        obtain ⟨xk, xp, xs, xA, xc, xw, xB, xd, xz⟩ := x
        unfold nv at HNX HTX ⊢
        simp only [Nd.k, Nd.p, Nd.s, Nd.A, Nd.c, Nd.ws, Nd.B, Nd.d, Nd.ks] at HNX HTX ⊢
        have hbw3 : Below w2.heap.size w2 ((w2.alloc (.cells #[.int .i64 xk, .int .i64 xp, .string xs, .slice xA xw.length xc, .slice xB xz.length xd] 32)).alloc (.cells #[.int .i64 gx, .int .i64 gy] 27)) := ((Below.refl _ _).alloc (Nat.le_refl _) _).alloc (by simp) _
        have HA3 := Lib.hid ((RowAt.new w2 32 #[.int .i64 xk, .int .i64 xp, .string xs, .slice xA xw.length xc, .slice xB xz.length xd]).alloc (.cells #[.int .i64 gx, .int .i64 gy] 27))
        have hf3 := RowAt.new (w2.alloc (.cells #[.int .i64 xk, .int .i64 xp, .string xs, .slice xA xw.length xc, .slice xB xz.length xd] 32)) 27 #[.int .i64 gx, .int .i64 gy]
        rw [show (w2.alloc (.cells #[.int .i64 xk, .int .i64 xp, .string xs, .slice xA xw.length xc, .slice xB xz.length xd] 32)).heap.size = w2.heap.size + 1 by simp] at hf3
        have HF3 := Lib.hid hf3
        have HB3 := Lib.hid (HB2.out.trans (hbw3.mono HB2.out.size))
        have HN3 := Lib.hid (HNX.out _ hbw3)
        have HBX := Lib.hid hbw3
        clear hbw3 hf3 HNX
        go_upto_region 8 with fail
        generalize ((w2.alloc (.cells #[.int .i64 xk, .int .i64 xp, .string xs, .slice xA xw.length xc, .slice xB xz.length xd] 32)).alloc (.cells #[.int .i64 gx, .int .i64 gy] 27)) = w3 at *
        obtain ⟨a0, a1, a2, a3, a4, _, _, _, _, _⟩ := row5 HA3.out
        generalize gF _ (fl (.mk xk xp xs xA xc xw xB xd xz)) = q at HN3
        clear HTX
        go_wp2_with fail
        refine HN3.out.mono ?_
        rintro e' w4 ⟨rfl, hb⟩
        have HA4 := Lib.hid (HA3.out.below hb HA3.out.lt)
        have HF4 := Lib.hid (HF3.out.below hb HF3.out.lt)
        have HB4 := Lib.hid (HB3.out.trans (hb.mono HB3.out.size))
        clear hb HA3 HF3 HB3 HN3 HBX
        go_wp2_with fail
        refine (HL.out w4 HB4.out).mono ?_
        rintro e' w5 ⟨⟨yk, yp, ys, yA, yc, yw, yB, yd, yz⟩, y3, hx, hy, rfl, hny, hcy, hry, hby⟩
        have HRY := Lib.hid hry
        have ha5 := HA4.out.below hby HA4.out.lt
        have hf5 := HF4.out.below hby HF4.out.lt
        have hb5 := HB4.out.trans (hby.mono HB4.out.size)
        have hgf : w2.heap.size + 1 < w4.heap.size := HF4.out.lt
        have hgw : w1.heap.size ≤ w2.heap.size := HB2.out.size
        have hn6 : DeepN (set5 w5 w2.heap.size (.int .i64 yk) (.int .i64 yp) (.string ys) (.slice yA yw.length yc) (.slice yB yz.length yd)) (fun k => w4.heap.size ≤ k) [(.mk yk yp ys yA yc yw yB yd yz)] := set5_deep hny fun k _ hk => by
          have hk : w4.heap.size ≤ k := hk
          exact ⟨by omega, hk⟩
        have hn7 := (hn6.setCell9 (p := ⟨w2.heap.size + 1, 0, none⟩) (fun k hk => by have hk : w4.heap.size ≤ k := hk; show k ≠ w2.heap.size + 1; omega) (.int .i64 hx)).setCell9 (p := ⟨w2.heap.size + 1, 1, none⟩) (fun k hk => by have hk : w4.heap.size ≤ k := hk; show k ≠ w2.heap.size + 1; omega) (.int .i64 hy)
        have ha7 := ((set5_row (a0 := .int .i64 yk) (b0 := .int .i64 yp) (c0 := .string ys) (d0 := .slice yA yw.length yc) (e0 := .slice yB yz.length yd) ha5).far (p := ⟨w2.heap.size + 1, 0, none⟩) (by show w2.heap.size + 1 ≠ w2.heap.size; omega) (.int .i64 hx)).far (p := ⟨w2.heap.size + 1, 1, none⟩) (by show w2.heap.size + 1 ≠ w2.heap.size; omega) (.int .i64 hy)
        have hf6 : RowAt (set5 w5 w2.heap.size (.int .i64 yk) (.int .i64 yp) (.string ys) (.slice yA yw.length yc) (.slice yB yz.length yd)) (w2.heap.size + 1) 27 #[.int .i64 gx, .int .i64 gy] := (set5_other (by omega)).trans hf5
        have hf7 : RowAt (((set5 w5 w2.heap.size (.int .i64 yk) (.int .i64 yp) (.string ys) (.slice yA yw.length yc) (.slice yB yz.length yd)).setCell ⟨w2.heap.size + 1, 0, none⟩ (.int .i64 hx)).setCell ⟨w2.heap.size + 1, 1, none⟩ (.int .i64 hy)) (w2.heap.size + 1) 27 #[.int .i64 hx, .int .i64 hy] := (hf6.put 0 _).put 1 _
        have hb7 : Below w1.heap.size w1 (((set5 w5 w2.heap.size (.int .i64 yk) (.int .i64 yp) (.string ys) (.slice yA yw.length yc) (.slice yB yz.length yd)).setCell ⟨w2.heap.size + 1, 0, none⟩ (.int .i64 hx)).setCell ⟨w2.heap.size + 1, 1, none⟩ (.int .i64 hy)) := hb5.trans (((set5_below hgw).setCell (p := ⟨w2.heap.size + 1, 0, none⟩) (by show w1.heap.size ≤ w2.heap.size + 1; omega) _).setCell (p := ⟨w2.heap.size + 1, 1, none⟩) (by show w1.heap.size ≤ w2.heap.size + 1; omega) _)
        have HNY := Lib.hid (fun W (h : Below _ _ W) => HIL.out (.mk yk yp ys yA yc yw yB yd yz) W hcy ((hn7.nods.below h).mono h.size))
        have HTY := Lib.hid (fun hl W (h : Below _ _ W) => HTT.out (.mk yk yp ys yA yc yw yB yd yz) W hcy hl ((hn7.nods.below h).mono h.size))
        have HA7 := Lib.hid ha7
        have HF7 := Lib.hid hf7
        have HB7 := Lib.hid hb7
        obtain ⟨a0, a1, a2, a3, a4, z0, z1, z2, z3, z4⟩ := row5 ha5
        obtain ⟨f0, f1, y0, y1⟩ := row2 hf5
        unfold set5 at HNY HTY HA7 HF7 HB7
        unfold nv at HNY HTY ⊢
        simp only [Nd.k, Nd.p, Nd.s, Nd.A, Nd.c, Nd.ws, Nd.B, Nd.d, Nd.ks] at HNY HTY HA7 HF7 HB7 ⊢
        clear hry hby hny hcy hn6 hn7 ha7 hf6 hf7 hb7 hb5 ha5 hf5 hgf hgw HA4 HF4 HB4
        go_upto_region 11 with fail
        generalize (((((((w5.setCell ⟨w2.heap.size, 0, none⟩ (.int .i64 yk)).setCell ⟨w2.heap.size, 1, none⟩ (.int .i64 yp)).setCell ⟨w2.heap.size, 2, none⟩ (.string ys)).setCell ⟨w2.heap.size, 3, none⟩ (.slice yA yw.length yc)).setCell ⟨w2.heap.size, 4, none⟩ (.slice yB yz.length yd)).setCell ⟨w2.heap.size + 1, 0, none⟩ (.int .i64 hx)).setCell ⟨w2.heap.size + 1, 1, none⟩ (.int .i64 hy)) = w6 at *
        clear a0 a1 a2 a3 a4 z0 z1 z2 z3 z4 f0 f1 y0 y1
        have HN7 := Lib.hid (HNY.out w6 (Below.refl _ _))
        have HBY : Hid (Below w6.heap.size w6 w6) := Below.refl _ _
        obtain ⟨a0, a1, a2, a3, a4, _, _, _, _, _⟩ := row5 HA7.out
        have HRX9 := HRY.out
        clear HRY HRX HNY
        unfold Res3 Fact at HRX9
        simp only [HNN.out] at HRX9
        rcases HRX9 with rfl | ⟨rfl, rfl, m, rfl, hm1, hm2, hg, htx, hln, hnt⟩
        · skip
          generalize gF _ (fl (.mk yk yp ys yA yc yw yB yd yz)) = q at HN7
          go_wp2_with fail
          refine HN7.out.mono ?_
          rintro e' w9 ⟨rfl, hb⟩
          have HF9 := Lib.hid (HF7.out.below hb HF7.out.lt)
          have HB9 := Lib.hid (HB7.out.trans (hb.mono HB7.out.size))
          clear hb
          obtain ⟨f0, f1, _, _⟩ := row2 HF9.out
          go_wp2_with fail
          go_roundw
          case rel => exact ⟨2, by omega, by first | rfl | go_num, HB9⟩
          case measure => simp [intOf]
        · skip
          rw [hg] at HN7
          have HTA := Lib.hid (HTY.out hln)
          have HTB := Lib.hid (fun A c W (h : Toks W A (flat (us.take m))) => HTX8.out m A c W (.mk yk yp ys yA yc yw yB yd yz) hnt hln htx h)
          have HTF := Lib.hid (fun W (h : Below w1.heap.size w1 W) => HFL.out m W hnt hm2 h)
          clear hg htx hln hnt
          generalize text10 (.mk yk yp ys yA yc yw yB yd yz) = T at *
          generalize flat (us.take m) = FL at *
          have hmd : m ≤ d := Nat.le_trans hm2 hcap
          have hmdI : (m : Int) ≤ (d : Int) := by omega
          have hm0 : (0 : Int) ≤ (m : Int) := by omega
          have hmt : ((m : Int)).toNat = m := by omega
          have hml : decide ((m : Int) < 1) = false := decide_eq_false (by omega)
          have hml2 : decide (m < 1) = false := decide_eq_false (by omega)
          have hmn : decide (n < m) = false := decide_eq_false (by omega)
          go_wp2_with fail
          refine HN7.out.mono ?_
          rintro e' w9 ⟨rfl, hb⟩
          have HA9 := Lib.hid (HA7.out.below hb HA7.out.lt)
          have HF9 := Lib.hid (HF7.out.below hb HF7.out.lt)
          have HB9 := Lib.hid (HB7.out.trans (hb.mono HB7.out.size))
          have HN9 := Lib.hid (HBY.out.trans (hb.mono HBY.out.size))
          clear hb
          obtain ⟨f0, f1, _, _⟩ := row2 HF9.out
          go_upto_region 16 with fail
          obtain ⟨S, hSe⟩ : ∃ S : World → Prop, S = fun w' => Below w1.heap.size w1 w' ∧ Below w6.heap.size w6 w' ∧ RowAt w' w2.heap.size 32 #[.int .i64 yk, .int .i64 yp, .string ys, .slice yA yw.length yc, .slice yB yz.length yd] := ⟨_, rfl⟩
          have keepS : ∀ wa wb, S wa → Below wa.heap.size wa wb → S wb := fun wa wb h hb => by
            rw [hSe] at h ⊢
            exact ⟨h.1.trans (hb.mono h.1.size), h.2.1.trans (hb.mono h.2.1.size), h.2.2.below hb h.2.2.lt⟩
          have HSB : Hid (∀ W, S W → Below w1.heap.size w1 W) := fun W h => by
            rw [hSe] at h
            exact h.1
          have HSN : Hid (∀ W, S W → Below w6.heap.size w6 W) := fun W h => by
            rw [hSe] at h
            exact h.2.1
          have C0 : ∀ W, S W → W.cell? ⟨w2.heap.size, 0, none⟩ = some (.int .i64 yk) := fun W h => by
            rw [hSe] at h
            exact (RowAt.cell h.2.2 0).trans rfl
          have C1 : ∀ W, S W → W.cell? ⟨w2.heap.size, 1, none⟩ = some (.int .i64 yp) := fun W h => by
            rw [hSe] at h
            exact (RowAt.cell h.2.2 1).trans rfl
          have C2 : ∀ W, S W → W.cell? ⟨w2.heap.size, 2, none⟩ = some (.string ys) := fun W h => by
            rw [hSe] at h
            exact (RowAt.cell h.2.2 2).trans rfl
          have C3 : ∀ W, S W → W.cell? ⟨w2.heap.size, 3, none⟩ = some (.slice yA yw.length yc) := fun W h => by
            rw [hSe] at h
            exact (RowAt.cell h.2.2 3).trans rfl
          have C4 : ∀ W, S W → W.cell? ⟨w2.heap.size, 4, none⟩ = some (.slice yB yz.length yd) := fun W h => by
            rw [hSe] at h
            exact (RowAt.cell h.2.2 4).trans rfl
          have HS : Hid (S w9.drew) := by
            show S w9.drew
            rw [hSe]
            exact ⟨HB9.out.drew, HN9.out.drew, HA9.out.below (Below.refl _ _).drew HA9.out.lt⟩
          refine wp_region_ord S [(0, true), (1, true), (2, true), (3, true), (4, true), (5, true), (6, true), (7, true), (8, true), (9, true), (10, true), (11, true), (12, true), (13, true), (15, true), (16, true), (17, true), (14, false), (18, false), (19, false), (20, true), (21, true)] (by kernel_rfl) (by kernel_rfl) rfl (by kernel_rfl) HS.out ?_
          iterate 17
            (refine wpOrd_step (o := ?_) ?_ ?_; rotate_left 1; (simp only [List.getElem?_toArray, List.getElem?_cons_succ, List.getElem?_cons_zero]; with_reducible rfl))
            (first
                | (refine wpOrd_skip (by rfl) ?_)
                | (refine wpOrd_take (v := ?_) (by rfl) ?_ ?_; rotate_left 1; (intro wx hSx; have hc_0 := C0 wx hSx; have hc_1 := C1 wx hSx; have hc_2 := C2 wx hSx; have hc_3 := C3 wx hSx; have hc_4 := C4 wx hSx; go_simp; try with_reducible rfl)))
            (try simp only [Act.put, List.setIfInBounds_toArray, List.set_cons_zero, List.set_cons_succ])
          (refine wpOrd_solo (o := ?_) ?_ ?_; rotate_left 1; (simp only [List.getElem?_toArray, List.getElem?_cons_succ, List.getElem?_cons_zero]; with_reducible rfl))
          intro K hK
          go_simp
          go_at_call 13
          refine (HTA.out _ (HSN.out _ HS.out)).mono ?_
          rintro e v1 ⟨rfl, hb⟩
          have hS := keepS _ _ HS.out hb
          clear HS
          have HS := Lib.hid hS; clear hS hb
          refine hK.out _ _ HS.out ?_
          clear hK K
          (try simp only [Act.put, List.setIfInBounds_toArray, List.set_cons_zero, List.set_cons_succ])
          (refine wpOrd_solo (o := ?_) ?_ ?_; rotate_left 1; (simp only [List.getElem?_toArray, List.getElem?_cons_succ, List.getElem?_cons_zero]; with_reducible rfl))
          intro K hK
          go_simp
          go_at_call 30
          refine (HTF.out _ (HSB.out _ HS.out)).mono ?_
          rintro e v2 ⟨⟨AF, cF, rfl, htk⟩, hb⟩
          have hS := keepS _ _ HS.out hb
          clear HS
          have HS := Lib.hid hS; clear hS hb
          have HTK := Lib.hid htk
          clear htk
          refine hK.out _ _ HS.out ?_
          clear hK K
          (try simp only [Act.put, List.setIfInBounds_toArray, List.set_cons_zero, List.set_cons_succ])
          (refine wpOrd_solo (o := ?_) ?_ ?_; rotate_left 1; (simp only [List.getElem?_toArray, List.getElem?_cons_succ, List.getElem?_cons_zero]; with_reducible rfl))
          intro K hK
          go_simp
          go_at_call 29
          refine (HTB.out _ _ _ HTK.out).mono ?_
          rintro e w' ⟨rfl, rfl⟩
          refine hK.out _ _ HS.out ?_
          clear hK K
          (try simp only [Act.put, List.setIfInBounds_toArray, List.set_cons_zero, List.set_cons_succ])
          iterate 2
            (refine wpOrd_step (o := ?_) ?_ ?_; rotate_left 1; (simp only [List.getElem?_toArray, List.getElem?_cons_succ, List.getElem?_cons_zero]; with_reducible rfl))
            (first
                | (refine wpOrd_skip (by rfl) ?_)
                | (refine wpOrd_take (v := ?_) (by rfl) ?_ ?_; rotate_left 1; (intro wx hSx; have hc_0 := C0 wx hSx; have hc_1 := C1 wx hSx; have hc_2 := C2 wx hSx; have hc_3 := C3 wx hSx; have hc_4 := C4 wx hSx; go_simp; try with_reducible rfl)))
            (try simp only [Act.put, List.setIfInBounds_toArray, List.set_cons_zero, List.set_cons_succ])
          refine wpOrd_done ?_
          have hS9 := HSB.out _ HS.out
          have HB8 := Lib.hid hS9
          clear hS9
          go_wp2_with fail
          go_roundw
          case rel => exact ⟨2, by omega, by first | rfl | go_num, HB8⟩
          case measure => simp [intOf]
      · skip
        go_wp2_with fail
        refine (HC.out wr HW.out).mono ?_
        rintro e' w2 ⟨x, y2, gx, gy, rfl, hnx, hcx, hrx, hbx⟩
        have HRX := Lib.hid hrx
        have HB2 := Lib.hid (HW.out.trans (hbx.mono HW.out.size))
        have HNX := Lib.hid (fun W (h : Below w2.heap.size w2 W) => HIC.out x W hcx ((hnx.nods.below h).mono h.size))
        have HTX := Lib.hid (fun hl W (h : Below w2.heap.size w2 W) => HTT.out x W hcx hl ((hnx.nods.below h).mono h.size))
        clear hrx hbx hnx hcx
        obtain ⟨xk, xp, xs, xA, xc, xw, xB, xd, xz⟩ := x
        unfold nv at HNX HTX ⊢
        simp only [Nd.k, Nd.p, Nd.s, Nd.A, Nd.c, Nd.ws, Nd.B, Nd.d, Nd.ks] at HNX HTX ⊢
        have hbw3 : Below w2.heap.size w2 ((w2.alloc (.cells #[.int .i64 xk, .int .i64 xp, .string xs, .slice xA xw.length xc, .slice xB xz.length xd] 32)).alloc (.cells #[.int .i64 gx, .int .i64 gy] 27)) := ((Below.refl _ _).alloc (Nat.le_refl _) _).alloc (by simp) _
        have HA3 := Lib.hid ((RowAt.new w2 32 #[.int .i64 xk, .int .i64 xp, .string xs, .slice xA xw.length xc, .slice xB xz.length xd]).alloc (.cells #[.int .i64 gx, .int .i64 gy] 27))
        have hf3 := RowAt.new (w2.alloc (.cells #[.int .i64 xk, .int .i64 xp, .string xs, .slice xA xw.length xc, .slice xB xz.length xd] 32)) 27 #[.int .i64 gx, .int .i64 gy]
        rw [show (w2.alloc (.cells #[.int .i64 xk, .int .i64 xp, .string xs, .slice xA xw.length xc, .slice xB xz.length xd] 32)).heap.size = w2.heap.size + 1 by simp] at hf3
        have HF3 := Lib.hid hf3
        have HB3 := Lib.hid (HB2.out.trans (hbw3.mono HB2.out.size))
        have HN3 := Lib.hid (HNX.out _ hbw3)
        have HBX := Lib.hid hbw3
        clear hbw3 hf3 HNX
        go_upto_region 8 with fail
        generalize ((w2.alloc (.cells #[.int .i64 xk, .int .i64 xp, .string xs, .slice xA xw.length xc, .slice xB xz.length xd] 32)).alloc (.cells #[.int .i64 gx, .int .i64 gy] 27)) = w3 at *
        obtain ⟨a0, a1, a2, a3, a4, _, _, _, _, _⟩ := row5 HA3.out
        generalize gF _ (fl (.mk xk xp xs xA xc xw xB xd xz)) = q at HN3
        clear HTX
        go_wp2_with fail
        refine HN3.out.mono ?_
        rintro e' w4 ⟨rfl, hb⟩
        have HA4 := Lib.hid (HA3.out.below hb HA3.out.lt)
        have HF4 := Lib.hid (HF3.out.below hb HF3.out.lt)
        have HB4 := Lib.hid (HB3.out.trans (hb.mono HB3.out.size))
        clear hb HA3 HF3 HB3 HN3 HBX
        go_wp2_with fail
        refine (HR.out w4 HB4.out).mono ?_
        rintro e' w5 ⟨⟨yk, yp, ys, yA, yc, yw, yB, yd, yz⟩, y3, hx, hy, rfl, hny, hcy, hry, hby⟩
        have HRY := Lib.hid hry
        have ha5 := HA4.out.below hby HA4.out.lt
        have hf5 := HF4.out.below hby HF4.out.lt
        have hb5 := HB4.out.trans (hby.mono HB4.out.size)
        have hgf : w2.heap.size + 1 < w4.heap.size := HF4.out.lt
        have hgw : w1.heap.size ≤ w2.heap.size := HB2.out.size
        have hn6 : DeepN (set5 w5 w2.heap.size (.int .i64 yk) (.int .i64 yp) (.string ys) (.slice yA yw.length yc) (.slice yB yz.length yd)) (fun k => w4.heap.size ≤ k) [(.mk yk yp ys yA yc yw yB yd yz)] := set5_deep hny fun k _ hk => by
          have hk : w4.heap.size ≤ k := hk
          exact ⟨by omega, hk⟩
        have hn7 := (hn6.setCell9 (p := ⟨w2.heap.size + 1, 0, none⟩) (fun k hk => by have hk : w4.heap.size ≤ k := hk; show k ≠ w2.heap.size + 1; omega) (.int .i64 hx)).setCell9 (p := ⟨w2.heap.size + 1, 1, none⟩) (fun k hk => by have hk : w4.heap.size ≤ k := hk; show k ≠ w2.heap.size + 1; omega) (.int .i64 hy)
        have ha7 := ((set5_row (a0 := .int .i64 yk) (b0 := .int .i64 yp) (c0 := .string ys) (d0 := .slice yA yw.length yc) (e0 := .slice yB yz.length yd) ha5).far (p := ⟨w2.heap.size + 1, 0, none⟩) (by show w2.heap.size + 1 ≠ w2.heap.size; omega) (.int .i64 hx)).far (p := ⟨w2.heap.size + 1, 1, none⟩) (by show w2.heap.size + 1 ≠ w2.heap.size; omega) (.int .i64 hy)
        have hf6 : RowAt (set5 w5 w2.heap.size (.int .i64 yk) (.int .i64 yp) (.string ys) (.slice yA yw.length yc) (.slice yB yz.length yd)) (w2.heap.size + 1) 27 #[.int .i64 gx, .int .i64 gy] := (set5_other (by omega)).trans hf5
        have hf7 : RowAt (((set5 w5 w2.heap.size (.int .i64 yk) (.int .i64 yp) (.string ys) (.slice yA yw.length yc) (.slice yB yz.length yd)).setCell ⟨w2.heap.size + 1, 0, none⟩ (.int .i64 hx)).setCell ⟨w2.heap.size + 1, 1, none⟩ (.int .i64 hy)) (w2.heap.size + 1) 27 #[.int .i64 hx, .int .i64 hy] := (hf6.put 0 _).put 1 _
        have hb7 : Below w1.heap.size w1 (((set5 w5 w2.heap.size (.int .i64 yk) (.int .i64 yp) (.string ys) (.slice yA yw.length yc) (.slice yB yz.length yd)).setCell ⟨w2.heap.size + 1, 0, none⟩ (.int .i64 hx)).setCell ⟨w2.heap.size + 1, 1, none⟩ (.int .i64 hy)) := hb5.trans (((set5_below hgw).setCell (p := ⟨w2.heap.size + 1, 0, none⟩) (by show w1.heap.size ≤ w2.heap.size + 1; omega) _).setCell (p := ⟨w2.heap.size + 1, 1, none⟩) (by show w1.heap.size ≤ w2.heap.size + 1; omega) _)
        have HNY := Lib.hid (fun W (h : Below _ _ W) => HIR.out (.mk yk yp ys yA yc yw yB yd yz) W hcy ((hn7.nods.below h).mono h.size))
        have HTY := Lib.hid (fun hl W (h : Below _ _ W) => HTT.out (.mk yk yp ys yA yc yw yB yd yz) W hcy hl ((hn7.nods.below h).mono h.size))
        have HA7 := Lib.hid ha7
        have HF7 := Lib.hid hf7
        have HB7 := Lib.hid hb7
        obtain ⟨a0, a1, a2, a3, a4, z0, z1, z2, z3, z4⟩ := row5 ha5
        obtain ⟨f0, f1, y0, y1⟩ := row2 hf5
        unfold set5 at HNY HTY HA7 HF7 HB7
        unfold nv at HNY HTY ⊢
        simp only [Nd.k, Nd.p, Nd.s, Nd.A, Nd.c, Nd.ws, Nd.B, Nd.d, Nd.ks] at HNY HTY HA7 HF7 HB7 ⊢
        clear hry hby hny hcy hn6 hn7 ha7 hf6 hf7 hb7 hb5 ha5 hf5 hgf hgw HA4 HF4 HB4
        go_upto_region 14 with fail
        generalize (((((((w5.setCell ⟨w2.heap.size, 0, none⟩ (.int .i64 yk)).setCell ⟨w2.heap.size, 1, none⟩ (.int .i64 yp)).setCell ⟨w2.heap.size, 2, none⟩ (.string ys)).setCell ⟨w2.heap.size, 3, none⟩ (.slice yA yw.length yc)).setCell ⟨w2.heap.size, 4, none⟩ (.slice yB yz.length yd)).setCell ⟨w2.heap.size + 1, 0, none⟩ (.int .i64 hx)).setCell ⟨w2.heap.size + 1, 1, none⟩ (.int .i64 hy)) = w6 at *
        clear a0 a1 a2 a3 a4 z0 z1 z2 z3 z4 f0 f1 y0 y1
        have HN7 := Lib.hid (HNY.out w6 (Below.refl _ _))
        have HBY : Hid (Below w6.heap.size w6 w6) := Below.refl _ _
        obtain ⟨a0, a1, a2, a3, a4, _, _, _, _, _⟩ := row5 HA7.out
        have HRX9 := HRY.out
        clear HRY HRX HNY
        unfold Res3 Fact at HRX9
        simp only [HNN.out] at HRX9
        rcases HRX9 with rfl | ⟨rfl, rfl, m, rfl, hm1, hm2, hg, htx, hln, hnt⟩
        · skip
          generalize gF _ (fl (.mk yk yp ys yA yc yw yB yd yz)) = q at HN7
          go_wp2_with fail
          refine HN7.out.mono ?_
          rintro e' w9 ⟨rfl, hb⟩
          have HF9 := Lib.hid (HF7.out.below hb HF7.out.lt)
          have HB9 := Lib.hid (HB7.out.trans (hb.mono HB7.out.size))
          clear hb
          obtain ⟨f0, f1, _, _⟩ := row2 HF9.out
          go_wp2_with fail
          go_roundw
          case rel => exact ⟨3, by omega, by first | rfl | go_num, HB9⟩
          case measure => simp [intOf]
        · skip
          rw [hg] at HN7
          have HTA := Lib.hid (HTY.out hln)
          have HTB := Lib.hid (fun A c W (h : Toks W A (flat (us.take m))) => HTX8.out m A c W (.mk yk yp ys yA yc yw yB yd yz) hnt hln htx h)
          have HTF := Lib.hid (fun W (h : Below w1.heap.size w1 W) => HFL.out m W hnt hm2 h)
          clear hg htx hln hnt
          generalize text10 (.mk yk yp ys yA yc yw yB yd yz) = T at *
          generalize flat (us.take m) = FL at *
          have hmd : m ≤ d := Nat.le_trans hm2 hcap
          have hmdI : (m : Int) ≤ (d : Int) := by omega
          have hm0 : (0 : Int) ≤ (m : Int) := by omega
          have hmt : ((m : Int)).toNat = m := by omega
          have hml : decide ((m : Int) < 1) = false := decide_eq_false (by omega)
          have hml2 : decide (m < 1) = false := decide_eq_false (by omega)
          have hmn : decide (n < m) = false := decide_eq_false (by omega)
          go_wp2_with fail
          refine HN7.out.mono ?_
          rintro e' w9 ⟨rfl, hb⟩
          have HA9 := Lib.hid (HA7.out.below hb HA7.out.lt)
          have HF9 := Lib.hid (HF7.out.below hb HF7.out.lt)
          have HB9 := Lib.hid (HB7.out.trans (hb.mono HB7.out.size))
          have HN9 := Lib.hid (HBY.out.trans (hb.mono HBY.out.size))
          clear hb
          obtain ⟨f0, f1, _, _⟩ := row2 HF9.out
          go_upto_region 16 with fail
          obtain ⟨S, hSe⟩ : ∃ S : World → Prop, S = fun w' => Below w1.heap.size w1 w' ∧ Below w6.heap.size w6 w' ∧ RowAt w' w2.heap.size 32 #[.int .i64 yk, .int .i64 yp, .string ys, .slice yA yw.length yc, .slice yB yz.length yd] := ⟨_, rfl⟩
          have keepS : ∀ wa wb, S wa → Below wa.heap.size wa wb → S wb := fun wa wb h hb => by
            rw [hSe] at h ⊢
            exact ⟨h.1.trans (hb.mono h.1.size), h.2.1.trans (hb.mono h.2.1.size), h.2.2.below hb h.2.2.lt⟩
          have HSB : Hid (∀ W, S W → Below w1.heap.size w1 W) := fun W h => by
            rw [hSe] at h
            exact h.1
          have HSN : Hid (∀ W, S W → Below w6.heap.size w6 W) := fun W h => by
            rw [hSe] at h
            exact h.2.1
          have C0 : ∀ W, S W → W.cell? ⟨w2.heap.size, 0, none⟩ = some (.int .i64 yk) := fun W h => by
            rw [hSe] at h
            exact (RowAt.cell h.2.2 0).trans rfl
          have C1 : ∀ W, S W → W.cell? ⟨w2.heap.size, 1, none⟩ = some (.int .i64 yp) := fun W h => by
            rw [hSe] at h
            exact (RowAt.cell h.2.2 1).trans rfl
          have C2 : ∀ W, S W → W.cell? ⟨w2.heap.size, 2, none⟩ = some (.string ys) := fun W h => by
            rw [hSe] at h
            exact (RowAt.cell h.2.2 2).trans rfl
          have C3 : ∀ W, S W → W.cell? ⟨w2.heap.size, 3, none⟩ = some (.slice yA yw.length yc) := fun W h => by
            rw [hSe] at h
            exact (RowAt.cell h.2.2 3).trans rfl
          have C4 : ∀ W, S W → W.cell? ⟨w2.heap.size, 4, none⟩ = some (.slice yB yz.length yd) := fun W h => by
            rw [hSe] at h
            exact (RowAt.cell h.2.2 4).trans rfl
          have HS : Hid (S w9.drew) := by
            show S w9.drew
            rw [hSe]
            exact ⟨HB9.out.drew, HN9.out.drew, HA9.out.below (Below.refl _ _).drew HA9.out.lt⟩
          refine wp_region_ord S [(0, true), (1, true), (2, true), (3, true), (4, true), (5, true), (6, true), (7, true), (8, true), (9, true), (10, true), (11, true), (12, true), (13, true), (15, true), (16, true), (17, true), (14, false), (18, false), (19, false), (20, true), (21, true)] (by kernel_rfl) (by kernel_rfl) rfl (by kernel_rfl) HS.out ?_
          iterate 17
            (refine wpOrd_step (o := ?_) ?_ ?_; rotate_left 1; (simp only [List.getElem?_toArray, List.getElem?_cons_succ, List.getElem?_cons_zero]; with_reducible rfl))
            (first
                | (refine wpOrd_skip (by rfl) ?_)
                | (refine wpOrd_take (v := ?_) (by rfl) ?_ ?_; rotate_left 1; (intro wx hSx; have hc_0 := C0 wx hSx; have hc_1 := C1 wx hSx; have hc_2 := C2 wx hSx; have hc_3 := C3 wx hSx; have hc_4 := C4 wx hSx; go_simp; try with_reducible rfl)))
            (try simp only [Act.put, List.setIfInBounds_toArray, List.set_cons_zero, List.set_cons_succ])
          (refine wpOrd_solo (o := ?_) ?_ ?_; rotate_left 1; (simp only [List.getElem?_toArray, List.getElem?_cons_succ, List.getElem?_cons_zero]; with_reducible rfl))
          intro K hK
          go_simp
          go_at_call 13
          refine (HTA.out _ (HSN.out _ HS.out)).mono ?_
          rintro e v1 ⟨rfl, hb⟩
          have hS := keepS _ _ HS.out hb
          clear HS
          have HS := Lib.hid hS; clear hS hb
          refine hK.out _ _ HS.out ?_
          clear hK K
          (try simp only [Act.put, List.setIfInBounds_toArray, List.set_cons_zero, List.set_cons_succ])
          (refine wpOrd_solo (o := ?_) ?_ ?_; rotate_left 1; (simp only [List.getElem?_toArray, List.getElem?_cons_succ, List.getElem?_cons_zero]; with_reducible rfl))
          intro K hK
          go_simp
          go_at_call 30
          refine (HTF.out _ (HSB.out _ HS.out)).mono ?_
          rintro e v2 ⟨⟨AF, cF, rfl, htk⟩, hb⟩
          have hS := keepS _ _ HS.out hb
          clear HS
          have HS := Lib.hid hS; clear hS hb
          have HTK := Lib.hid htk
          clear htk
          refine hK.out _ _ HS.out ?_
          clear hK K
          (try simp only [Act.put, List.setIfInBounds_toArray, List.set_cons_zero, List.set_cons_succ])
          (refine wpOrd_solo (o := ?_) ?_ ?_; rotate_left 1; (simp only [List.getElem?_toArray, List.getElem?_cons_succ, List.getElem?_cons_zero]; with_reducible rfl))
          intro K hK
          go_simp
          go_at_call 29
          refine (HTB.out _ _ _ HTK.out).mono ?_
          rintro e w' ⟨rfl, rfl⟩
          refine hK.out _ _ HS.out ?_
          clear hK K
          (try simp only [Act.put, List.setIfInBounds_toArray, List.set_cons_zero, List.set_cons_succ])
          iterate 2
            (refine wpOrd_step (o := ?_) ?_ ?_; rotate_left 1; (simp only [List.getElem?_toArray, List.getElem?_cons_succ, List.getElem?_cons_zero]; with_reducible rfl))
            (first
                | (refine wpOrd_skip (by rfl) ?_)
                | (refine wpOrd_take (v := ?_) (by rfl) ?_ ?_; rotate_left 1; (intro wx hSx; have hc_0 := C0 wx hSx; have hc_1 := C1 wx hSx; have hc_2 := C2 wx hSx; have hc_3 := C3 wx hSx; have hc_4 := C4 wx hSx; go_simp; try with_reducible rfl)))
            (try simp only [Act.put, List.setIfInBounds_toArray, List.set_cons_zero, List.set_cons_succ])
          refine wpOrd_done ?_
          have hS9 := HSB.out _ HS.out
          have HB8 := Lib.hid hS9
          clear hS9
          go_wp2_with fail
          go_roundw
          case rel => exact ⟨3, by omega, by first | rfl | go_num, HB8⟩
          case measure => simp [intOf]
      · go_wp2_with fail
        refine (alive10_any _).mono ?_
        rintro e w2 ⟨rfl, hb⟩
        have HB2 := Lib.hid (HB1.out.trans ((HW.out.trans (hb.mono HW.out.size)).mono HB1.out.size)); clear hb
        go_wp2_with fail
        go_ret
        exact ⟨rfl, HB2.out⟩
end Go.Proofs.Ytapnefhmonpgdaa
