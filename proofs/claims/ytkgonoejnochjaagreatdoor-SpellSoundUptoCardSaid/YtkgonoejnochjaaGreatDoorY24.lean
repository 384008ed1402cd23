/- Texts that all the claims need. Conditions: those that each states. -/

import Derived.Test.YtkgonoejnochjaaGreatDoorY23
set_option linter.unusedSimpArgs false
set_option linter.unusedVariables false
set_option maxRecDepth 8000
namespace Go.Proofs.YtkgonoejnochjaaGreatDoor
namespace SP
open TM RM
section
variable {f : Fac} {x : Nd}
theorem ret_of {R : Option Int × Nat} {q : Option Int} {a : Nat} {fa fb : Int} (h : R = (q, a)) (h2 : fcs q = #[.int .i64 fa, .int .i64 fb]) : (Ending.returned (.tuple #[.int .u64 ((a : Nat) : Int), .agg #[.int .i64 fa, .int .i64 fb]])) = .returned (.tuple #[.int .u64 ((R.2 : Nat) : Int), .agg (fcs R.1)]) := by
 subst h
 rw [← h2]
theorem wdP_bad (h : x.k ≠ kdK f) : wdP f x = (some x.p, 0) := by
 unfold kdK at h
 unfold wdP
 by_cases h2 : f.kind = 2
 ·rw [if_pos h2] at h ⊢
  rw [if_neg h]
 ·rw [if_neg h2] at h ⊢
  by_cases h3 : f.kind = 3
  ·rw [if_pos h3] at h ⊢
   rw [if_neg h]
  ·rw [if_neg h3] at h ⊢
   rw [if_neg h]
theorem wdP_1 (h : x.k = kdK f) (hk : f.kind = 1) : wdP f x = (nxt none (idx f.names x.s) x.p, RG.wR f.names.length (idx f.names x.s)) := by
 unfold kdK at h
 unfold wdP
 rw [if_neg (by omega), if_neg (by omega)] at h ⊢
 rw [if_pos h, if_neg (by omega)]
theorem wdP_2 (h : x.k = kdK f) (hk : f.kind = 2) : wdP f x = (nxts f.names x.ws none, setv f.names x.ws) := by
 unfold kdK at h
 unfold wdP
 rw [if_pos hk] at h ⊢
 rw [if_pos h]
theorem wdP_3 (h : x.k = kdK f) (hk : f.kind = 3) : wdP f x = ruls f x.ks none 0 := by
 unfold kdK at h
 unfold wdP
 rw [if_neg (by omega), if_pos hk] at h ⊢
 rw [if_pos h]
theorem wdP_4 (h : x.k = kdK f) (hk : f.kind = 4) : wdP f x = (nxt none (idx f.names x.s) x.p, wordN f.n f.l (idx f.names x.s)) := by
 unfold kdK at h
 unfold wdP
 rw [if_neg (by omega), if_neg (by omega)] at h ⊢
 rw [if_pos h, if_pos hk]
end
end SP
open Go.RowKit LX TR TM SP RM
set_option maxRecDepth 100000 in
set_option maxHeartbeats 6400000 in
theorem sword_any (f : Fac) (x : Nd) (w : World) (hT : Tab w) (hv : facB f = true) (hf : FacOk w f) (hx : Nods w w.heap.size [x]) (hc : TM.cnt [x] ≤ 4294967296) :
 Calls Tryz.prog 24 #[.agg (fv f), .agg (nv x)] w fun e w' => e = .returned (.tuple #[.int .u64 (((wdP f x).2 : Nat) : Int), .agg (fcs (wdP f x).1)]) ∧ Below w.heap.size w w' := by
 have hcf1 : ∀ args w, (callFunc 44 args).run Tryz.prog w = .ok (.enter 44 args) w := fun _ _ => by kernel_rfl
 have hcf2 : ∀ args w, (callFunc 46 args).run Tryz.prog w = .ok (.enter 46 args) w := fun _ _ => by kernel_rfl
 obtain ⟨R, hR⟩ : ∃ R, R = wdP f x := ⟨_, rfl⟩
 have HBAD : Hid (x.k ≠ kdK f → R = (some x.p, 0)) := fun h => hR.trans (wdP_bad h)
 have H1 : Hid (x.k = kdK f → f.kind = 1 → R = (nxt none (idx f.names x.s) x.p, RG.wR f.names.length (idx f.names x.s))) := fun h h2 => hR.trans (wdP_1 h h2)
 have H2 : Hid (x.k = kdK f → f.kind = 2 → R = (nxts f.names x.ws none, setv f.names x.ws)) := fun h h2 => hR.trans (wdP_2 h h2)
 have H3 : Hid (x.k = kdK f → f.kind = 3 → R = ruls f x.ks none 0) := fun h h2 => hR.trans (wdP_3 h h2)
 have H4 : Hid (x.k = kdK f → f.kind = 4 → R = (nxt none (idx f.names x.s) x.p, wordN f.n f.l (idx f.names x.s))) := fun h h2 => hR.trans (wdP_4 h h2)
 have hkind : f.kind = 1 ∨ f.kind = 2 ∨ f.kind = 3 ∨ f.kind = 4 := by
  rcases facB_kind hv with h | h | h | h
  ·exact .inl h
  ·exact .inr (.inl h)
  ·exact .inr (.inr (.inl h.1))
  ·exact .inr (.inr (.inr h.1))
 rw [← hR]
 clear hR
 obtain ⟨xk, xp, xs, xA, xc, xw, xB, xd, xz⟩ := x
 simp only [Nd.k, Nd.p, Nd.s, Nd.ws, Nd.ks] at HBAD H1 H2 H3 H4
 have hn64 := (facB_len hv).2
 have hcx : 1 + xw.length + TM.cnt xz + 0 ≤ 4294967296 := by
  rw [TM.cnt_cons] at hc
  simp only [TM.cnt] at hc
  exact hc
 have hkl : xz.length ≤ 4294967296 := Nat.le_trans (length_cnt xz) (by omega)
 have hxl : xw.length ≤ 4294967296 := by omega
 have HSW : Hid (Sl w w.heap.size xA (wcs xw)) := hx.at.1.1
 have HSK : Hid (Sl w w.heap.size xB (ncs xz)) := hx.at.2.1
 have HKD : Hid (Nods w w.heap.size xz) := hx.kids
 have HCK : Hid (∀ i, i < xz.length → (xz.getD i n0).ws.length ≤ 4294967296) := fun i hi => by
  have h1 := cnt_mem (getD_memL (z := n0) hi)
  show (xz.getD i n0).ws.length ≤ 4294967296
  omega
 have HSTR : Hid (Sl w w.heap.size f.A (scells f.names)) := hf.strs
 have HKI : Hid (∀ W, Calls Tryz.prog 43 #[.agg (fv f)] W fun e w' => e = .returned (.int .i64 (kdK f)) ∧ Below W.heap.size W w') := fun W => skind_any f W hf.rows
 have HC : Hid (∀ W, RowAt W w.heap.size 51 (fv f) → W.cell? ⟨w.heap.size, 0, none⟩ = some (.int .i64 f.kind) ∧ W.cell? ⟨w.heap.size, 1, none⟩ = some (.slice f.A f.names.length f.c) ∧ W.cell? ⟨w.heap.size, 2, none⟩ = some (.int .i64 f.n) ∧ W.rangeAt w.heap.size 2 (rvl f.n f.l)) := fun W h => fac_cells h
 have HTB : Hid (∀ W, Below w.heap.size w W → Tab W) := fun W h => hT.below h
 have hl := hf.rows
 show Calls _ _ #[_, .agg #[.int .i64 xk, .int .i64 xp, .string xs, .slice xA xw.length xc, .slice xB xz.length xd]] _ _
 have HF1 := Lib.hid (((RowAt.new w 51 (fv f)).alloc (.cells #[.int .i64 xk, .int .i64 xp, .string xs, .slice xA xw.length xc, .slice xB xz.length xd] 28)).alloc (.cells #[.int .i64 0, .int .i64 0] 36))
 have hx0 := (RowAt.new (w.alloc (.cells (fv f) 51)) 28 #[.int .i64 xk, .int .i64 xp, .string xs, .slice xA xw.length xc, .slice xB xz.length xd]).alloc (.cells #[.int .i64 0, .int .i64 0] 36)
 have hr0 := RowAt.new ((w.alloc (.cells (fv f) 51)).alloc (.cells #[.int .i64 xk, .int .i64 xp, .string xs, .slice xA xw.length xc, .slice xB xz.length xd] 28)) 36 #[.int .i64 0, .int .i64 0]
 have HB1 : Hid (Below w.heap.size w (((w.alloc (.cells (fv f) 51)).alloc (.cells #[.int .i64 xk, .int .i64 xp, .string xs, .slice xA xw.length xc, .slice xB xz.length xd] 28)).alloc (.cells #[.int .i64 0, .int .i64 0] 36))) := (((Below.refl _ _).alloc (Nat.le_refl _) _).alloc (by simp) _).alloc (by simp; omega) _
 rw [show (w.alloc (.cells (fv f) 51)).heap.size = w.heap.size + 1 by simp] at hx0
 rw [show ((w.alloc (.cells (fv f) 51)).alloc (.cells #[.int .i64 xk, .int .i64 xp, .string xs, .slice xA xw.length xc, .slice xB xz.length xd] 28)).heap.size = w.heap.size + 2 by simp] at hr0
 have HX1 := Lib.hid hx0
 have HR1 := Lib.hid hr0
 clear hx0 hr0 hx hc hf hT hcx hv
 generalize kdK f = kq at *
 obtain ⟨tb, htb⟩ : ∃ tb, (xk != kq) = tb := ⟨_, rfl⟩
 go_enter Tryz.func24, Tryz.ntmps24
 go_upto_region 1 with fail
 generalize (((w.alloc (.cells (fv f) 51)).alloc (.cells #[.int .i64 xk, .int .i64 xp, .string xs, .slice xA xw.length xc, .slice xB xz.length xd] 28)).alloc (.cells #[.int .i64 0, .int .i64 0] 36)) = w1 at *
 obtain ⟨S, HS, pW, keepS⟩ := ex_gen w1
 have C0 : ∀ W, S W → W.cell? ⟨w.heap.size + 1, 0, none⟩ = some (.int .i64 xk) := fun W h => (RowAt.cell (HX1.out.below (pW W h) HX1.out.lt) 0).trans rfl
 have pF : ∀ W, S W → RowAt W w.heap.size 51 (fv f) := fun W h => HF1.out.below (pW W h) HF1.out.lt
 refine wp_region_ord S [(0, true), (1, true), (2, true), (3, false), (4, true)] (by kernel_rfl) (by kernel_rfl) rfl (by kernel_rfl) HS.out ?_
 generalize w1.drew = V at HS ⊢
 iterate 3
  (refine wpOrd_step (o := ?_) ?_ ?_; rotate_left 1; (simp only [zA1, zA2, zA3]; with_reducible rfl))
  (first
        | (refine wpOrd_skip (by rfl) ?_)
        | (refine wpOrd_take (by rfl) (take_loadFac _ rfl _ rfl _ hl pF) ?_)
        | (refine wpOrd_take (v := ?_) (by rfl) ?_ ?_; rotate_left 1; (intro wx hSx; have hc_0 := C0 wx hSx; go_simp; try with_reducible rfl)))
  (try simp only [Act.put, zA4, zA5, zA6])
 (refine wpOrd_solo (o := ?_) ?_ ?_; rotate_left 1; (simp only [zA1, zA2, zA3]; with_reducible rfl))
 intro K hK
 go_simp
 go_at_call 43
 refine (HKI.out V).mono ?_
 rintro e w2 ⟨rfl, hb⟩
 have hS := keepS _ _ HS.out hb
 clear HS
 have HS := Lib.hid hS; clear hS hb
 refine hK.out _ _ HS.out ?_
 clear hK K
 (try simp only [Act.put, zA4, zA5, zA6])
 iterate 1
  (refine wpOrd_step (o := ?_) ?_ ?_; rotate_left 1; (simp only [zA1, zA2, zA3]; with_reducible rfl))
  (first
        | (refine wpOrd_skip (by rfl) ?_)
        | (refine wpOrd_take (v := ?_) (by rfl) ?_ ?_; rotate_left 1; (intro wx hSx; go_simp; try with_reducible rfl)))
  (try simp only [Act.put, zA4, zA5, zA6])
 refine wpOrd_done ?_
 have hb2 := pW _ HS.out
 have HF2 := Lib.hid (HF1.out.below hb2 HF1.out.lt)
 have HX2 := Lib.hid (HX1.out.below hb2 HX1.out.lt)
 have HR2 := Lib.hid (HR1.out.below hb2 HR1.out.lt)
 have HB2 := Lib.hid (HB1.out.trans (hb2.mono HB1.out.size))
 have hsz2 : w.heap.size + 2 < w2.heap.size := HR2.out.lt
 clear hb2 C0 pF HS keepS pW HF1 HX1 HR1 HB1
 clear S
 cases tb
 case' true =>
  have HZ := Lib.hid (HBAD.out (by simpa using htb))
  obtain ⟨x0, x1, x2, x3, x4, _, _, _, _, _⟩ := row5 HX2.out
  have HWR := Lib.hid (swrong_any xp w2)
  clear HBAD H1 H2 H3 H4 htb
  go_wp2_with fail
  refine HWR.out.mono ?_
  rintro e w3 ⟨rfl, hb⟩
  have HR3 := Lib.hid (HR2.out.below hb HR2.out.lt)
  have HB3 := Lib.hid (HB2.out.trans (hb.mono HB2.out.size))
  obtain ⟨m0, m1, v0, v1⟩ := row2 HR3.out
  clear hb x0 x1 x2 x3 x4
  go_wp2_with fail
  exact bodyPost_ret (ret_slot_cell rfl _ _ _ (w.heap.size + 2) _ _ (0, 0) _ rfl rfl ((HR3.out.put 0 (.int .i64 4)).put 1 (.int .i64 xp)) Tryz.underlying36 rfl (fault_info _ _)) rfl ⟨by rw [HZ.out]; rfl, (HB3.out.setCell (p := ⟨w.heap.size + 2, 0, none⟩) (Nat.le_add_right _ _) _).setCell (p := ⟨w.heap.size + 2, 1, none⟩) (Nat.le_add_right _ _) _⟩
 case' false =>
  have hkq : xk = kq := by simpa using htb
  have G1 := Lib.hid (H1.out hkq)
  have G2 := Lib.hid (H2.out hkq)
  have G3 := Lib.hid (H3.out hkq)
  have G4 := Lib.hid (H4.out hkq)
  clear HBAD H1 H2 H3 H4 htb hkq
  have he0 := (RowAt.new w2 36 #[.int .i64 0, .int .i64 0]).alloc (.cells #[(.func (.func 44) #[] #[.pointer (some ⟨w.heap.size, 0, none⟩), .pointer (some ⟨w2.heap.size, 0, none⟩)])] 73)
  have hi0 := Box.new (w2.alloc (.cells #[.int .i64 0, .int .i64 0] 36)) 73 (.func (.func 44) #[] #[.pointer (some ⟨w.heap.size, 0, none⟩), .pointer (some ⟨w2.heap.size, 0, none⟩)])
  rw [show (w2.alloc (.cells #[.int .i64 0, .int .i64 0] 36)).heap.size = w2.heap.size + 1 by simp] at hi0
  have HE5 : Hid (RowAt ((w2.alloc (.cells #[.int .i64 0, .int .i64 0] 36)).alloc (.cells #[(.func (.func 44) #[] #[.pointer (some ⟨w.heap.size, 0, none⟩), .pointer (some ⟨w2.heap.size, 0, none⟩)])] 73)) w2.heap.size 36 (fcs none)) := he0
  have HI5 := Lib.hid hi0
  have HF5 := Lib.hid ((HF2.out.alloc (.cells #[.int .i64 0, .int .i64 0] 36)).alloc (.cells #[(.func (.func 44) #[] #[.pointer (some ⟨w.heap.size, 0, none⟩), .pointer (some ⟨w2.heap.size, 0, none⟩)])] 73))
  have HX5 := Lib.hid ((HX2.out.alloc (.cells #[.int .i64 0, .int .i64 0] 36)).alloc (.cells #[(.func (.func 44) #[] #[.pointer (some ⟨w.heap.size, 0, none⟩), .pointer (some ⟨w2.heap.size, 0, none⟩)])] 73))
  have HR5 := Lib.hid ((HR2.out.alloc (.cells #[.int .i64 0, .int .i64 0] 36)).alloc (.cells #[(.func (.func 44) #[] #[.pointer (some ⟨w.heap.size, 0, none⟩), .pointer (some ⟨w2.heap.size, 0, none⟩)])] 73))
  have HB5 : Hid (Below w.heap.size w ((w2.alloc (.cells #[.int .i64 0, .int .i64 0] 36)).alloc (.cells #[(.func (.func 44) #[] #[.pointer (some ⟨w.heap.size, 0, none⟩), .pointer (some ⟨w2.heap.size, 0, none⟩)])] 73))) := (HB2.out.alloc HB2.out.size _).alloc (by simp; omega) _
  have hlt5 : w2.heap.size + 1 < ((w2.alloc (.cells #[.int .i64 0, .int .i64 0] 36)).alloc (.cells #[(.func (.func 44) #[] #[.pointer (some ⟨w.heap.size, 0, none⟩), .pointer (some ⟨w2.heap.size, 0, none⟩)])] 73)).heap.size := hi0.lt
  clear he0 hi0 HF2 HX2 HR2 HB2 HKI
  have hsf : ∀ (a : Addr) (fn : Fn) (fi ca : Array Value) (m : Mode) (W : World), (store a (.func fn fi ca) m).run Tryz.prog W = stored Tryz.prog W a (.func fn fi ca) m := fun _ _ _ _ _ _ => run_store _ _ _ _ _ rfl
  go_upto_region 6 with fail
  clear hsf
  generalize ((w2.alloc (.cells #[.int .i64 0, .int .i64 0] 36)).alloc (.cells #[(.func (.func 44) #[] #[.pointer (some ⟨w.heap.size, 0, none⟩), .pointer (some ⟨w2.heap.size, 0, none⟩)])] 73)) = w5 at *
  generalize w2.heap.size = ge at *
  have HCI : Hid (∀ s p q W, Mv ge w5 W → RowAt W ge 36 (fcs q) → Calls Tryz.prog 44 #[.string s, .int .i64 p, .pointer (some ⟨w.heap.size, 0, none⟩), .pointer (some ⟨ge, 0, none⟩)] W fun e W2 => e = .returned (.int .i64 (idx f.names s)) ∧ RowAt W2 ge 36 (fcs (nxt q (idx f.names s) p)) ∧ Mv ge W W2) := fun s p q W hm he =>
   sindex_any w.heap.size ge f s p q W (by omega) (HF5.out.mv hm (by omega)) ((Sl.below HSTR.out (HB5.out.trans (hm.low.mono (by omega)))).mono (by omega)) he
  have HSI : Hid (∀ X d ws q W, ws.length ≤ 4294967296 → Sl w w.heap.size X (wcs ws) → Mv ge w5 W → RowAt W ge 36 (fcs q) → Calls Tryz.prog 46 #[.slice X ws.length d, .pointer (some ⟨ge + 1, 0, none⟩)] W fun e W2 => e = .returned (.int .u64 ((setv f.names ws : Nat) : Int)) ∧ RowAt W2 ge 36 (fcs (nxts f.names ws q)) ∧ Mv ge W W2) := fun X d ws q W hn9 hs hm he =>
   sset_any (ge + 1) w.heap.size ge f X d ws q W hn9 (by omega) ((hm.block (ge + 1) (by omega) (by omega)).trans HI5.out) (HF5.out.mv hm (by omega)) ((Sl.below HSTR.out (HB5.out.trans (hm.low.mono (by omega)))).mono (by omega)) he (by omega) (by omega) ((Sl.below hs (HB5.out.trans (hm.low.mono (by omega)))).mono (by omega))
  obtain ⟨S, hSe⟩ : ∃ S : World → Prop, S = fun W => Mv ge w5 W := ⟨_, rfl⟩
  have SI : Hid (∀ W, Mv ge w5 W → S W) := fun W h => by rw [hSe]; exact h
  have SO : Hid (∀ W, S W → Mv ge w5 W) := fun W h => by rw [hSe] at h; exact h
  have K1 : ∀ W, S W → W.cell? ⟨w.heap.size, 1, none⟩ = some (.slice f.A f.names.length f.c) := fun W h => (HC.out W (HF5.out.mv (SO.out W h) (by omega))).2.1
  have K2 : ∀ W, S W → W.cell? ⟨ge + 1, 0, none⟩ = some (.func (.func 44) #[] #[.pointer (some ⟨w.heap.size, 0, none⟩), .pointer (some ⟨ge, 0, none⟩)]) := fun W h => Box.cell (t := 73) (((SO.out W h).block (ge + 1) (by omega) (by omega)).trans HI5.out)
  have K3 : ∀ W, S W → W.cell? ⟨w.heap.size + 1, 2, none⟩ = some (.string xs) := fun W h => (RowAt.cell (HX5.out.mv (SO.out W h) (by omega)) 2).trans rfl
  have K4 : ∀ W, S W → W.cell? ⟨w.heap.size + 1, 1, none⟩ = some (.int .i64 xp) := fun W h => (RowAt.cell (HX5.out.mv (SO.out W h) (by omega)) 1).trans rfl
  have pL : ∀ W, S W → W.rangeAt w.heap.size 2 (rvl f.n f.l) := fun W h => (HC.out W (HF5.out.mv (SO.out W h) (by omega))).2.2.2
  have HRU : Hid (∀ o (t : Nat) W, t < 18446744073709551616 → Below w.heap.size w W → Calls Tryz.prog 49 #[.agg (rv f.n f.l), .int .i64 o, .int .u64 (t : Int)] W fun e w' => e = .returned (.int .u64 ((gRule f.n f.l o t : Nat) : Int)) ∧ Below W.heap.size W w') := fun o t W ht hb => grule_any f.n f.l hl o t ht W (HTB.out W hb)
  have HHW : Hid (∀ o W, Calls Tryz.prog 50 #[.agg (rv f.n f.l), .int .i64 o] W fun e w' => e = .returned (.int .u64 ((wordN f.n f.l o : Nat) : Int)) ∧ Below W.heap.size W w') := fun o W => hword_any f.n f.l hl o W
  have HRD : Hid (∀ i, i < xz.length → ∀ q a, ruls f (xz.drop i) q a = ruls f (xz.drop (i + 1)) (nxts f.names (xz.getD i n0).ws (nxt q (idx f.names (xz.getD i n0).s) (xz.getD i n0).p)) (a ||| gRule f.n f.l (idx f.names (xz.getD i n0).s) (setv f.names (xz.getD i n0).ws))) := fun i h q a => ruls_drop f h q a
  have HRN : Hid (∀ q a, ruls f (xz.drop xz.length) q a = (q, a)) := ruls_end f xz
  have HRL : Hid (∀ o t, gRule f.n f.l o t < 18446744073709551616) := fun o t => gRule_lt _ _ _ _
  have HSL : Hid (∀ ws, setv f.names ws < 18446744073709551616) := setv_lt f.names
  have HM5 : Hid (Mv ge w5 w5) := Mv.refl _ _
  clear hSe hn64
  obtain ⟨c0, c1, c2, c3⟩ := HC.out _ HF5.out
  generalize f.kind = kd at *
  generalize f.names.length = nn at *
  rcases hkind with hk | hk | hk | hk
  ·have HG := Lib.hid (G1.out hk)
   have t1 : (kd == 1) = true := by simp [hk]
   obtain ⟨q0, hq0⟩ : ∃ q : Option Int, q = none := ⟨_, rfl⟩
   rw [← hq0] at HE5
   clear hk G1 G2 G3 G4
   go_upto_region 9 with fail
   clear c0 c1 c2 c3
   refine wp_region_ord S [(0, true), (1, true), (2, true), (3, true), (4, true), (5, true), (6, true), (7, true), (8, false), (9, false), (10, true), (11, true), (12, true), (13, true)] (by kernel_rfl) (by kernel_rfl) rfl (by kernel_rfl) (SI.out _ HM5.out.drew) ?_
   have HM0 : Hid (Mv ge w5 w5.drew) := HM5.out.drew
   have HE0 : Hid (RowAt w5.drew ge 36 (fcs q0)) := HE5.out.drew
   generalize w5.drew = V at HM0 HE0 ⊢
   iterate 8
       (refine wpOrd_step (o := ?_) ?_ ?_; rotate_left 1; (simp only [zA1, zA2, zA3]; with_reducible rfl))
       (first
        | (refine wpOrd_skip (by rfl) ?_)
        | (refine wpOrd_take (v := ?_) (by rfl) ?_ ?_; rotate_left 1; (intro wx hSx; have hc_0 := K1 wx hSx; have hc_1 := K2 wx hSx; have hc_2 := K3 wx hSx; have hc_3 := K4 wx hSx; go_simp; try with_reducible rfl)))
       (try simp only [Act.put, zA4, zA5, zA6])
   (refine wpOrd_solo (o := ?_) ?_ ?_; rotate_left 1; (simp only [zA1, zA2, zA3]; with_reducible rfl))
   intro K hK
   go_simp
   refine (HCI.out xs xp q0 V HM0.out HE0.out).mono ?_
   rintro e w6 ⟨rfl, he_, hm_⟩
   have HEw6 := Lib.hid he_
   have HMw6 := Lib.hid (HM0.out.trans hm_)
   clear he_ hm_
   refine hK.out _ _ (SI.out _ HMw6.out) ?_
   clear hK K
   (try simp only [Act.put, zA4, zA5, zA6])
   rw [hq0] at HEw6
   have HRW := Lib.hid (rungWord_any (nn : Int) (idx f.names xs) w6)
   generalize idx f.names xs = k at *
   (refine wpOrd_solo (o := ?_) ?_ ?_; rotate_left 1; (simp only [zA1, zA2, zA3]; with_reducible rfl))
   intro K hK
   go_simp
   go_at_call 48
   refine HRW.out.mono ?_
   rintro e w' ⟨rfl, rfl⟩
   refine hK.out _ _ (SI.out _ HMw6.out) ?_
   clear hK K
   (try simp only [Act.put, zA4, zA5, zA6])
   generalize RG.okR (nn : Int) k = ok9 at *
   generalize RG.wR (nn : Int) k = a9 at *
   iterate 4
       (refine wpOrd_step (o := ?_) ?_ ?_; rotate_left 1; (simp only [zA1, zA2, zA3]; with_reducible rfl))
       (first
        | (refine wpOrd_skip (by rfl) ?_)
        | (refine wpOrd_take (v := ?_) (by rfl) ?_ ?_; rotate_left 1; (intro wx hSx; go_simp; try with_reducible rfl)))
       (try simp only [Act.put, zA4, zA5, zA6])
   refine wpOrd_done ?_
   clear K1 K2 K3 K4 pL SI SO
   clear S
   have HRw6 := Lib.hid (HR5.out.mv HMw6.out (by omega))
   have HBw6 := Lib.hid (HB5.out.trans (HMw6.out.low.mono (by omega)))
   obtain ⟨fa, fb, hfc⟩ : ∃ fa fb : Int, fcs (nxt none k xp) = #[.int .i64 fa, .int .i64 fb] := ⟨_, _, rfl⟩
   have HEZ : Hid (RowAt w6 ge 36 #[.int .i64 fa, .int .i64 fb]) := by show RowAt _ _ _ _; rw [← hfc]; exact HEw6.out
   have HFC : Hid (fcs (nxt none k xp) = #[.int .i64 fa, .int .i64 fb]) := hfc
   clear hfc
   go_upto_region 21 with fail
   obtain ⟨S, hSe⟩ : ∃ S : World → Prop, S = fun W => RowAt W ge 36 #[.int .i64 fa, .int .i64 fb] := ⟨_, rfl⟩
   have D0 : ∀ W, S W → W.cell? ⟨ge, 0, none⟩ = some (.int .i64 fa) := fun W h => by
       rw [hSe] at h
       exact (RowAt.cell h 0).trans rfl
   have D1 : ∀ W, S W → W.cell? ⟨ge, 1, none⟩ = some (.int .i64 fb) := fun W h => by
       rw [hSe] at h
       exact (RowAt.cell h 1).trans rfl
   have hs0 : S w6.drew := by rw [hSe]; exact HEZ.out.drew
   have hr0 := HRw6.out.drew
   have hb0 := HBw6.out.drew
   refine wp_region_ord S [(0, true), (1, true), (2, true), (3, false)] (by kernel_rfl) (by kernel_rfl) rfl (by kernel_rfl) hs0 ?_
   generalize w6.drew = V at hs0 hr0 hb0 ⊢
   iterate 3
       (refine wpOrd_step (o := ?_) ?_ ?_; rotate_left 1; (simp only [zA1, zA2, zA3]; with_reducible rfl))
       (first
        | (refine wpOrd_skip (by rfl) ?_)
        | (refine wpOrd_take (v := ?_) (by rfl) ?_ ?_; rotate_left 1; (intro wx hSx; have hc_0 := D0 wx hSx; have hc_1 := D1 wx hSx; go_simp; try with_reducible rfl)))
       (try simp only [Act.put, zA4, zA5, zA6])
   have hs1 : S (V.setRow (w.heap.size + 2) #[.int .i64 fa, .int .i64 fb]) := by
       rw [hSe] at hs0 ⊢
       exact RowAt.other hs0 (Else.setRow _ _ _) (by omega)
   refine wpOrd_store (o := ?_) ?ho1_1 ?hw1_1 36 ?ox1_1 ?oy1_1 ?hop1_1 (w.heap.size + 2) #[.int .i64 fa, .int .i64 fb] ?hx1_1 ?hy1_1 36 #[.int .i64 0, .int .i64 0] hr0 (fault_info _ _) ?hold1_1 (by simp [Value.oneCell']) hs1 ?hh1_1
   case ho1_1 => (simp only [zA1, zA2, zA3]; with_reducible rfl)
   case hw1_1 => rfl
   case hop1_1 => rfl
   case hx1_1 => rfl
   case hy1_1 => rfl
   case hold1_1 => rfl
   (try simp only [Act.put, zA4, zA5, zA6])
   refine wpOrd_done ?_
   go_wp2_with fail
   exact bodyPost_ret (ret_slot_cell rfl _ _ (.int .u64 ((a9 : Nat) : Int)) (w.heap.size + 2) _ _ (0, 0) _ rfl rfl (hr0.setRow #[.int .i64 fa, .int .i64 fb]) Tryz.underlying36 rfl (fault_info _ _)) rfl ⟨SP.ret_of HG.out HFC.out, hb0.trans ((Else.setRow _ _ _).below (by omega))⟩
  ·have HG := Lib.hid (G2.out hk)
   have t1 : (kd == 1) = false := by simp [hk]
   have t2 : (kd == 2) = true := by simp [hk]
   have HST := Lib.hid (HSI.out xA xc xw none w5 hxl HSW.out HM5.out HE5.out)
   obtain ⟨x0, x1, x2, x3, x4, _, _, _, _, _⟩ := row5 HX5.out
   clear hk G1 G2 G3 G4 K1 K2 K3 K4 pL SI SO
   clear S
   generalize setv f.names xw = a9 at *
   generalize nxts f.names xw none = q9 at *
   go_wp2_with fail
   refine HST.out.mono ?_
   rintro e w6 ⟨rfl, he_, hm_⟩
   have HEw6 := Lib.hid he_
   have HMw6 := Lib.hid hm_
   clear he_ hm_ c0 c1 c2 c3 x0 x1 x2 x3 x4
   have HRw6 := Lib.hid (HR5.out.mv HMw6.out (by omega))
   have HBw6 := Lib.hid (HB5.out.trans (HMw6.out.low.mono (by omega)))
   obtain ⟨fa, fb, hfc⟩ : ∃ fa fb : Int, fcs (q9) = #[.int .i64 fa, .int .i64 fb] := ⟨_, _, rfl⟩
   have HEZ : Hid (RowAt w6 ge 36 #[.int .i64 fa, .int .i64 fb]) := by show RowAt _ _ _ _; rw [← hfc]; exact HEw6.out
   have HFC : Hid (fcs (q9) = #[.int .i64 fa, .int .i64 fb]) := hfc
   clear hfc
   go_upto_region 21 with fail
   obtain ⟨S, hSe⟩ : ∃ S : World → Prop, S = fun W => RowAt W ge 36 #[.int .i64 fa, .int .i64 fb] := ⟨_, rfl⟩
   have D0 : ∀ W, S W → W.cell? ⟨ge, 0, none⟩ = some (.int .i64 fa) := fun W h => by
       rw [hSe] at h
       exact (RowAt.cell h 0).trans rfl
   have D1 : ∀ W, S W → W.cell? ⟨ge, 1, none⟩ = some (.int .i64 fb) := fun W h => by
       rw [hSe] at h
       exact (RowAt.cell h 1).trans rfl
   have hs0 : S w6.drew := by rw [hSe]; exact HEZ.out.drew
   have hr0 := HRw6.out.drew
   have hb0 := HBw6.out.drew
   refine wp_region_ord S [(0, true), (1, true), (2, true), (3, false)] (by kernel_rfl) (by kernel_rfl) rfl (by kernel_rfl) hs0 ?_
   generalize w6.drew = V at hs0 hr0 hb0 ⊢
   iterate 3
       (refine wpOrd_step (o := ?_) ?_ ?_; rotate_left 1; (simp only [zA1, zA2, zA3]; with_reducible rfl))
       (first
        | (refine wpOrd_skip (by rfl) ?_)
        | (refine wpOrd_take (v := ?_) (by rfl) ?_ ?_; rotate_left 1; (intro wx hSx; have hc_0 := D0 wx hSx; have hc_1 := D1 wx hSx; go_simp; try with_reducible rfl)))
       (try simp only [Act.put, zA4, zA5, zA6])
   have hs1 : S (V.setRow (w.heap.size + 2) #[.int .i64 fa, .int .i64 fb]) := by
       rw [hSe] at hs0 ⊢
       exact RowAt.other hs0 (Else.setRow _ _ _) (by omega)
   refine wpOrd_store (o := ?_) ?ho1_2 ?hw1_2 36 ?ox1_2 ?oy1_2 ?hop1_2 (w.heap.size + 2) #[.int .i64 fa, .int .i64 fb] ?hx1_2 ?hy1_2 36 #[.int .i64 0, .int .i64 0] hr0 (fault_info _ _) ?hold1_2 (by simp [Value.oneCell']) hs1 ?hh1_2
   case ho1_2 => (simp only [zA1, zA2, zA3]; with_reducible rfl)
   case hw1_2 => rfl
   case hop1_2 => rfl
   case hx1_2 => rfl
   case hy1_2 => rfl
   case hold1_2 => rfl
   (try simp only [Act.put, zA4, zA5, zA6])
   refine wpOrd_done ?_
   go_wp2_with fail
   exact bodyPost_ret (ret_slot_cell rfl _ _ (.int .u64 ((a9 : Nat) : Int)) (w.heap.size + 2) _ _ (0, 0) _ rfl rfl (hr0.setRow #[.int .i64 fa, .int .i64 fb]) Tryz.underlying36 rfl (fault_info _ _)) rfl ⟨SP.ret_of HG.out HFC.out, hb0.trans ((Else.setRow _ _ _).below (by omega))⟩
  ·have HG0 : Hid (ruls f (xz.drop 0) none 0 = R) := (G3.out hk).symm
   have t1 : (kd == 1) = false := by simp [hk]
   have t2 : (kd == 2) = false := by simp [hk]
   have t3 : (kd == 3) = true := by simp [hk]
   obtain ⟨x0, x1, x2, x3, x4, _, _, _, _, _⟩ := row5 HX5.out
   clear hk G1 G2 G3 G4 K1 K3 K4 pL SI SO K2
   clear S
   generalize hm : xz.length = n at *
   have HN := Lib.hid hm; clear hm
   go_wp2_with fail
   clear x0 x1 x2 x3 x4 c0 c1 c2 c3
   go_loopw [9, 12, 51] (fun wv _ iv wr => ∃ (i a : Nat) (q : Option Int), i ≤ n ∧ iv = .int .i64 i ∧ wv = .int .u64 (a : Int) ∧ a < 18446744073709551616 ∧ Hid (ruls f (xz.drop i) q a = R) ∧ Hid (RowAt wr ge 36 (fcs q)) ∧ Hid (Mv ge w5 wr)) (fun _ _ iv _ => n - (intOf iv).toNat)
   case atStart => exact ⟨0, 0, none, by omega, rfl, rfl, by omega, HG0, HE5, HM5⟩
   case round =>
       obtain ⟨i, a, q0, hi, rfl, rfl, ha, HQ, HE, HM⟩ := hrel
       have hszr := HM.out.size
       by_cases hlt : i < n
       ·have hbr := HB5.out.trans (HM.out.low.mono (by omega))
        obtain ⟨bb, o, rfl, hbb, hc⟩ := sl_at (z := n0) ncells_length (Sl.below HSK.out hbr) (k := i) (by rw [HN.out]; exact hlt) (by omega)
        have p0 := hc i 0 _ (by rw [HN.out]; exact hlt) (by omega) rfl
        have p1 := hc i 1 _ (by rw [HN.out]; exact hlt) (by omega) rfl
        have p2 := hc i 2 _ (by rw [HN.out]; exact hlt) (by omega) rfl
        have p3 := hc i 3 _ (by rw [HN.out]; exact hlt) (by omega) rfl
        have p4 := hc i 4 _ (by rw [HN.out]; exact hlt) (by omega) rfl
        rw [Nat.add_zero] at p0
        rw [← Nat.add_assoc] at p1 p2 p3 p4
        have HBR := Lib.hid hbr
        have hq2 := HQ.out
        rw [HRD.out i hlt] at hq2
        have HQ2 := Lib.hid hq2
        have HYW : Hid (Sl w w.heap.size (xz.getD i n0).A (wcs (xz.getD i n0).ws)) := ((HKD.out.mem (getD_memL (by rw [HN.out]; exact hlt))).at).1.1
        have HYL := Lib.hid (HCK.out i hlt)
        have hin : (i : Int) < (n : Int) := by omega
        clear hc hq2 hbr
        generalize xz.getD i n0 = y at *
        obtain ⟨yk, yp, ys, yA, yc, yw, yB, yd, yz⟩ := y
        simp only [Nd.k, Nd.p, Nd.s, Nd.A, Nd.c, Nd.ws, Nd.B, Nd.d, Nd.ks] at p0 p1 p2 p3 p4 HQ2 HYW HYL
        have HM6 := Lib.hid (HM.out.alloc (by omega) (.cells #[.int .i64 yk, .int .i64 yp, .string ys, .slice yA yw.length yc, .slice yB yz.length yd] 28))
        have HE6 := Lib.hid (HE.out.alloc (.cells #[.int .i64 yk, .int .i64 yp, .string ys, .slice yA yw.length yc, .slice yB yz.length yd] 28))
        have HK6 := Lib.hid (RowAt.new wr 28 #[.int .i64 yk, .int .i64 yp, .string ys, .slice yA yw.length yc, .slice yB yz.length yd])
        have HIC := Lib.hid (HCI.out ys yp q0 _ HM6.out HE6.out)
        have cbi : (wr.alloc (.cells #[.int .i64 yk, .int .i64 yp, .string ys, .slice yA yw.length yc, .slice yB yz.length yd] 28)).cell? ⟨ge + 1, 0, none⟩ = some (.func (.func 44) #[] #[.pointer (some ⟨w.heap.size, 0, none⟩), .pointer (some ⟨ge, 0, none⟩)]) := Box.cell (t := 73) ((HM6.out.block (ge + 1) (by omega) (by omega)).trans HI5.out)
        obtain ⟨y0, y1, y2, y3, y4, _, _, _, _, _⟩ := row5 HK6.out
        have hg6 : ge < wr.heap.size := by omega
        generalize idx f.names ys = k at *
        go_upto_region 16 with fail
        generalize wr.alloc (.cells #[.int .i64 yk, .int .i64 yp, .string ys, .slice yA yw.length yc, .slice yB yz.length yd] 28) = w6 at *
        generalize wr.heap.size = gy at *
        go_wp2_with fail
        refine HIC.out.mono ?_
        rintro e w7 ⟨rfl, he_, hm_⟩
        have HE7 := Lib.hid he_
        have HM7 := Lib.hid (HM6.out.trans hm_)
        have HK7 := Lib.hid (HK6.out.mv hm_ (by omega))
        clear he_ hm_ cbi y0 y1 y2 y3 y4 p0 p1 p2 p3 p4 HIC HE6 HM6 HK6 HE HM
        generalize nxt q0 k yp = q1 at *
        go_upto_region 17 with fail
        obtain ⟨S, hSe⟩ : ∃ S : World → Prop, S = fun W => Mv ge w7 W := ⟨_, rfl⟩
        have SI : Hid (∀ W, Mv ge w7 W → S W) := fun W h => by rw [hSe]; exact h
        have K1 : ∀ W, S W → W.cell? ⟨gy, 3, none⟩ = some (.slice yA yw.length yc) := fun W h => by
         rw [hSe] at h
         exact (RowAt.cell (HK7.out.mv h (by omega)) 3).trans rfl
        have pL : ∀ W, S W → W.rangeAt w.heap.size 2 (rvl f.n f.l) := fun W h => by
         rw [hSe] at h
         exact (HC.out W (HF5.out.mv (HM7.out.trans h) (by omega))).2.2.2
        clear hSe
        have HMV : Hid (Mv ge w5 w7.drew) := HM7.out.drew
        have HEV : Hid (RowAt w7.drew ge 36 (fcs q1)) := HE7.out.drew
        have HSV : Hid (Mv ge w7 w7.drew) := (Mv.refl _ _).drew
        have hlt7 : ge < w7.heap.size := HE7.out.lt
        refine wp_region_ord S [(0, true), (1, true), (2, true), (3, true), (4, true), (5, true), (6, true), (7, false), (8, false), (9, true), (10, true)] (by kernel_rfl) (by kernel_rfl) rfl (by kernel_rfl) (SI.out _ HSV.out) ?_
        generalize w7.drew = V at HMV HEV HSV ⊢
        iterate 7
         (refine wpOrd_step (o := ?_) ?_ ?_; rotate_left 1; (simp only [zA1, zA2, zA3]; with_reducible rfl))
         (first
          | (refine wpOrd_skip (by rfl) ?_)
          | (refine wpOrd_take (by rfl) (take_loadRelIn _ rfl _ _ rfl _ _ hl pL) ?_)
          | (refine wpOrd_take (v := ?_) (by rfl) ?_ ?_; rotate_left 1; (intro wx hSx; have hc_0 := K1 wx hSx; go_simp; try with_reducible rfl)))
         (try simp only [Act.put, zA4, zA5, zA6])
        have HSC := Lib.hid (HSI.out yA yc yw q1 V HYL.out HYW.out HMV.out HEV.out)
        have HSVL := Lib.hid (HSL.out yw)
        generalize nxts f.names yw q1 = q2 at *
        generalize setv f.names yw = sv9 at *
        (refine wpOrd_solo (o := ?_) ?_ ?_; rotate_left 1; (simp only [zA1, zA2, zA3]; with_reducible rfl))
        intro K hK
        go_simp
        refine HSC.out.mono ?_
        rintro e w8 ⟨rfl, he_, hm_⟩
        have HE8 := Lib.hid he_
        have HM8 := Lib.hid (HMV.out.trans hm_)
        have HS8 := Lib.hid (HSV.out.trans hm_)
        clear he_ hm_ HEV HMV HSV HSC
        refine hK.out _ _ (SI.out _ HS8.out) ?_
        clear hK K
        (try simp only [Act.put, zA4, zA5, zA6])
        have HRC := Lib.hid (HRU.out k sv9 w8 HSVL.out (HB5.out.trans (HM8.out.low.mono (by omega))))
        have HGL := HRL.out k sv9
        generalize gRule f.n f.l k sv9 = gr at *
        (refine wpOrd_solo (o := ?_) ?_ ?_; rotate_left 1; (simp only [zA1, zA2, zA3]; with_reducible rfl))
        intro K hK
        go_simp
        go_at_call 49
        refine HRC.out.mono ?_
        rintro e w9 ⟨rfl, hb⟩
        have HE9 := Lib.hid (HE8.out.below hb HE8.out.lt)
        have HM9 := Lib.hid (HM8.out.onBelow (by omega) hb HM8.out.size)
        have HS9 := Lib.hid (HS8.out.onBelow hlt7 hb HS8.out.size)
        clear hb
        refine hK.out _ _ (SI.out _ HS9.out) ?_
        clear hK K
        (try simp only [Act.put, zA4, zA5, zA6])
        have eor : bits BinOp.or IntKind.u64 (a : Int) (gr : Int) = ((a ||| gr : Nat) : Int) := u64_or_nat a gr ha HGL
        have HOL := Lib.hid (or_lt ha HGL)
        clear K1 pL
        iterate 2
         (refine wpOrd_step (o := ?_) ?_ ?_; rotate_left 1; (simp only [zA1, zA2, zA3]; with_reducible rfl))
         (first
          | (refine wpOrd_skip (by rfl) ?_)
          | (refine wpOrd_take (v := ?_) (by rfl) ?_ ?_; rotate_left 1; (intro wx hSx; go_simp; try with_reducible rfl)))
         (try simp only [Act.put, zA4, zA5, zA6])
        refine wpOrd_done ?_
        go_wp2_with fail
        go_roundw
        case rel => exact ⟨i + 1, a ||| gr, q2, by omega, by go_num, rfl, HOL.out, HQ2, HE9, HM9⟩
        case measure => simp [intOf]; omega
       ·obtain rfl : i = n := by omega
        have hq := HQ.out
        rw [HRN.out] at hq
        have HG : Hid (R = (q0, a)) := hq.symm
        have HEwr := HE
        have HMwr := HM
        clear hq
        have HRwr := Lib.hid (HR5.out.mv HMwr.out (by omega))
        have HBwr := Lib.hid (HB5.out.trans (HMwr.out.low.mono (by omega)))
        obtain ⟨fa, fb, hfc⟩ : ∃ fa fb : Int, fcs (q0) = #[.int .i64 fa, .int .i64 fb] := ⟨_, _, rfl⟩
        have HEZ : Hid (RowAt wr ge 36 #[.int .i64 fa, .int .i64 fb]) := by show RowAt _ _ _ _; rw [← hfc]; exact HEwr.out
        have HFC : Hid (fcs (q0) = #[.int .i64 fa, .int .i64 fb]) := hfc
        clear hfc
        go_upto_region 21 with fail
        obtain ⟨S, hSe⟩ : ∃ S : World → Prop, S = fun W => RowAt W ge 36 #[.int .i64 fa, .int .i64 fb] := ⟨_, rfl⟩
        have D0 : ∀ W, S W → W.cell? ⟨ge, 0, none⟩ = some (.int .i64 fa) := fun W h => by
         rw [hSe] at h
         exact (RowAt.cell h 0).trans rfl
        have D1 : ∀ W, S W → W.cell? ⟨ge, 1, none⟩ = some (.int .i64 fb) := fun W h => by
         rw [hSe] at h
         exact (RowAt.cell h 1).trans rfl
        have hs0 : S wr.drew := by rw [hSe]; exact HEZ.out.drew
        have hr0 := HRwr.out.drew
        have hb0 := HBwr.out.drew
        refine wp_region_ord S [(0, true), (1, true), (2, true), (3, false)] (by kernel_rfl) (by kernel_rfl) rfl (by kernel_rfl) hs0 ?_
        generalize wr.drew = V at hs0 hr0 hb0 ⊢
        iterate 3
         (refine wpOrd_step (o := ?_) ?_ ?_; rotate_left 1; (simp only [zA1, zA2, zA3]; with_reducible rfl))
         (first
          | (refine wpOrd_skip (by rfl) ?_)
          | (refine wpOrd_take (v := ?_) (by rfl) ?_ ?_; rotate_left 1; (intro wx hSx; have hc_0 := D0 wx hSx; have hc_1 := D1 wx hSx; go_simp; try with_reducible rfl)))
         (try simp only [Act.put, zA4, zA5, zA6])
        have hs1 : S (V.setRow (w.heap.size + 2) #[.int .i64 fa, .int .i64 fb]) := by
         rw [hSe] at hs0 ⊢
         exact RowAt.other hs0 (Else.setRow _ _ _) (by omega)
        refine wpOrd_store (o := ?_) ?ho1_3 ?hw1_3 36 ?ox1_3 ?oy1_3 ?hop1_3 (w.heap.size + 2) #[.int .i64 fa, .int .i64 fb] ?hx1_3 ?hy1_3 36 #[.int .i64 0, .int .i64 0] hr0 (fault_info _ _) ?hold1_3 (by simp [Value.oneCell']) hs1 ?hh1_3
        case ho1_3 => (simp only [zA1, zA2, zA3]; with_reducible rfl)
        case hw1_3 => rfl
        case hop1_3 => rfl
        case hx1_3 => rfl
        case hy1_3 => rfl
        case hold1_3 => rfl
        (try simp only [Act.put, zA4, zA5, zA6])
        refine wpOrd_done ?_
        go_wp2_with fail
        exact bodyPost_ret (ret_slot_cell rfl _ _ (.int .u64 ((a : Nat) : Int)) (w.heap.size + 2) _ _ (0, 0) _ rfl rfl (hr0.setRow #[.int .i64 fa, .int .i64 fb]) Tryz.underlying36 rfl (fault_info _ _)) rfl ⟨SP.ret_of HG.out HFC.out, hb0.trans ((Else.setRow _ _ _).below (by omega))⟩
  ·have HG := Lib.hid (G4.out hk)
   have t1 : (kd == 1) = false := by simp [hk]
   have t2 : (kd == 2) = false := by simp [hk]
   have t3 : (kd == 3) = false := by simp [hk]
   have t4 : (kd == 4) = true := by simp [hk]
   obtain ⟨q0, hq0⟩ : ∃ q : Option Int, q = none := ⟨_, rfl⟩
   rw [← hq0] at HE5
   clear hk G1 G2 G3 G4
   go_upto_region 20 with fail
   clear c0 c1 c2 c3
   refine wp_region_ord S [(0, true), (1, true), (2, true), (3, true), (4, true), (5, true), (6, true), (7, false), (8, false), (9, true)] (by kernel_rfl) (by kernel_rfl) rfl (by kernel_rfl) (SI.out _ HM5.out.drew) ?_
   have HM0 : Hid (Mv ge w5 w5.drew) := HM5.out.drew
   have HE0 : Hid (RowAt w5.drew ge 36 (fcs q0)) := HE5.out.drew
   generalize w5.drew = V at HM0 HE0 ⊢
   iterate 7
       (refine wpOrd_step (o := ?_) ?_ ?_; rotate_left 1; (simp only [zA1, zA2, zA3]; with_reducible rfl))
       (first
        | (refine wpOrd_skip (by rfl) ?_)
        | (refine wpOrd_take (by rfl) (take_loadRelIn _ rfl _ _ rfl _ _ hl pL) ?_)
        | (refine wpOrd_take (v := ?_) (by rfl) ?_ ?_; rotate_left 1; (intro wx hSx; have hc_0 := K2 wx hSx; have hc_1 := K3 wx hSx; have hc_2 := K4 wx hSx; go_simp; try with_reducible rfl)))
       (try simp only [Act.put, zA4, zA5, zA6])
   (refine wpOrd_solo (o := ?_) ?_ ?_; rotate_left 1; (simp only [zA1, zA2, zA3]; with_reducible rfl))
   intro K hK
   go_simp
   refine (HCI.out xs xp q0 V HM0.out HE0.out).mono ?_
   rintro e w6 ⟨rfl, he_, hm_⟩
   have HEw6 := Lib.hid he_
   have HMw6 := Lib.hid (HM0.out.trans hm_)
   clear he_ hm_
   refine hK.out _ _ (SI.out _ HMw6.out) ?_
   clear hK K
   (try simp only [Act.put, zA4, zA5, zA6])
   rw [hq0] at HEw6
   have HWC := Lib.hid (HHW.out (idx f.names xs) w6)
   generalize wordN f.n f.l (idx f.names xs) = a9 at *
   generalize idx f.names xs = k at *
   (refine wpOrd_solo (o := ?_) ?_ ?_; rotate_left 1; (simp only [zA1, zA2, zA3]; with_reducible rfl))
   intro K hK
   go_simp
   go_at_call 50
   refine HWC.out.mono ?_
   rintro e w7 ⟨rfl, hb⟩
   have HEw7 := Lib.hid (HEw6.out.below hb HEw6.out.lt)
   have HMw7 := Lib.hid (HMw6.out.onBelow (by omega) hb HMw6.out.size)
   clear hb
   refine hK.out _ _ (SI.out _ HMw7.out) ?_
   clear hK K
   (try simp only [Act.put, zA4, zA5, zA6])
   iterate 1
       (refine wpOrd_step (o := ?_) ?_ ?_; rotate_left 1; (simp only [zA1, zA2, zA3]; with_reducible rfl))
       (first
        | (refine wpOrd_skip (by rfl) ?_)
        | (refine wpOrd_take (v := ?_) (by rfl) ?_ ?_; rotate_left 1; (intro wx hSx; go_simp; try with_reducible rfl)))
       (try simp only [Act.put, zA4, zA5, zA6])
   refine wpOrd_done ?_
   clear K1 K2 K3 K4 pL SI SO
   clear S
   have HRw7 := Lib.hid (HR5.out.mv HMw7.out (by omega))
   have HBw7 := Lib.hid (HB5.out.trans (HMw7.out.low.mono (by omega)))
   obtain ⟨fa, fb, hfc⟩ : ∃ fa fb : Int, fcs (nxt none k xp) = #[.int .i64 fa, .int .i64 fb] := ⟨_, _, rfl⟩
   have HEZ : Hid (RowAt w7 ge 36 #[.int .i64 fa, .int .i64 fb]) := by show RowAt _ _ _ _; rw [← hfc]; exact HEw7.out
   have HFC : Hid (fcs (nxt none k xp) = #[.int .i64 fa, .int .i64 fb]) := hfc
   clear hfc
   go_upto_region 21 with fail
   obtain ⟨S, hSe⟩ : ∃ S : World → Prop, S = fun W => RowAt W ge 36 #[.int .i64 fa, .int .i64 fb] := ⟨_, rfl⟩
   have D0 : ∀ W, S W → W.cell? ⟨ge, 0, none⟩ = some (.int .i64 fa) := fun W h => by
       rw [hSe] at h
       exact (RowAt.cell h 0).trans rfl
   have D1 : ∀ W, S W → W.cell? ⟨ge, 1, none⟩ = some (.int .i64 fb) := fun W h => by
       rw [hSe] at h
       exact (RowAt.cell h 1).trans rfl
   have hs0 : S w7.drew := by rw [hSe]; exact HEZ.out.drew
   have hr0 := HRw7.out.drew
   have hb0 := HBw7.out.drew
   refine wp_region_ord S [(0, true), (1, true), (2, true), (3, false)] (by kernel_rfl) (by kernel_rfl) rfl (by kernel_rfl) hs0 ?_
   generalize w7.drew = V at hs0 hr0 hb0 ⊢
   iterate 3
       (refine wpOrd_step (o := ?_) ?_ ?_; rotate_left 1; (simp only [zA1, zA2, zA3]; with_reducible rfl))
       (first
        | (refine wpOrd_skip (by rfl) ?_)
        | (refine wpOrd_take (v := ?_) (by rfl) ?_ ?_; rotate_left 1; (intro wx hSx; have hc_0 := D0 wx hSx; have hc_1 := D1 wx hSx; go_simp; try with_reducible rfl)))
       (try simp only [Act.put, zA4, zA5, zA6])
   have hs1 : S (V.setRow (w.heap.size + 2) #[.int .i64 fa, .int .i64 fb]) := by
       rw [hSe] at hs0 ⊢
       exact RowAt.other hs0 (Else.setRow _ _ _) (by omega)
   refine wpOrd_store (o := ?_) ?ho1_4 ?hw1_4 36 ?ox1_4 ?oy1_4 ?hop1_4 (w.heap.size + 2) #[.int .i64 fa, .int .i64 fb] ?hx1_4 ?hy1_4 36 #[.int .i64 0, .int .i64 0] hr0 (fault_info _ _) ?hold1_4 (by simp [Value.oneCell']) hs1 ?hh1_4
   case ho1_4 => (simp only [zA1, zA2, zA3]; with_reducible rfl)
   case hw1_4 => rfl
   case hop1_4 => rfl
   case hx1_4 => rfl
   case hy1_4 => rfl
   case hold1_4 => rfl
   (try simp only [Act.put, zA4, zA5, zA6])
   refine wpOrd_done ?_
   go_wp2_with fail
   exact bodyPost_ret (ret_slot_cell rfl _ _ (.int .u64 ((a9 : Nat) : Int)) (w.heap.size + 2) _ _ (0, 0) _ rfl rfl (hr0.setRow #[.int .i64 fa, .int .i64 fb]) Tryz.underlying36 rfl (fault_info _ _)) rfl ⟨SP.ret_of HG.out HFC.out, hb0.trans ((Else.setRow _ _ _).below (by omega))⟩
end Go.Proofs.YtkgonoejnochjaaGreatDoor
namespace Go.Proofs.YtkgonoejnochjaaGreatDoor
namespace SP
open TM RM
def ptsN (t : Bool) (fs : List Fac) (x : Nd) : Option (List Nd) :=
 if (rightS t fs && (fl x).c) = true then (if t = true then (if x.k ≠ 4 ∨ x.ks.length ≠ fs.length then none else some x.ks) else some [x]) else none
theorem elem_pts (t : Bool) (fs : List Fac) (x : Nd) : (ptsN t fs x = none → elemR t fs x = .error x.p) ∧ (∀ xs, ptsN t fs x = some xs → elemR t fs x = elw fs xs ∧ rightS t fs = true ∧ xs.length = fs.length) := by
 unfold ptsN elemR
 by_cases h : (rightS t fs && (fl x).c) = true
 ·rw [if_pos h, if_pos h]
  have hr := (Bool.and_eq_true_iff.1 h).1
  by_cases h2 : t = true
  ·rw [if_pos h2, if_pos h2]
   by_cases h3 : x.k ≠ 4 ∨ x.ks.length ≠ fs.length
   ·rw [if_pos h3, if_pos h3]
    exact ⟨fun _ => rfl, fun xs h => by cases h⟩
   ·rw [if_neg h3, if_neg h3]
    exact ⟨fun h => (by cases h), fun xs h => by injection h with h; subst h; exact ⟨rfl, hr, by omega⟩⟩
  ·rw [if_neg h2, if_neg h2]
   refine ⟨fun h => (by cases h), fun xs h => ?_⟩
   injection h with h
   subst h
   refine ⟨rfl, hr, ?_⟩
   unfold rightS at hr
   simp only [Bool.and_eq_true, decide_eq_true_eq, Bool.or_eq_true] at hr
   rcases hr.1.2 with h3 | h3
   ·exact absurd h3 h2
   ·exact h3.symm
 ·rw [if_neg h, if_neg h]
  exact ⟨fun _ => rfl, fun xs h => by cases h⟩
theorem pts_1 {t : Bool} {fs : List Fac} {x : Nd} (h : rightS t fs = false) : ptsN t fs x = none := by
 unfold ptsN
 rw [h, if_neg (by simp)]
theorem pts_2 {t : Bool} {fs : List Fac} {x : Nd} (h : (fl x).c = false) : ptsN t fs x = none := by
 unfold ptsN
 rw [h, if_neg (by simp)]
theorem pts_3 {t : Bool} {fs : List Fac} {x : Nd} (h : rightS t fs = true) (h2 : (fl x).c = true) (ht : t = false) : ptsN t fs x = some [x] := by
 unfold ptsN
 rw [h, h2, if_pos (by simp), if_neg (by simp [ht])]
theorem pts_4 {t : Bool} {fs : List Fac} {x : Nd} (h : rightS t fs = true) (h2 : (fl x).c = true) (ht : t = true) (h3 : x.k ≠ 4 ∨ x.ks.length ≠ fs.length) : ptsN t fs x = none := by
 unfold ptsN
 rw [h, h2, if_pos (by simp), if_pos ht, if_pos h3]
theorem pts_5 {t : Bool} {fs : List Fac} {x : Nd} (h : rightS t fs = true) (h2 : (fl x).c = true) (ht : t = true) (h3 : ¬(x.k ≠ 4 ∨ x.ks.length ≠ fs.length)) : ptsN t fs x = some x.ks := by
 unfold ptsN
 rw [h, h2, if_pos (by simp), if_pos ht, if_neg h3]
end SP
open Go.RowKit LX TR TM SP RM
end Go.Proofs.YtkgonoejnochjaaGreatDoor
namespace Go.Proofs.YtkgonoejnochjaaGreatDoor
open Go.RowKit LX TR TM SP RM
theorem winfo {e : List Nat} (h : EW e) : (Tryz.prog.info? 33).map (·.size) = some (uv e).size := by rw [ev_size h]; kernel_rfl
theorem wpList_loadWords {ops : Array Oper} {rest : List Oper} {o : Oper} {a : Act} {w : World} {Q : Exit → Act → World → Prop} (hgd : Region.wanted o (yielded ops a.tmps) = true) (x : Operand) (ho : o.op = .load 33 x) (g : Nat) (hx : a.eval x = .pointer (some ⟨g, 0, none⟩))
 (e : List Nat) (hl : EW e) (hg : RowAt w g 33 (uv e)) (h : wpList Tryz.prog ops Q rest (a.put o.dst (.agg (uv e))) w) : wpList Tryz.prog ops Q (o :: rest) a w :=
 wpList_wanted hgd fun _ hK => wp_load_row _ x ho g hx _ _ (0, 0) _ hg Tryz.underlying33 rfl (winfo hl) (hK _ _ h)
theorem SP.elw_bad {fs : List Fac} {xs : List Nd} {i : Nat} {p : Int} (hi : i < xs.length) (h0 : ∀ j, j < i → erW (wordC (fs.getD j f0) (xs.getD j n0)) = none) (h : erW (wordC (fs.getD i f0) (xs.getD i n0)) = some p) : elw fs xs = .error p := by
 unfold elw
 rw [find_range_hit hi (fun j hj => by rw [h0 j hj]; rfl) (by rw [h]; rfl)]
 show Except.error _ = _
 rw [h]; rfl
theorem SP.elw_good {fs : List Fac} {xs : List Nd} (h0 : ∀ j, j < xs.length → erW (wordC (fs.getD j f0) (xs.getD j n0)) = none) : elw fs xs = .ok (sdTo (fun j => okW (wordC (fs.getD j f0) (xs.getD j n0))) 8 xs.length) := by
 unfold elw
 rw [find_range_no (fun j hj => by rw [h0 j hj]; rfl)]
end Go.Proofs.YtkgonoejnochjaaGreatDoor
namespace Go.Proofs.YtkgonoejnochjaaGreatDoor
open Go.RowKit
theorem setCells_row {g : Nat} {t : TypeId} : ∀ (ys : List Value) (o : Nat) (cs : Array Value) (w : World), RowAt w g t cs → ∃ ds : Array Value, RowAt (w.setCells g o ys) g t ds ∧ ds.size = cs.size ∧ (∀ j, (j < o ∨ o + ys.length ≤ j) → ds[j]? = cs[j]?) ∧ (∀ j, j < ys.length → o + j < cs.size → ds[o + j]? = ys[j]?)
 | [], o, cs, w, h => ⟨cs, h, rfl, fun _ _ => rfl, fun j hj => by simp at hj⟩
 | y :: ys, o, cs, w, h => by
   obtain ⟨ds, h1, h2, h3, h4⟩ := setCells_row ys (o + 1) _ _ (h.put o y)
   refine ⟨ds, h1, by rw [h2, Array.size_setIfInBounds], fun j hj => ?_, fun j hj hjs => ?_⟩
   ·rw [h3 j (by simp only [List.length_cons] at hj; omega), Array.getElem?_setIfInBounds_ne (by simp only [List.length_cons] at hj; omega)]
   ·cases j with
    | zero =>
      rw [Nat.add_zero, h3 o (by omega), Array.getElem?_setIfInBounds_self_of_lt (by omega)]
      simp
    | succ j =>
      rw [show o + (j + 1) = o + 1 + j by omega, h4 j (by simpa using hj) (by rw [Array.size_setIfInBounds]; omega)]
      simp
theorem setCells_size (w : World) (g o : Nat) (ys : List Value) : (w.setCells g o ys).heap.size = w.heap.size := by
 induction ys generalizing w o with
 | nil => rfl
 | cons y ys ih => rw [World.setCells, ih]; simp [World.setCell]
theorem setCells_other (w : World) (g o : Nat) (ys : List Value) (k : Nat) (hk : k ≠ g) : (w.setCells g o ys).heap[k]? = w.heap[k]? := by
 induction ys generalizing w o with
 | nil => rfl
 | cons y ys ih =>
   rw [World.setCells, ih]
   simp only [World.setCell, Array.getElem?_modify, if_neg (fun e => hk (Eq.symm e))]
theorem setCells_env (w : World) (g o : Nat) (ys : List Value) : (w.setCells g o ys).os = w.os ∧ (w.setCells g o ys).tape = w.tape ∧ (w.setCells g o ys).output = w.output := by
 induction ys generalizing w o with
 | nil => exact ⟨rfl, rfl, rfl⟩
 | cons y ys ih => rw [World.setCells]; exact ih _ _
theorem setCells_below {B g : Nat} {w : World} (hB : B ≤ g) (o : Nat) (ys : List Value) : Below B w (w.setCells g o ys) :=
 ⟨(setCells_env w g o ys).1, (setCells_env w g o ys).2.1, (setCells_env w g o ys).2.2, by rw [setCells_size]; exact Nat.le_refl _, fun k hk => setCells_other w g o ys k (by omega)⟩
theorem own_fill {w : World} {base size n c g : Nat} {e : TypeId} {cs zs ys : List Value} (h : w.ownsRow base e size (.slice (some ⟨g, 0, none⟩) (n + 1) c) (n + 1) (cs ++ zs)) (hc : cs.length = n * size) (hy : ys.length = size) :
 (w.setCells g (n * size) ys).ownsRow base e size (.slice (some ⟨g, 0, none⟩) (n + 1) c) (n + 1) (cs ++ ys) ∧ w.there g (n * size) size := by
 have hm : (n + 1) * size = n * size + size := by rw [Nat.add_mul, Nat.one_mul]
 rcases h.2 with ⟨hv, _⟩ | ⟨g', cap, cur, hv, hg, hh, h1, h2, h3, h4⟩
 ·cases hv
 ·injection hv with e1 _ e3
  injection e1 with e1
  injection e1 with e1 _ _
  subst e1 e3
  have hcs : (n + 1) * size ≤ cur.size := by rw [h3]; exact Nat.mul_le_mul_right _ h1
  obtain ⟨ds, d1, d2, d3, d4⟩ := setCells_row ys (n * size) cur w hh
  refine ⟨⟨by rw [List.length_append]; omega, .inr ⟨g, c, ds, rfl, hg, d1, h1, h2, by omega, ?_⟩⟩, fun j hj => ⟨?_, RowAt.free hh _⟩⟩
  ·refine List.ext_getElem? fun j => ?_
   by_cases hj : j < (n + 1) * size
   ·rw [List.getElem?_take_of_lt hj]
    show ds.toList[j]? = _
    rw [Array.getElem?_toList]
    by_cases hj2 : j < n * size
    ·rw [d3 j (.inl hj2), List.getElem?_append_left (by omega)]
     have e := congrArg (fun l : List Value => l[j]?) h4
     rw [List.getElem?_take_of_lt hj, List.getElem?_append_left (by omega)] at e
     simpa using e
    ·have e := d4 (j - n * size) (by omega) (by omega)
     rw [show n * size + (j - n * size) = j by omega] at e
     rw [e, List.getElem?_append_right (by omega), hc]
   ·rw [List.getElem?_eq_none (by rw [List.length_take]; omega), List.getElem?_eq_none (by rw [List.length_append]; omega)]
  ·rw [RowAt.cell hh, Array.getElem?_eq_getElem (by omega)]; rfl
end Go.Proofs.YtkgonoejnochjaaGreatDoor

