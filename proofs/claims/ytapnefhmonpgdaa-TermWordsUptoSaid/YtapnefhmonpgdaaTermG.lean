/-
  The program's reader: variables, rules, fields. Conditions: lists of trees of at most 2^32.
-/
import Derived.Test.YtapnefhmonpgdaaTermF
namespace Go.Proofs.Ytapnefhmonpgdaa
open Go.RowKit LX TR TM

theorem calls_hid {P : Program} {F : FuncId} {a : Array Value} {w : World} {Q : Ending → World → Prop} (h : ∀ Q' : Ending → World → Prop, (∀ e w, Q e w → Q' e w) → Calls P F a w Q') : Calls P F a w Q := h Q fun _ _ h => h
/-- Five cells written. -/
def set5 (w : World) (g : Nat) (a b c d e : Value) : World := ((((w.setCell ⟨g, 0, none⟩ a).setCell ⟨g, 1, none⟩ b).setCell ⟨g, 2, none⟩ c).setCell ⟨g, 3, none⟩ d).setCell ⟨g, 4, none⟩ e
section
variable {w w0' : World} {b g : Nat} {a0 b0 c0 d0 e0 u0 u1 u2 u3 u4 : Value} {t : TypeId}
theorem set5_row (h : RowAt w g t #[u0, u1, u2, u3, u4]) : RowAt (set5 w g a0 b0 c0 d0 e0) g t #[a0, b0, c0, d0, e0] := ((((h.put 0 a0).put 1 b0).put 2 c0).put 3 d0).put 4 e0
theorem set5_size : (set5 w g a0 b0 c0 d0 e0).heap.size = w.heap.size := by simp [set5, World.setCell]
theorem set5_other {k : Nat} (hk : k ≠ g) : (set5 w g a0 b0 c0 d0 e0).heap[k]? = w.heap[k]? := by
  simp only [set5, World.setCell, Array.getElem?_modify]
  simp only [if_neg (Ne.symm hk)]
theorem set5_below (hb : b ≤ g) : Below b w (set5 w g a0 b0 c0 d0 e0) :=
  (((((Below.refl b w).setCell (p := ⟨g, 0, none⟩) hb _).setCell (p := ⟨g, 1, none⟩) hb _).setCell (p := ⟨g, 2, none⟩) hb _).setCell (p := ⟨g, 3, none⟩) hb _).setCell (p := ⟨g, 4, none⟩) hb _
theorem set5_rs {A : Option Addr} {c : Nat} {l : List Tr} {i e : Int} {f : Option Int} (h : Rs w b A c l i e f) (hg : b < g) : Rs (set5 w g a0 b0 c0 d0 e0) b A c l i e f := ((((h.far hg).far hg).far hg).far hg).far hg
theorem set5_mv (h : Mv b w0' w) (hg : w0'.heap.size ≤ g) (hb : b < w0'.heap.size) : Mv b w0' (set5 w g a0 b0 c0 d0 e0) :=
  h.on (set5_below (by omega)) fun k hk _ => set5_other (by omega)
theorem set5_slc {ok ok' : Nat → Prop} {A : Option Addr} {cs : List Value} (h : SlC w ok A cs) (hk : ∀ k, k < w.heap.size → ok k → k ≠ g ∧ ok' k) : SlC (set5 w g a0 b0 c0 d0 e0) ok' A cs :=
  h.keep (by rw [set5_size]; exact Nat.le_refl _) (fun k hlt ho => set5_other (hk k hlt ho).1) fun k hlt ho => (hk k hlt ho).2
theorem set5_deep {ok ok' : Nat → Prop} {zs : List Nd} (h : DeepN w ok zs) (hk : ∀ k, k < w.heap.size → ok k → k ≠ g ∧ ok' k) : DeepN (set5 w g a0 b0 c0 d0 e0) ok' zs :=
  h.keep (by rw [set5_size]; exact Nat.le_refl _) (fun k hlt ho => set5_other (hk k hlt ho).1) fun k hlt ho => (hk k hlt ho).2
end
/-- A node without names and kids. -/
theorem deep_leaf (w : World) (ok : Nat → Prop) (k p : Int) (s : ByteArray) : DeepN w ok [nd k p s [] []] :=
  DeepN.one ⟨⟨SlC.nil _ _ _, Nat.le_refl _⟩, SlC.nil _ _ _, Nat.le_refl _⟩ (DeepN.nil _ _)
theorem er1_nd (k p : Int) (s : ByteArray) (ws : List Wd) : er1 (nd k p s ws []) = nd k p s ws [] := by simp [er1, nd, Nd.k, Nd.p, Nd.s, Nd.ws, Nd.ks, TM.er]
theorem nodeV_leaf (w : World) (s0 : Nat) (k p : Int) (s : ByteArray) : NodeV w s0 (nd k p s [] []) (.agg #[.int .i64 k, .int .i64 p, .string s, .slice none 0 0, .slice none 0 0]) := ⟨nd k p s [] [], rfl, er1_nd _ _ _ _, deep_leaf _ _ _ _ _⟩
theorem nodeV_names {w : World} {s0 : Nat} {k p : Int} {s : ByteArray} {ws : List Wd} {X : Option Addr} {d : Nat} (_ : True) (hd : ws.length ≤ d) (h : SlC w (fun k => s0 ≤ k) X (wcs ws)) : NodeV w s0 (nd k p s ws []) (.agg #[.int .i64 k, .int .i64 p, .string s, .slice X ws.length d, .slice none 0 0]) :=
  ⟨.mk k p s X d ws none 0 [], rfl, by simp [er1, nd, Nd.k, Nd.p, Nd.s, Nd.ws, Nd.ks, TM.er], DeepN.one ⟨⟨h, hd⟩, SlC.nil _ _ _, Nat.le_refl _⟩ (DeepN.nil _ _)⟩
theorem nodeV_kids {w : World} {s0 : Nat} {k p : Int} {s : ByteArray} {zs : List Nd} {X : Option Addr} {d : Nat} (hd : zs.length ≤ d) (h : SlC w (fun k => s0 ≤ k) X (ncs zs)) (h2 : DeepN w (fun k => s0 ≤ k) zs) : NodeV w s0 (nd k p s [] (TM.er zs)) (.agg #[.int .i64 k, .int .i64 p, .string s, .slice none 0 0, .slice X zs.length d]) :=
  ⟨.mk k p s none 0 [] X d zs, rfl, by simp [er1, nd, Nd.k, Nd.p, Nd.s, Nd.ws, Nd.ks], DeepN.one ⟨⟨SlC.nil _ _ _, Nat.le_refl _⟩, h, hd⟩ h2⟩
theorem var_step {l : List Tr} {i e : Int} {f : Option Int} {x : Wd} {i2 : Int} {f2 : Option Int} (h : Step nameR l i e f x i2 f2) : Step varR l i e f (nd 1 x.p x.s [] []) i2 f2 := by
  have h2 := h.map (fun x : Wd => nd 1 x.p x.s [] [])
  exact h2

set_option maxRecDepth 100000 in
set_option maxHeartbeats 1600000 in
theorem variable_any (N : Nat) : Reads 94 NodeV varR N := by
  intro w b A c l i e f h hN
  have hbw := h.lt
  have HM0 : Hid (Mv b w (w.alloc (.cells #[.int .i64 0, .int .i64 0, .string ⟨#[]⟩, .slice none 0 0, .slice none 0 0] 32))) := (Mv.refl b w).alloc hbw _
  have HG := Lib.hid (RowAt.new w 32 #[.int .i64 0, .int .i64 0, .string ⟨#[]⟩, .slice none 0 0, .slice none 0 0])
  have HT := Lib.hid (name_any (nodes (rest l i)).length _ b A c l i e f (h.mv HM0.out (h.at_.alloc _)) (Nat.le_refl _))
  clear h
  refine calls_hid fun Q' hQ => ?_
  have HQ := Lib.hid hQ; clear hQ
  go_enter Try.func94, Try.ntmps94
  go_wp2_with fail
  refine HT.out.mono ?_
  rintro e' w1 ⟨v, ⟨s, p⟩, i2, f2, rfl, rfl, hs, hm, hst⟩
  have HG1 := HG.out.mv hm (Nat.ne_of_gt hbw)
  have hsz := HG1.lt
  have HS1 := Lib.hid hs
  have HM1 := Lib.hid (HM0.out.trans hm)
  have hn5 := RowAt.new w1 69 #[.string s, .int .i64 p]
  have HST := Lib.hid (var_step hst)
  obtain ⟨g0, g1, g2, g3, g4, u0, u1, u2, u3, u4⟩ := row5 HG1
  obtain ⟨m0, m1, _, _⟩ := row2 hn5
  have HG2 := Lib.hid HG1
  clear hs hm hst HG1 hn5
  unfold wv
  go_wp2_with fail
  change bodyPost _ _ _ _ _ ((set5 w1 w.heap.size (.int .i64 1) (.int .i64 p) (.string s) (.slice none 0 0) (.slice none 0 0)).alloc (.cells #[.string s, .int .i64 p] 69))
  have hgf := (set5_row (a0 := .int .i64 1) (b0 := .int .i64 p) (c0 := .string s) (d0 := .slice none 0 0) (e0 := .slice none 0 0) HG2.out).alloc (.cells #[.string s, .int .i64 p] 69)
  exact bodyPost_ret (ret_cell rfl _ _ w.heap.size _ _ (0, 0) _ rfl hgf Try.underlying32 rfl (node_info _ _ _ _ _)) rfl (HQ.out _ _ ⟨_, nd 1 p s [] [], i2, f2, rfl, nodeV_leaf _ _ _ _ _, (set5_rs HS1.out hbw).alloc _,
      (set5_mv HM1.out (Nat.le_refl _) hbw).alloc hbw _, HST.out⟩)
/-- What is kept while a region is walked: the reader's word, and the node that is made. -/
def KeepR (g3 g2 : Nat) (w0' : World) (b : Nat) (s : ByteArray) (p : Int) (w : World) : Prop :=
  RowAt w g3 69 #[.string s, .int .i64 p] ∧ RowAt w g2 32 #[.int .i64 0, .int .i64 0, .string ⟨#[]⟩, .slice none 0 0, .slice none 0 0] ∧ Mv b w0' w ∧ w0'.heap.size ≤ g2 ∧ w0'.heap.size ≤ g3
theorem KeepR.mv {g3 g2 : Nat} {w0' w w' : World} {b : Nat} {s : ByteArray} {p : Int} (h : KeepR g3 g2 w0' b s p w) (hb : b < w0'.heap.size) (hm : Mv b w w') : KeepR g3 g2 w0' b s p w' :=
  ⟨h.1.mv hm (by have := h.2.2.2.2; omega), h.2.1.mv hm (by have := h.2.2.2.1; omega), h.2.2.1.trans hm, h.2.2.2.1, h.2.2.2.2⟩
theorem setRow_mv {b g : Nat} {w w' : World} (h : Mv b w w') (hb : b < w.heap.size) (hg : w.heap.size ≤ g) (cs : Array Value) : Mv b w (w'.setRow g cs) := h.setRow (.inr hg) hb cs
theorem setRow_rs {w : World} {b g : Nat} {A : Option Addr} {c : Nat} {l : List Tr} {i e : Int} {f : Option Int} (h : Rs w b A c l i e f) (hg : b < g) (cs : Array Value) : Rs (w.setRow g cs) b A c l i e f :=
  h.low (B := b + 1) (below_setRow (by omega) cs) (Nat.lt_succ_self b)
theorem setRow_slc {w : World} {g : Nat} {ok ok' : Nat → Prop} {A : Option Addr} {cs : List Value} (h : SlC w ok A cs) (ds : Array Value) (hk : ∀ k, k < w.heap.size → ok k → k ≠ g ∧ ok' k) : SlC (w.setRow g ds) ok' A cs :=
  h.keep (below_setRow (B := 0) (Nat.zero_le _) ds).size (fun k hlt ho => setRow_other w g k ds (hk k hlt ho).1) fun k hlt ho => (hk k hlt ho).2
theorem setRow_deep {w : World} {g : Nat} {ok ok' : Nat → Prop} {zs : List Nd} (h : DeepN w ok zs) (ds : Array Value) (hk : ∀ k, k < w.heap.size → ok k → k ≠ g ∧ ok' k) : DeepN (w.setRow g ds) ok' zs :=
  h.keep (below_setRow (B := 0) (Nat.zero_le _) ds).size (fun k hlt ho => setRow_other w g k ds (hk k hlt ho).1) fun k hlt ho => (hk k hlt ho).2
theorem rule_step {l : List Tr} {i e : Int} {f : Option Int} {x : Wd} {t : Tk} {ws : List Wd} {i2 i3 i4 : Int} {f2 f3 f4 : Option Int} (h : Step nameR l i e f x i2 f2) (h2 : Step (takeR 58) l i2 e f2 t i3 f3) (h3 : Step setR l i3 e f3 ws i4 f4) :
    Step ruleR l i e f (nd 6 x.p x.s ws []) i4 f4 := by
  have e1 := h3.map (fun ws => nd 6 x.p x.s ws [])
  have e2 := Step.bind (rd2 := fun _ ts e => bnd (setR ts e) fun ws r3 => .ok (nd 6 x.p x.s ws [], r3)) h2 e1
  exact Step.bind (rd2 := fun w ts e => bnd (takeR 58 ts e) fun _ r2 => bnd (setR r2 e) fun ws r3 => .ok (nd 6 w.p w.s ws [], r3)) h e2

set_option maxRecDepth 100000 in
set_option maxHeartbeats 3200000 in
theorem rule_any (N : Nat) : Reads 90 NodeV ruleR N := by
  intro w b A c l i e f h hN
  have hbw := h.lt
  have HM0 : Hid (Mv b w (w.alloc (.cells #[.int .i64 0, .int .i64 0, .string ⟨#[]⟩, .slice none 0 0, .slice none 0 0] 32))) := (Mv.refl b w).alloc hbw _
  have HG := Lib.hid (RowAt.new w 32 #[.int .i64 0, .int .i64 0, .string ⟨#[]⟩, .slice none 0 0, .slice none 0 0])
  have HT := Lib.hid (name_any (nodes (rest l i)).length _ b A c l i e f (h.mv HM0.out (h.at_.alloc _)) (Nat.le_refl _))
  clear h
  refine calls_hid fun Q' hQ => ?_
  have HQ := Lib.hid hQ; clear hQ
  go_enter Try.func90, Try.ntmps90
  go_wp2_with fail
  refine HT.out.mono ?_
  rintro e' w1 ⟨v, ⟨s, p⟩, i2, f2, rfl, rfl, hs, hm, hst⟩
  have HG1 := HG.out.mv hm (Nat.ne_of_gt hbw)
  have hsz := HG1.lt
  have HS1 := Lib.hid (hs.alloc (.cells #[.string s, .int .i64 p] 69))
  have HM1 := Lib.hid ((HM0.out.trans hm).alloc hbw (.cells #[.string s, .int .i64 p] 69))
  have HK1 : Hid (KeepR w1.heap.size w.heap.size w b s p (w1.alloc (.cells #[.string s, .int .i64 p] 69))) := ⟨RowAt.new w1 _ _, HG1.alloc _, HM1.out, Nat.le_refl _, Nat.le_of_lt hsz⟩
  have HST := Lib.hid hst
  have HTK := Lib.hid (take_any HS1.out 58 (by decide))
  have hn5 := RowAt.new w1 69 #[.string s, .int .i64 p]
  obtain ⟨m0, m1, _, _⟩ := row2 hn5
  have HSZ := Lib.hid hsz
  clear hs hm hst HG1 hn5 HM1 HS1
  unfold wv
  go_wp2_with fail
  refine HTK.out.mono ?_
  rintro e' w2 ⟨t, i3, f3, rfl, hs2, hm2, hst2⟩
  have HK2 := Lib.hid (HK1.out.mv hbw hm2)
  have HS2 := Lib.hid hs2
  have HST2 := Lib.hid hst2
  clear hs2 hm2 hst2 m0 m1 HK1 HTK
  go_upto_region 3 with fail
  obtain ⟨S, hSe⟩ : ∃ S : World → Prop, S = fun w' => RowAt w' w1.heap.size 69 #[.string s, .int .i64 p] := ⟨_, rfl⟩
  have HS : Hid (S w2.drew) := by rw [hSe]; exact Lib.hid HK2.out.1.drew
  have C0 : ∀ w', S w' → w'.cell? ⟨w1.heap.size, 0, none⟩ = some (.string s) := fun w' h => by rw [hSe] at h; exact (RowAt.cell h 0).trans rfl
  have C1 : ∀ w', S w' → w'.cell? ⟨w1.heap.size, 1, none⟩ = some (.int .i64 p) := fun w' h => by rw [hSe] at h; exact (RowAt.cell h 1).trans rfl
  have HC := Lib.hid (set_any (w := w2.drew) (HS2.out.dr (w' := w2.drew) ⟨1, rfl⟩))
  refine wp_region_ord S [(0, true), (1, true), (2, true), (3, true), (4, true), (5, false), (6, true), (7, false)] (by kernel_rfl) (by kernel_rfl) rfl (by kernel_rfl) HS.out ?_
  iterate 5
    (refine wpOrd_step (o := ?_) ?_ ?_; rotate_left 1; (simp only [List.getElem?_toArray, List.getElem?_cons_succ, List.getElem?_cons_zero]; with_reducible rfl))
    (first
        | (refine wpOrd_skip (by rfl) ?_)
        | (refine wpOrd_take (v := ?_) (by rfl) ?_ ?_; rotate_left 1; (intro wx hSx; have hc_0 := C0 wx hSx; have hc_1 := C1 wx hSx; go_simp; try with_reducible rfl)))
    (try simp only [Act.put, List.setIfInBounds_toArray, List.set_cons_zero, List.set_cons_succ])
  (refine wpOrd_solo (o := ?_) ?_ ?_; rotate_left 1; (simp only [List.getElem?_toArray, List.getElem?_cons_succ, List.getElem?_cons_zero]; with_reducible rfl))
  intro K hK
  go_simp
  go_at_call 85
  refine HC.out.mono ?_
  rintro e' w3 ⟨v, ws, i4, f4, rfl, ⟨X, d, rfl, hd, hsl⟩, hs3, hm3, hst3⟩
  have HK3 := Lib.hid (HK2.out.mv hbw (((Mv.refl b w2).drew).trans hm3))
  have hS3 : S w3 := by rw [hSe]; exact HK3.out.1
  refine hK.out _ _ hS3 ?_
  clear HS hK K
  have HS := Lib.hid hS3
  have HG3 : Hid (RowAt w3 w.heap.size 32 #[.int .i64 0, .int .i64 0, .string ⟨#[]⟩, .slice none 0 0, .slice none 0 0]) := HK3.out.2.1
  have HM3 : Hid (Mv b w w3) := HK3.out.2.2.1
  have HS4 := Lib.hid hs3
  have HZ3 : Hid (w.heap.size < w2.heap.size) := HK2.out.2.1.lt
  have HSS := Lib.hid (rule_step HST.out HST2.out hst3)
  clear hs3 hm3 hst3 hS3
  iterate 1
    (refine wpOrd_step (o := ?_) ?_ ?_; rotate_left 1; (simp only [List.getElem?_toArray, List.getElem?_cons_succ, List.getElem?_cons_zero]; with_reducible rfl))
    (first
        | (refine wpOrd_skip (by rfl) ?_)
        | (refine wpOrd_take (v := ?_) (by rfl) ?_ ?_; rotate_left 1; (intro wx hSx; have hc_0 := C0 wx hSx; have hc_1 := C1 wx hSx; go_simp; try with_reducible rfl)))
    (try simp only [Act.put, List.setIfInBounds_toArray, List.set_cons_zero, List.set_cons_succ])
  (refine wpOrd_solo (o := ?_) ?_ ?_; rotate_left 1; (simp only [List.getElem?_toArray, List.getElem?_cons_succ, List.getElem?_cons_zero]; with_reducible rfl))
  intro K hK
  rw [if_pos (by rfl)]
  refine wp_store_row _ _ _ rfl w.heap.size #[.int .i64 6, .int .i64 p, .string s, (.slice X ws.length d), (.slice none 0 0)] rfl rfl _ _ HG3.out (node_info _ _ _ _ _) rfl (by simp [Value.oneCell']) ?_
  have hrow := HG3.out.setRow #[.int .i64 6, .int .i64 p, .string s, (.slice X ws.length d), (.slice none 0 0)]
  have hS4 : S (w3.setRow w.heap.size #[.int .i64 6, .int .i64 p, .string s, (.slice X ws.length d), (.slice none 0 0)]) := by
    have h := HS.out
    rw [hSe] at h ⊢
    exact (setRow_other w3 w.heap.size w1.heap.size _ (Nat.ne_of_gt HSZ.out)).trans h
  refine hK.out _ _ hS4 ?_
  clear hK K
  simp only [Act.put]
  refine wpOrd_done ?_
  go_wp2
  exact bodyPost_ret (ret_cell rfl _ _ w.heap.size _ _ (0, 0) _ rfl hrow Try.underlying32 rfl (node_info _ _ _ _ _)) rfl (HQ.out _ _ ⟨_, (nd 6 p s ws []), i4, f4, rfl, (nodeV_names trivial hd (setRow_slc hsl _ fun k _ hk => ⟨by have h1 := HZ3.out; have h2 : w2.heap.size ≤ k := hk; omega, by have h1 := HZ3.out; have h2 : w2.heap.size ≤ k := hk; omega⟩)), setRow_rs HS4.out hbw _, setRow_mv HM3.out hbw (Nat.le_refl _) _, HSS.out⟩)
end Go.Proofs.Ytapnefhmonpgdaa
