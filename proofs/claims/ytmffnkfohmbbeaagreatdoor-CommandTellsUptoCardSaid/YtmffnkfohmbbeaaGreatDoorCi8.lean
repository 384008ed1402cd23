/- Texts that all the claims need. Conditions: those that each states. -/

import Derived.Test.YtmffnkfohmbbeaaGreatDoorCi7
set_option linter.unusedSimpArgs false
set_option linter.unusedVariables false
set_option maxRecDepth 100000
set_option maxHeartbeats 40000000
namespace Go.Proofs.YtmffnkfohmbbeaaGreatDoor
section
open Go.RowKit LX TR TM
theorem calls_hid {P : Program} {F : FuncId} {a : Array Value} {w : World} {Q : Ending → World → Prop} (h : ∀ Q' : Ending → World → Prop, (∀ e w, Q e w → Q' e w) → Calls P F a w Q') : Calls P F a w Q := h Q fun _ _ h => h
def set5 (w : World) (g : Nat) (a b c d e : Value) : World := ((((w.setCell ⟨g, 0, none⟩ a).setCell ⟨g, 1, none⟩ b).setCell ⟨g, 2, none⟩ c).setCell ⟨g, 3, none⟩ d).setCell ⟨g, 4, none⟩ e
section
variable {w w0' : World} {b g : Nat} {a0 b0 c0 d0 e0 u0 u1 u2 u3 u4 : Value} {t : TypeId}
theorem set5_row (h : RowAt w g t #[u0, u1, u2, u3, u4]) : RowAt (set5 w g a0 b0 c0 d0 e0) g t #[a0, b0, c0, d0, e0] := ((((h.put 0 a0).put 1 b0).put 2 c0).put 3 d0).put 4 e0
theorem set5_size : (set5 w g a0 b0 c0 d0 e0).heap.size = w.heap.size := by simp [set5, World.setCell]
theorem set5_other {k : Nat} (hk : k ≠ g) : (set5 w g a0 b0 c0 d0 e0).heap[k]? = w.heap[k]? := by
 simp only [set5, World.setCell, Array.getElem?_modify]
 simp only [if_neg (Ne.symm hk)]
theorem set5_below (hb : b ≤ g) : Below b w (set5 w g a0 b0 c0 d0 e0) :=
 (((((zB b w).setCell (p := ⟨g, 0, none⟩) hb _).setCell (p := ⟨g, 1, none⟩) hb _).setCell (p := ⟨g, 2, none⟩) hb _).setCell (p := ⟨g, 3, none⟩) hb _).setCell (p := ⟨g, 4, none⟩) hb _
theorem set5_rs {A : Option Addr} {c : Nat} {l : List Tr} {i e : Int} {f : Option Int} (h : Rs w b A c l i e f) (hg : b < g) : Rs (set5 w g a0 b0 c0 d0 e0) b A c l i e f := ((((h.far hg).far hg).far hg).far hg).far hg
theorem set5_mv (h : Mv b w0' w) (hg : w0'.heap.size ≤ g) (hb : b < w0'.heap.size) : Mv b w0' (set5 w g a0 b0 c0 d0 e0) :=
 h.on (set5_below (by omega)) fun k hk _ => set5_other (by omega)
theorem set5_slc {ok ok' : Nat → Prop} {A : Option Addr} {cs : List Value} (h : SlC w ok A cs) (hk : ∀ k, k < w.heap.size → ok k → k ≠ g ∧ ok' k) : SlC (set5 w g a0 b0 c0 d0 e0) ok' A cs :=
 h.keep (by rw [set5_size]; exact zL _) (fun k hlt ho => set5_other (hk k hlt ho).1) fun k hlt ho => (hk k hlt ho).2
theorem set5_deep {ok ok' : Nat → Prop} {zs : List Nd} (h : DeepN w ok zs) (hk : ∀ k, k < w.heap.size → ok k → k ≠ g ∧ ok' k) : DeepN (set5 w g a0 b0 c0 d0 e0) ok' zs :=
 h.keep (by rw [set5_size]; exact zL _) (fun k hlt ho => set5_other (hk k hlt ho).1) fun k hlt ho => (hk k hlt ho).2
end
theorem deep_leaf (w : World) (ok : Nat → Prop) (k p : Int) (s : ByteArray) : DeepN w ok [nd k p s [] []] :=
 DeepN.one ⟨⟨SlC.nil _ _ _, zL _⟩, SlC.nil _ _ _, zL _⟩ (DeepN.nil _ _)
theorem er1_nd (k p : Int) (s : ByteArray) (ws : List Wd) : er1 (nd k p s ws []) = nd k p s ws [] := by simp [er1, nd, Nd.k, Nd.p, Nd.s, Nd.ws, Nd.ks, TM.er]
theorem nodeV_leaf (w : World) (s0 : Nat) (k p : Int) (s : ByteArray) : NodeV w s0 (nd k p s [] []) (.agg #[.int .i64 k, .int .i64 p, .string s, .slice none 0 0, .slice none 0 0]) := ⟨nd k p s [] [], rfl, er1_nd _ _ _ _, deep_leaf _ _ _ _ _⟩
theorem nodeV_names {w : World} {s0 : Nat} {k p : Int} {s : ByteArray} {ws : List Wd} {X : Option Addr} {d : Nat} (_ : True) (hd : ws.length ≤ d) (h : SlC w (fun k => s0 ≤ k) X (wcs ws)) : NodeV w s0 (nd k p s ws []) (.agg #[.int .i64 k, .int .i64 p, .string s, .slice X ws.length d, .slice none 0 0]) :=
 ⟨.mk k p s X d ws none 0 [], rfl, by simp [er1, nd, Nd.k, Nd.p, Nd.s, Nd.ws, Nd.ks, TM.er], DeepN.one ⟨⟨h, hd⟩, SlC.nil _ _ _, zL _⟩ (DeepN.nil _ _)⟩
theorem nodeV_kids {w : World} {s0 : Nat} {k p : Int} {s : ByteArray} {zs : List Nd} {X : Option Addr} {d : Nat} (hd : zs.length ≤ d) (h : SlC w (fun k => s0 ≤ k) X (ncs zs)) (h2 : DeepN w (fun k => s0 ≤ k) zs) : NodeV w s0 (nd k p s [] (TM.er zs)) (.agg #[.int .i64 k, .int .i64 p, .string s, .slice none 0 0, .slice X zs.length d]) :=
 ⟨.mk k p s none 0 [] X d zs, rfl, by simp [er1, nd, Nd.k, Nd.p, Nd.s, Nd.ws, Nd.ks], DeepN.one ⟨⟨SlC.nil _ _ _, zL _⟩, h, hd⟩ h2⟩
theorem var_step {l : List Tr} {i e : Int} {f : Option Int} {x : Wd} {i2 : Int} {f2 : Option Int} (h : Step nameR l i e f x i2 f2) : Step varR l i e f (nd 1 x.p x.s [] []) i2 f2 := by
 have h2 := h.map (fun x : Wd => nd 1 x.p x.s [] [])
 exact h2
theorem variable_any (N : Nat) : Reads 134 NodeV varR N := by
 intro w b A c l i e f h hN
 have hbw := h.lt
 have HM0 : Hid (Mv b w (w.alloc (.cells #[.int .i64 0, .int .i64 0, .string ⟨#[]⟩, .slice none 0 0, .slice none 0 0] 28))) := (Mv.refl b w).alloc hbw _
 have HG := zh (RowAt.new w 28 #[.int .i64 0, .int .i64 0, .string ⟨#[]⟩, .slice none 0 0, .slice none 0 0])
 have HT := zh (name_any (nodes (rest l i)).length _ b A c l i e f (h.mv HM0.out (h.at_.alloc _)) (zL _))
 clear h
 refine calls_hid fun Q' hQ => ?_
 have HQ := zh hQ; clear hQ
 go_enter Tryz.func134, Tryz.ntmps134
 go_wp2_with fail
 refine HT.out.mono ?_
 rintro e' w1 ⟨v, ⟨s, p⟩, i2, f2, rfl, rfl, hs, hm, hst⟩
 have HG1 := HG.out.mv hm (Nat.ne_of_gt hbw)
 have hsz := HG1.lt
 have HS1 := zh hs
 have HM1 := zh (HM0.out.trans hm)
 have hn5 := RowAt.new w1 23 #[.string s, .int .i64 p]
 have HST := zh (var_step hst)
 obtain ⟨g0, g1, g2, g3, g4, u0, u1, u2, u3, u4⟩ := row5 HG1
 obtain ⟨m0, m1, _, _⟩ := row2 hn5
 have HG2 := zh HG1
 clear hs hm hst HG1 hn5
 unfold wv
 go_wp2_with fail
 change bodyPost _ _ _ _ _ ((set5 w1 w.heap.size (.int .i64 1) (.int .i64 p) (.string s) (.slice none 0 0) (.slice none 0 0)).alloc (.cells #[.string s, .int .i64 p] 23))
 have hgf := (set5_row (a0 := .int .i64 1) (b0 := .int .i64 p) (c0 := .string s) (d0 := .slice none 0 0) (e0 := .slice none 0 0) HG2.out).alloc (.cells #[.string s, .int .i64 p] 23)
 exact bodyPost_ret (ret_cell rfl _ _ w.heap.size _ _ (0, 0) _ rfl hgf Tryz.underlying28 rfl (node_info _ _ _ _ _)) rfl (HQ.out _ _ ⟨_, nd 1 p s [] [], i2, f2, rfl, nodeV_leaf _ _ _ _ _, (set5_rs HS1.out hbw).alloc _,
  (set5_mv HM1.out (zL _) hbw).alloc hbw _, HST.out⟩)
def KeepR (g3 g2 : Nat) (w0' : World) (b : Nat) (s : ByteArray) (p : Int) (w : World) : Prop :=
 RowAt w g3 23 #[.string s, .int .i64 p] ∧ RowAt w g2 28 #[.int .i64 0, .int .i64 0, .string ⟨#[]⟩, .slice none 0 0, .slice none 0 0] ∧ Mv b w0' w ∧ w0'.heap.size ≤ g2 ∧ w0'.heap.size ≤ g3
theorem KeepR.mv {g3 g2 : Nat} {w0' w w' : World} {b : Nat} {s : ByteArray} {p : Int} (h : KeepR g3 g2 w0' b s p w) (hb : b < w0'.heap.size) (hm : Mv b w w') : KeepR g3 g2 w0' b s p w' :=
 ⟨h.1.mv hm (by have := h.2.2.2.2; omega), h.2.1.mv hm (by have := h.2.2.2.1; omega), h.2.2.1.trans hm, h.2.2.2.1, h.2.2.2.2⟩
theorem setRow_mv {b g : Nat} {w w' : World} (h : Mv b w w') (hb : b < w.heap.size) (hg : w.heap.size ≤ g) (cs : Array Value) : Mv b w (w'.setRow g cs) := h.setRow (.inr hg) hb cs
theorem setRow_rs {w : World} {b g : Nat} {A : Option Addr} {c : Nat} {l : List Tr} {i e : Int} {f : Option Int} (h : Rs w b A c l i e f) (hg : b < g) (cs : Array Value) : Rs (w.setRow g cs) b A c l i e f :=
 h.low (B := b + 1) (below_setRow (by omega) cs) (zS b)
theorem setRow_slc {w : World} {g : Nat} {ok ok' : Nat → Prop} {A : Option Addr} {cs : List Value} (h : SlC w ok A cs) (ds : Array Value) (hk : ∀ k, k < w.heap.size → ok k → k ≠ g ∧ ok' k) : SlC (w.setRow g ds) ok' A cs :=
 h.keep (below_setRow (B := 0) (Nat.zero_le _) ds).size (fun k hlt ho => setRow_other w g k ds (hk k hlt ho).1) fun k hlt ho => (hk k hlt ho).2
theorem setRow_deep {w : World} {g : Nat} {ok ok' : Nat → Prop} {zs : List Nd} (h : DeepN w ok zs) (ds : Array Value) (hk : ∀ k, k < w.heap.size → ok k → k ≠ g ∧ ok' k) : DeepN (w.setRow g ds) ok' zs :=
 h.keep (below_setRow (B := 0) (Nat.zero_le _) ds).size (fun k hlt ho => setRow_other w g k ds (hk k hlt ho).1) fun k hlt ho => (hk k hlt ho).2
theorem rule_step {l : List Tr} {i e : Int} {f : Option Int} {x : Wd} {t : Tk} {ws : List Wd} {i2 i3 i4 : Int} {f2 f3 f4 : Option Int} (h : Step nameR l i e f x i2 f2) (h2 : Step (takeR 58) l i2 e f2 t i3 f3) (h3 : Step setR l i3 e f3 ws i4 f4) :
 Step ruleR l i e f (nd 6 x.p x.s ws []) i4 f4 := by
 have e1 := h3.map (fun ws => nd 6 x.p x.s ws [])
 have e2 := Step.bind (rd2 := fun _ ts e => bnd (setR ts e) fun ws r3 => .ok (nd 6 x.p x.s ws [], r3)) h2 e1
 exact Step.bind (rd2 := fun w ts e => bnd (takeR 58 ts e) fun _ r2 => bnd (setR r2 e) fun ws r3 => .ok (nd 6 w.p w.s ws [], r3)) h e2
theorem rule_any (N : Nat) : Reads 153 NodeV ruleR N := by
 intro w b A c l i e f h hN
 have hbw := h.lt
 have HM0 : Hid (Mv b w (w.alloc (.cells #[.int .i64 0, .int .i64 0, .string ⟨#[]⟩, .slice none 0 0, .slice none 0 0] 28))) := (Mv.refl b w).alloc hbw _
 have HG := zh (RowAt.new w 28 #[.int .i64 0, .int .i64 0, .string ⟨#[]⟩, .slice none 0 0, .slice none 0 0])
 have HT := zh (name_any (nodes (rest l i)).length _ b A c l i e f (h.mv HM0.out (h.at_.alloc _)) (zL _))
 clear h
 refine calls_hid fun Q' hQ => ?_
 have HQ := zh hQ; clear hQ
 go_enter Tryz.func153, Tryz.ntmps153
 go_wp2_with fail
 refine HT.out.mono ?_
 rintro e' w1 ⟨v, ⟨s, p⟩, i2, f2, rfl, rfl, hs, hm, hst⟩
 have HG1 := HG.out.mv hm (Nat.ne_of_gt hbw)
 have hsz := HG1.lt
 have HS1 := zh (hs.alloc (.cells #[.string s, .int .i64 p] 23))
 have HM1 := zh ((HM0.out.trans hm).alloc hbw (.cells #[.string s, .int .i64 p] 23))
 have HK1 : Hid (KeepR w1.heap.size w.heap.size w b s p (w1.alloc (.cells #[.string s, .int .i64 p] 23))) := ⟨RowAt.new w1 _ _, HG1.alloc _, HM1.out, zL _, Nat.le_of_lt hsz⟩
 have HST := zh hst
 have HTK := zh (take_any HS1.out 58 (by decide))
 have hn5 := RowAt.new w1 23 #[.string s, .int .i64 p]
 obtain ⟨m0, m1, _, _⟩ := row2 hn5
 have HSZ := zh hsz
 clear hs hm hst HG1 hn5 HM1 HS1
 unfold wv
 go_wp2_with fail
 refine HTK.out.mono ?_
 rintro e' w2 ⟨t, i3, f3, rfl, hs2, hm2, hst2⟩
 have HK2 := zh (HK1.out.mv hbw hm2)
 have HS2 := zh hs2
 have HST2 := zh hst2
 clear hs2 hm2 hst2 m0 m1 HK1 HTK
 go_upto_region 3 with fail
 obtain ⟨S, hSe⟩ : ∃ S : World → Prop, S = fun w' => RowAt w' w1.heap.size 23 #[.string s, .int .i64 p] := ⟨_, rfl⟩
 have HS : Hid (S w2.drew) := by rw [hSe]; exact zh HK2.out.1.drew
 have C0 : ∀ w', S w' → w'.cell? ⟨w1.heap.size, 0, none⟩ = some (.string s) := fun w' h => by rw [hSe] at h; exact (RowAt.cell h 0).trans rfl
 have C1 : ∀ w', S w' → w'.cell? ⟨w1.heap.size, 1, none⟩ = some (.int .i64 p) := fun w' h => by rw [hSe] at h; exact (RowAt.cell h 1).trans rfl
 have HC := zh (set_any (w := w2.drew) (HS2.out.dr (w' := w2.drew) ⟨1, rfl⟩))
 refine wp_region_ord S [(0, true), (1, true), (2, true), (3, true), (4, true), (5, false), (6, true), (7, false)] (by kernel_rfl) (by kernel_rfl) rfl (by kernel_rfl) HS.out ?_
 iterate 5
  (refine wpOrd_step (zO rfl) ?_)
  (first
        | (refine wpOrd_skip (by rfl) ?_)
        | (refine wpOrd_take (v := ?_) (by rfl) ?_ ?_; rotate_left 1; (intro wx hSx; have hc_0 := C0 wx hSx; have hc_1 := C1 wx hSx; go_simp; try with_reducible rfl)))
  (try simp only [Act.put, zA4, zA5, zA6])
 (refine wpOrd_solo (zO rfl) ?_)
 intro K hK
 go_simp
 go_at_call 150
 refine HC.out.mono ?_
 rintro e' w3 ⟨v, ws, i4, f4, rfl, ⟨X, d, rfl, hd, hsl⟩, hs3, hm3, hst3⟩
 have HK3 := zh (HK2.out.mv hbw (((Mv.refl b w2).drew).trans hm3))
 have hS3 : S w3 := by rw [hSe]; exact HK3.out.1
 refine hK.out _ _ hS3 ?_
 clear HS hK K
 have HS := zh hS3
 have HG3 : Hid (RowAt w3 w.heap.size 28 #[.int .i64 0, .int .i64 0, .string ⟨#[]⟩, .slice none 0 0, .slice none 0 0]) := HK3.out.2.1
 have HM3 : Hid (Mv b w w3) := HK3.out.2.2.1
 have HS4 := zh hs3
 have HZ3 : Hid (w.heap.size < w2.heap.size) := HK2.out.2.1.lt
 have HSS := zh (rule_step HST.out HST2.out hst3)
 clear hs3 hm3 hst3 hS3
 iterate 1
  (refine wpOrd_step (zO rfl) ?_)
  (first
        | (refine wpOrd_skip (by rfl) ?_)
        | (refine wpOrd_take (v := ?_) (by rfl) ?_ ?_; rotate_left 1; (intro wx hSx; have hc_0 := C0 wx hSx; have hc_1 := C1 wx hSx; go_simp; try with_reducible rfl)))
  (try simp only [Act.put, zA4, zA5, zA6])
 (refine wpOrd_solo (zO rfl) ?_)
 intro K hK
 rw [if_pos (by rfl)]
 refine wp_store_row _ _ _ rfl w.heap.size #[.int .i64 6, .int .i64 p, .string s, (.slice X ws.length d), (.slice none 0 0)] rfl rfl _ _ HG3.out (node_info _ _ _ _ _) rfl (by simp [Value.oneCell']) ?_
 have hrow := HG3.out.setRow #[.int .i64 6, .int .i64 p, .string s, (.slice X ws.length d), (.slice none 0 0)]
 have hS4 : S (w3.setRow w.heap.size #[.int .i64 6, .int .i64 p, .string s, (.slice X ws.length d), (.slice none 0 0)]) := by
  have h := HS.out
  rw [hSe] at h ⊢
  exact (setRow_other w3 w.heap.size w1.heap.size _ (Nat.ne_of_gt HSZ.out)).trans h
 refine hK.out _ _ hS4 ?_
 clear hK K
 simp only [Act.put]
 refine wpOrd_done ?_
 go_wp2
 exact bodyPost_ret (ret_cell rfl _ _ w.heap.size _ _ (0, 0) _ rfl hrow Tryz.underlying28 rfl (node_info _ _ _ _ _)) rfl (HQ.out _ _ ⟨_, (nd 6 p s ws []), i4, f4, rfl, (nodeV_names trivial hd (setRow_slc hsl _ fun k _ hk => ⟨by have h1 := HZ3.out; have h2 : w2.heap.size ≤ k := hk; omega, by have h1 := HZ3.out; have h2 : w2.heap.size ≤ k := hk; omega⟩)), setRow_rs HS4.out hbw _, setRow_mv HM3.out hbw (zL _) _, HSS.out⟩)
end
section
open Go.RowKit LX TR TM
def BoxN (b r g : Nat) (k p : Int) (s0 : ByteArray) (w : World) (x : List Nd) : Prop :=
 (∃ A c zs, TM.er zs = x ∧ zs.length ≤ c ∧ RowAt w g 28 #[.int .i64 k, .int .i64 p, .string s0, .slice none 0 0, .slice A zs.length c] ∧ SlC w (fun k => g < k) A (ncs zs) ∧ DeepN w (fun k => g < k) zs) ∧ RowAt w r 139 #[.pointer (some ⟨b, 0, none⟩)]
theorem size_of_block {wa wb : World} {k : Nat} (hk : k < wa.heap.size) (h : wb.heap[k]? = wa.heap[k]?) : k < wb.heap.size := by
 rw [Array.getElem?_eq_getElem hk] at h
 exact (Array.getElem?_eq_some_iff.1 h).1
theorem SlC.keep9 {wa wb : World} {ok : Nat → Prop} {A : Option Addr} {cs : List Value} (h : SlC wa ok A cs) (hk : ∀ k, k < wa.heap.size → ok k → wb.heap[k]? = wa.heap[k]?) : SlC wb ok A cs := fun hne => by
 obtain ⟨b', o, hA, hlt, hok, hc⟩ := h hne
 have hs := hk b' hlt hok
 exact ⟨b', o, hA, size_of_block hlt hs, hok, fun j u hu => (World.cell?_of_block (a := ⟨b', o + j, none⟩) hs).trans (hc j u hu)⟩
theorem DeepN.keep9 {wa wb : World} {ok : Nat → Prop} {l : List Nd} (h : DeepN wa ok l) (hk : ∀ k, k < wa.heap.size → ok k → wb.heap[k]? = wa.heap[k]?) : DeepN wb ok l := fun x hx =>
 ⟨⟨(h x hx).1.1.keep9 hk, (h x hx).1.2⟩, (h x hx).2.1.keep9 hk, (h x hx).2.2⟩
theorem BoxN.keep {b r g : Nat} {k p : Int} {s0 : ByteArray} {wa wb : World} {x : List Nd} (h : BoxN b r g k p s0 wa x) (hr : r ≠ b) (hb : b < g) (hk : ∀ k, k < wa.heap.size → k ≠ b → wb.heap[k]? = wa.heap[k]?) : BoxN b r g k p s0 wb x := by
 obtain ⟨⟨A, c, zs, h0, h1, h2, h3, h5⟩, h4⟩ := h
 exact ⟨⟨A, c, zs, h0, h1, (hk g h2.lt (by omega)).trans h2, h3.keep9 fun k hlt hok => hk k hlt (by omega), h5.keep9 fun k hlt hok => hk k hlt (by omega)⟩, (hk r h4.lt hr).trans h4⟩
theorem const1_in {x0 : List Nd} {rd : Rdr Nd} (N b r g : Nat) (k p : Int) (s0 : ByteArray) (hb : b < g) (hr : r ≠ b) (hrg : r ≠ g) (hN : N ≤ 4294967296) (HF : Reads 148 NodeV rd N) : Content 151 #[.pointer (some ⟨r, 0, none⟩), .pointer (some ⟨g, 0, none⟩)] (BoxN b r g k p s0) (someR rd) b g N x0 := by
 intro w A c l e hv h hNl
 obtain ⟨⟨A0, c0, zs0, _, _, hg0, _, _⟩, hr0⟩ := hv
 have r0 := (hr0.cell 0).trans rfl
 have hll := length_nodes l
 have HC := zh (listN_any (fun _ _ => by kernel_rfl) HF h (by simpa [rest] using hNl) (by omega))
 have hbw := h.lt
 have hgw := hg0.lt
 have HG0 := zh hg0
 have HR0 := zh hr0
 clear h hg0 hr0
 go_enter Tryz.func151, Tryz.ntmps151
 go_wp2_with fail
 refine HC.out.mono ?_
 rintro e' w1 ⟨v, x, i2, f2, rfl, ⟨X, d, zs, rfl, hd, rfl, hsl, hdp⟩, hs, hm, hst⟩
 have HG1 := zh (HG0.out.mv hm (by omega))
 have HR1 := zh (HR0.out.mv hm (by omega))
 have g4 := (HG1.out.cell 4).trans rfl
 have u4 := HG1.out.free 4
 have HS1 := zh hs
 have HM1 := zh hm
 have HST := zh hst
 have hoth : ∀ k, k ≠ g → (w1.setCell ⟨g, 4, none⟩ (.slice X zs.length d)).heap[k]? = w1.heap[k]? := fun k hk => by
  simp only [World.setCell, Array.getElem?_modify]
  rw [if_neg (Ne.symm hk)]
 have HSL : Hid (SlC (w1.setCell ⟨g, 4, none⟩ (.slice X zs.length d)) (fun k => g < k) X (ncs zs)) := hsl.keep (by simp [World.setCell]) (fun k _ hk => hoth k (by omega)) fun k _ hk => by omega
 have HDP : Hid (DeepN (w1.setCell ⟨g, 4, none⟩ (.slice X zs.length d)) (fun k => g < k) zs) := hdp.keep (by simp [World.setCell]) (fun k _ hk => hoth k (by omega)) fun k _ hk => by omega
 have HOT := zh hoth
 clear hs hm hst hsl hdp hoth
 go_wp2_with fail
 go_end0
 exact ⟨TM.er zs, i2, f2, rfl, ⟨⟨X, d, zs, rfl, hd, HG1.out.put 4 _, HSL.out, HDP.out⟩, HR1.out.far (p := ⟨g, 4, none⟩) (Ne.symm hrg) _⟩, HS1.out.far (by omega), HM1.out.low.setCell (p := ⟨g, 4, none⟩) (by show b ≤ g; omega) _,
  fun k hk h1 h2 => (HOT.out k h2).trans (HM1.out.block k hk h1), HST.out⟩
theorem const2_in {x0 : List Nd} {rd : Rdr Nd} (N b r g : Nat) (k p : Int) (s0 : ByteArray) (hb : b < g) (hr : r ≠ b) (hrg : r ≠ g) (hN : N ≤ 4294967296) (HF : Reads 153 NodeV rd N) : Content 152 #[.pointer (some ⟨r, 0, none⟩), .pointer (some ⟨g, 0, none⟩)] (BoxN b r g k p s0) (optR rd) b g N x0 := by
 intro w A c l e hv h hNl
 obtain ⟨⟨A0, c0, zs0, _, _, hg0, _, _⟩, hr0⟩ := hv
 have r0 := (hr0.cell 0).trans rfl
 have hll := length_nodes l
 have HC := zh (optN_any (fun _ _ => by kernel_rfl) HF h (by simpa [rest] using hNl) (by omega))
 have hbw := h.lt
 have hgw := hg0.lt
 have HG0 := zh hg0
 have HR0 := zh hr0
 clear h hg0 hr0
 go_enter Tryz.func152, Tryz.ntmps152
 go_wp2_with fail
 refine HC.out.mono ?_
 rintro e' w1 ⟨v, x, i2, f2, rfl, ⟨X, d, zs, rfl, hd, rfl, hsl, hdp⟩, hs, hm, hst⟩
 have HG1 := zh (HG0.out.mv hm (by omega))
 have HR1 := zh (HR0.out.mv hm (by omega))
 have g4 := (HG1.out.cell 4).trans rfl
 have u4 := HG1.out.free 4
 have HS1 := zh hs
 have HM1 := zh hm
 have HST := zh hst
 have hoth : ∀ k, k ≠ g → (w1.setCell ⟨g, 4, none⟩ (.slice X zs.length d)).heap[k]? = w1.heap[k]? := fun k hk => by
  simp only [World.setCell, Array.getElem?_modify]
  rw [if_neg (Ne.symm hk)]
 have HSL : Hid (SlC (w1.setCell ⟨g, 4, none⟩ (.slice X zs.length d)) (fun k => g < k) X (ncs zs)) := hsl.keep (by simp [World.setCell]) (fun k _ hk => hoth k (by omega)) fun k _ hk => by omega
 have HDP : Hid (DeepN (w1.setCell ⟨g, 4, none⟩ (.slice X zs.length d)) (fun k => g < k) zs) := hdp.keep (by simp [World.setCell]) (fun k _ hk => hoth k (by omega)) fun k _ hk => by omega
 have HOT := zh hoth
 clear hs hm hst hsl hdp hoth
 go_wp2_with fail
 go_end0
 exact ⟨TM.er zs, i2, f2, rfl, ⟨⟨X, d, zs, rfl, hd, HG1.out.put 4 _, HSL.out, HDP.out⟩, HR1.out.far (p := ⟨g, 4, none⟩) (Ne.symm hrg) _⟩, HS1.out.far (by omega), HM1.out.low.setCell (p := ⟨g, 4, none⟩) (by show b ≤ g; omega) _,
  fun k hk h1 h2 => (HOT.out k h2).trans (HM1.out.block k hk h1), HST.out⟩
theorem bound1_in {x0 : List Nd} {rd : Rdr Nd} (N b r g : Nat) (k p : Int) (s0 : ByteArray) (hb : b < g) (hr : r ≠ b) (hrg : r ≠ g) (hN : N ≤ 4294967296) (HF : Reads 125 NodeV rd N) : Content 146 #[.pointer (some ⟨r, 0, none⟩), .pointer (some ⟨g, 0, none⟩)] (BoxN b r g k p s0) (someR rd) b g N x0 := by
 intro w A c l e hv h hNl
 obtain ⟨⟨A0, c0, zs0, _, _, hg0, _, _⟩, hr0⟩ := hv
 have r0 := (hr0.cell 0).trans rfl
 have hll := length_nodes l
 have HC := zh (listN_any (fun _ _ => by kernel_rfl) HF h (by simpa [rest] using hNl) (by omega))
 have hbw := h.lt
 have hgw := hg0.lt
 have HG0 := zh hg0
 have HR0 := zh hr0
 clear h hg0 hr0
 go_enter Tryz.func146, Tryz.ntmps146
 go_wp2_with fail
 refine HC.out.mono ?_
 rintro e' w1 ⟨v, x, i2, f2, rfl, ⟨X, d, zs, rfl, hd, rfl, hsl, hdp⟩, hs, hm, hst⟩
 have HG1 := zh (HG0.out.mv hm (by omega))
 have HR1 := zh (HR0.out.mv hm (by omega))
 have g4 := (HG1.out.cell 4).trans rfl
 have u4 := HG1.out.free 4
 have HS1 := zh hs
 have HM1 := zh hm
 have HST := zh hst
 have hoth : ∀ k, k ≠ g → (w1.setCell ⟨g, 4, none⟩ (.slice X zs.length d)).heap[k]? = w1.heap[k]? := fun k hk => by
  simp only [World.setCell, Array.getElem?_modify]
  rw [if_neg (Ne.symm hk)]
 have HSL : Hid (SlC (w1.setCell ⟨g, 4, none⟩ (.slice X zs.length d)) (fun k => g < k) X (ncs zs)) := hsl.keep (by simp [World.setCell]) (fun k _ hk => hoth k (by omega)) fun k _ hk => by omega
 have HDP : Hid (DeepN (w1.setCell ⟨g, 4, none⟩ (.slice X zs.length d)) (fun k => g < k) zs) := hdp.keep (by simp [World.setCell]) (fun k _ hk => hoth k (by omega)) fun k _ hk => by omega
 have HOT := zh hoth
 clear hs hm hst hsl hdp hoth
 go_wp2_with fail
 go_end0
 exact ⟨TM.er zs, i2, f2, rfl, ⟨⟨X, d, zs, rfl, hd, HG1.out.put 4 _, HSL.out, HDP.out⟩, HR1.out.far (p := ⟨g, 4, none⟩) (Ne.symm hrg) _⟩, HS1.out.far (by omega), HM1.out.low.setCell (p := ⟨g, 4, none⟩) (by show b ≤ g; omega) _,
  fun k hk h1 h2 => (HOT.out k h2).trans (HM1.out.block k hk h1), HST.out⟩
end
section
open Go.RowKit LX TR TM
theorem run_word0 (s : ByteArray) (p : Int) (w : World) : (Instr.field 23 (.agg #[.string s, .int .i64 p]) 0).run Tryz.prog w = .ok (.string s) w := by kernel_rfl
theorem run_tok2 (k : Int) (s : ByteArray) (p : Int) (w : World) : (Instr.field 78 (.agg #[.int .u8 k, .string s, .int .i64 p]) 2).run Tryz.prog w = .ok (.int .i64 p) w := by kernel_rfl
theorem SlC.setCell9 {w : World} {ok : Nat → Prop} {A : Option Addr} {cs : List Value} (h : SlC w ok A cs) {p : Addr} (hk : ∀ k, ok k → k ≠ p.block) (u : Value) : SlC (w.setCell p u) ok A cs :=
 h.keep9 fun k _ ho => by
  simp only [World.setCell, Array.getElem?_modify]
  rw [if_neg (Ne.symm (hk k ho))]
theorem kind_head {ts : List Tr} {f : Option Int} {k : Nat} (h : kindOf ts f = k) (hk : 0 < k) : f = none ∧ ∃ x r, ts = x :: r ∧ x.t.k = k := by
 cases f with
 | some p => cases ts <;> simp only [kindOf] at h <;> omega
 | none =>
   cases ts with
   | nil => simp only [kindOf] at h; omega
   | cons x r => exact ⟨rfl, x, r, rfl, h⟩
section
variable {d : Nat} {l : List Tr} {i e : Int} {f : Option Int} {i2 : Int} {f2 : Option Int}
theorem const_point {x : Wd} (hk : kindOf (rest l i) f = 97) (h : Step nameR l i e f x i2 f2) : Step (constR (d + 1)) l i e f (nd 2 (offOf (rest l i) e) x.s [] []) i2 f2 := by
 obtain ⟨rfl, y, r, hr, hy⟩ := kind_head hk (by decide)
 rcases h.cases with ⟨p, h1, ⟨_, h2⟩ | h2⟩ | ⟨_, rfl, h2⟩
 ·rw [hr] at h2; unfold nameR at h2; rw [takeR_hit hy] at h2; cases h2
 ·cases h2
 ·rw [hr] at h2
  unfold nameR at h2
  rw [takeR_hit hy] at h2
  simp only [bnd, Except.ok.injEq, Prod.mk.injEq] at h2
  obtain ⟨rfl, h2⟩ := h2
  refine Step.ok h.1 ?_
  rw [hr]
  simp only [constR]
  rw [if_pos hy, h2]; rfl
theorem const_set {ws : List Wd} (hk : kindOf (rest l i) f = 123) (h : Step setR l i e f ws i2 f2) : Step (constR (d + 1)) l i e f (nd 3 (offOf (rest l i) e) e0 ws []) i2 f2 := by
 obtain ⟨rfl, y, r, hr, hy⟩ := kind_head hk (by decide)
 refine Step.of_eq (h.map fun ws => nd 3 (offOf (rest l i) e) e0 ws []) ?_
 rw [hr]
 simp only [constR]
 rw [if_neg (by omega), if_pos hy]; rfl
theorem const_tuple {ks : List Nd} (hk : kindOf (rest l i) f = 40) (h : Step (withinR 40 (someR (constR d))) l i e f ks i2 f2) : Step (constR (d + 1)) l i e f (nd 4 (offOf (rest l i) e) e0 [] ks) i2 f2 := by
 obtain ⟨rfl, y, r, hr, hy⟩ := kind_head hk (by decide)
 refine Step.of_eq (h.map fun ks => nd 4 (offOf (rest l i) e) e0 [] ks) ?_
 rw [hr]
 simp only [constR]
 rw [if_neg (by omega), if_neg (by omega), if_pos hy]; rfl
theorem const_grid {ks : List Nd} (hk : kindOf (rest l i) f = 91) (h : Step (withinR 91 (optR ruleR)) l i e f ks i2 f2) : Step (constR (d + 1)) l i e f (nd 5 (offOf (rest l i) e) e0 [] ks) i2 f2 := by
 obtain ⟨rfl, y, r, hr, hy⟩ := kind_head hk (by decide)
 refine Step.of_eq (h.map fun ks => nd 5 (offOf (rest l i) e) e0 [] ks) ?_
 rw [hr]
 simp only [constR]
 rw [if_neg (by omega), if_neg (by omega), if_neg (by omega), if_pos hy]; rfl
theorem const_none {x : Nd} (h1 : kindOf (rest l i) f ≠ 97) (h2 : kindOf (rest l i) f ≠ 123) (h3 : kindOf (rest l i) f ≠ 40) (h4 : kindOf (rest l i) f ≠ 91) : Step (constR (d + 1)) l i e f x i (failed l i e f) := by
 cases f with
 | some p => exact Step.bad (Adv.refl _ _)
 | none =>
   refine Step.fault (Adv.refl _ _) ?_
   cases hr : rest l i with
   | nil => rfl
   | cons y r =>
     rw [hr] at h1 h2 h3 h4
     have q1 : ¬ y.t.k = 97 := h1
     have q2 : ¬ y.t.k = 123 := h2
     have q3 : ¬ y.t.k = 40 := h3
     have q4 : ¬ y.t.k = 91 := h4
     simp only [constR]
     rw [if_neg q1, if_neg q2, if_neg q3, if_neg q4]; rfl
end
theorem constant_step (d : Nat) (hd : d ≤ 4294967296) (ih : ∀ d', d = d' + 1 → Reads 148 NodeV (constR d) d') : Reads 148 NodeV (constR (d + 1)) d := by
 intro w b A c l i e f h hN
 have hmf : ∀ (fn : Fn) (first cap : Array Value) (w : World), (Instr.makeFunc fn first cap).run Tryz.prog w = .ok (.func fn first cap) w := fun _ _ _ _ => rfl
 have hbw := h.lt
 have hr0 := (RowAt.new w 139 #[.pointer (some ⟨b, 0, none⟩)]).alloc (.cells #[.int .i64 0, .int .i64 0, .string ⟨#[]⟩, .slice none 0 0, .slice none 0 0] 28)
 have hg0 := RowAt.new (w.alloc (.cells #[.pointer (some ⟨b, 0, none⟩)] 139)) 28 #[.int .i64 0, .int .i64 0, .string ⟨#[]⟩, .slice none 0 0, .slice none 0 0]
 rw [show (w.alloc (.cells #[.pointer (some ⟨b, 0, none⟩)] 139)).heap.size = w.heap.size + 1 by simp] at hg0
 have hbz : Below w.heap.size w ((w.alloc (.cells #[.pointer (some ⟨b, 0, none⟩)] 139)).alloc (.cells #[.int .i64 0, .int .i64 0, .string ⟨#[]⟩, .slice none 0 0, .slice none 0 0] 28)) := ((zB _ _).alloc (zL _) _).alloc (by simp) _
 have HS0 := zh (h.below hbz)
 have HM0 := zh (Mv.below hbw hbz)
 have HO := zh (offset_any HS0.out)
 have HIH := zh ih; clear ih
 have HR0 := zh hr0
 have HG0 := zh hg0
 have r0 := (hr0.cell 0).trans rfl
 have hzz : ((w.alloc (.cells #[.pointer (some ⟨b, 0, none⟩)] 139)).alloc (.cells #[.int .i64 0, .int .i64 0, .string ⟨#[]⟩, .slice none 0 0, .slice none 0 0] 28)).heap.size = w.heap.size + 2 := by simp
 have HZZ := zh hzz
 clear h hr0 hg0 hbz hzz
 refine calls_hid fun Q' hQ => ?_
 have HQ := zh hQ; clear hQ
 generalize hoff : offOf (rest l i) e = off at *
 have HOFF := zh hoff; clear hoff
 go_enter Tryz.func148, Tryz.ntmps148
 go_wp2_with fail
 refine HO.out.mono ?_
 rintro e' w1 ⟨rfl, hd1⟩
 have hz1 : w1.heap.size = w.heap.size + 2 := by obtain ⟨n, rfl⟩ := hd1; exact HZZ.out
 have HR1 := zh ((HR0.out.below hd1.below HR0.out.lt).alloc (.cells #[.int .i64 0, .int .i64 off, .string ⟨#[]⟩, .slice none 0 0, .slice none 0 0] 28))
 have HG1 := zh ((HG0.out.below hd1.below HG0.out.lt).alloc (.cells #[.int .i64 0, .int .i64 off, .string ⟨#[]⟩, .slice none 0 0, .slice none 0 0] 28))
 have hn1 := RowAt.new w1 28 #[.int .i64 0, .int .i64 off, .string ⟨#[]⟩, .slice none 0 0, .slice none 0 0]
 rw [hz1] at hn1
 have HN1 := zh hn1
 have HS1 := zh ((HS0.out.dr hd1).alloc (.cells #[.int .i64 0, .int .i64 off, .string ⟨#[]⟩, .slice none 0 0, .slice none 0 0] 28))
 have HM1 := zh ((HM0.out.dr hbw hd1).alloc hbw (.cells #[.int .i64 0, .int .i64 off, .string ⟨#[]⟩, .slice none 0 0, .slice none 0 0] 28))
 have hr1 := (HR0.out.below hd1.below HR0.out.lt)
 have r1 := (hr1.cell 0).trans rfl
 clear r0 HS0 HM0 HR0 HG0 HO hd1 hn1 HZZ hr1
 go_upto_region 2 with fail
 clear r1
 generalize w1.alloc (.cells #[.int .i64 0, .int .i64 off, .string ⟨#[]⟩, .slice none 0 0, .slice none 0 0] 28) = w2 at *
 have r1 := (HR1.out.cell 0).trans rfl
 have HK2 := zh (kind_any HS1.out)
 by_cases h97 : kindOf (rest l i) f = 97
 ·rw [h97] at HK2
  have HKK := zh h97; clear h97
  go_wp2_with fail
  refine HK2.out.mono ?_
  rintro e' w3 ⟨rfl, hd3⟩
  have HS3 := zh (HS1.out.dr hd3)
  have HM3 := zh (HM1.out.dr hbw hd3)
  have HR3 := zh (HR1.out.below hd3.below HR1.out.lt)
  have HG3 := zh (HG1.out.below hd3.below HG1.out.lt)
  have HN3 := zh (HN1.out.below hd3.below HN1.out.lt)
  have r3 := (HR3.out.cell 0).trans rfl
  have hzn : w.heap.size + 2 < w3.heap.size := HN3.out.lt
  clear hd3 HS1 HM1 HR1 HG1 HN1 r1
  have HC := zh (name_any (nodes (rest l i)).length _ b A c l i e f HS3.out (zL _))
  go_wp2_with fail
  refine HC.out.mono ?_
  rintro e' w4 ⟨v, ⟨s, p⟩, i2, f2, rfl, rfl, hs4, hm4, hst⟩
  have HS4 := zh hs4
  have HM4 := zh (HM3.out.trans hm4)
  have HG4 := zh (HG3.out.mv hm4 (by omega))
  have HN4 := zh (HN3.out.mv hm4 (by omega))
  have HST := zh (const_point (d := d) HKK.out hst)
  rw [HOFF.out] at HST
  obtain ⟨n0, n1, n2, n3, n4, v0, v1, v2, v3, v4⟩ := row5 HN4.out
  obtain ⟨g0, g1, g2, g3, g4, u0, u1, u2, u3, u4⟩ := row5 HG4.out
  have hw0 := run_word0 s p
  clear hs4 hm4 hst
  unfold wv
  go_wp2_with fail
  have HRF : Hid (RowAt (set5 ((w4.setCell ⟨w.heap.size + 2, 0, none⟩ (.int .i64 2)).setCell ⟨w.heap.size + 2, 2, none⟩ (.string s)) (w.heap.size + 1) (.int .i64 2) (.int .i64 off) (.string s) (.slice none 0 0) (.slice none 0 0)) (w.heap.size + 1) 28 #[.int .i64 2, .int .i64 off, .string s, (.slice none 0 0), (.slice none 0 0)]) := set5_row ((HG4.out.far (p := ⟨w.heap.size + 2, 0, none⟩) (by show w.heap.size + 2 ≠ w.heap.size + 1; omega) _).far (p := ⟨w.heap.size + 2, 2, none⟩) (by show w.heap.size + 2 ≠ w.heap.size + 1; omega) _)
  have HSF : Hid (Rs (set5 ((w4.setCell ⟨w.heap.size + 2, 0, none⟩ (.int .i64 2)).setCell ⟨w.heap.size + 2, 2, none⟩ (.string s)) (w.heap.size + 1) (.int .i64 2) (.int .i64 off) (.string s) (.slice none 0 0) (.slice none 0 0)) b A c l _ e _) := set5_rs ((HS4.out.far (by omega)).far (by omega)) (by omega)
  have HMF : Hid (Mv b w (set5 ((w4.setCell ⟨w.heap.size + 2, 0, none⟩ (.int .i64 2)).setCell ⟨w.heap.size + 2, 2, none⟩ (.string s)) (w.heap.size + 1) (.int .i64 2) (.int .i64 off) (.string s) (.slice none 0 0) (.slice none 0 0))) := set5_mv ((HM4.out.setCell (p := ⟨w.heap.size + 2, 0, none⟩) (.inr (by show w.heap.size ≤ w.heap.size + 2; omega)) hbw _).setCell (p := ⟨w.heap.size + 2, 2, none⟩) (.inr (by show w.heap.size ≤ w.heap.size + 2; omega)) hbw _) (by omega) hbw
  have HNF : Hid (NodeV (set5 ((w4.setCell ⟨w.heap.size + 2, 0, none⟩ (.int .i64 2)).setCell ⟨w.heap.size + 2, 2, none⟩ (.string s)) (w.heap.size + 1) (.int .i64 2) (.int .i64 off) (.string s) (.slice none 0 0) (.slice none 0 0)) w.heap.size (nd 2 off s [] []) (.agg #[.int .i64 2, .int .i64 off, .string s, (.slice none 0 0), (.slice none 0 0)])) := nodeV_leaf _ _ _ _ _
  change bodyPost _ _ _ _ _ (set5 ((w4.setCell ⟨w.heap.size + 2, 0, none⟩ (.int .i64 2)).setCell ⟨w.heap.size + 2, 2, none⟩ (.string s)) (w.heap.size + 1) (.int .i64 2) (.int .i64 off) (.string s) (.slice none 0 0) (.slice none 0 0))
  exact bodyPost_ret (ret_cell rfl _ _ (w.heap.size + 1) _ _ (0, 0) _ rfl HRF.out Tryz.underlying28 rfl (node_info _ _ _ _ _)) rfl (HQ.out _ _ ⟨_, (nd 2 off s [] []), _, _, rfl, HNF.out, HSF.out, HMF.out, HST.out⟩)
 ·by_cases h123 : kindOf (rest l i) f = 123
  ·rw [h123] at HK2
   have HKK := zh h123; clear h123 h97
   go_wp2_with fail
   refine HK2.out.mono ?_
   rintro e' w3 ⟨rfl, hd3⟩
   have HS3 := zh (HS1.out.dr hd3)
   have HM3 := zh (HM1.out.dr hbw hd3)
   have HR3 := zh (HR1.out.below hd3.below HR1.out.lt)
   have HG3 := zh (HG1.out.below hd3.below HG1.out.lt)
   have HN3 := zh (HN1.out.below hd3.below HN1.out.lt)
   have r3 := (HR3.out.cell 0).trans rfl
   have hzn : w.heap.size + 2 < w3.heap.size := HN3.out.lt
   clear hd3 HS1 HM1 HR1 HG1 HN1 r1
   have HC := zh (set_any HS3.out)
   go_wp2_with fail
   refine HC.out.mono ?_
   rintro e' w4 ⟨v, ws, i2, f2, rfl, ⟨X, dd, rfl, hdd, hsl⟩, hs4, hm4, hst⟩
   have HS4 := zh hs4
   have HM4 := zh (HM3.out.trans hm4)
   have HG4 := zh (HG3.out.mv hm4 (by omega))
   have HN4 := zh (HN3.out.mv hm4 (by omega))
   have HST := zh (const_set (d := d) HKK.out hst)
   rw [HOFF.out] at HST
   have HSL := zh hsl
   obtain ⟨n0, n1, n2, n3, n4, v0, v1, v2, v3, v4⟩ := row5 HN4.out
   obtain ⟨g0, g1, g2, g3, g4, u0, u1, u2, u3, u4⟩ := row5 HG4.out
   clear hs4 hm4 hst hsl
   go_wp2_with fail
   have HRF : Hid (RowAt (set5 ((w4.setCell ⟨w.heap.size + 2, 0, none⟩ (.int .i64 3)).setCell ⟨w.heap.size + 2, 3, none⟩ (.slice X ws.length dd)) (w.heap.size + 1) (.int .i64 3) (.int .i64 off) (.string ⟨#[]⟩) (.slice X ws.length dd) (.slice none 0 0)) (w.heap.size + 1) 28 #[.int .i64 3, .int .i64 off, .string ⟨#[]⟩, (.slice X ws.length dd), (.slice none 0 0)]) := set5_row ((HG4.out.far (p := ⟨w.heap.size + 2, 0, none⟩) (by show w.heap.size + 2 ≠ w.heap.size + 1; omega) _).far (p := ⟨w.heap.size + 2, 3, none⟩) (by show w.heap.size + 2 ≠ w.heap.size + 1; omega) _)
   have HSF : Hid (Rs (set5 ((w4.setCell ⟨w.heap.size + 2, 0, none⟩ (.int .i64 3)).setCell ⟨w.heap.size + 2, 3, none⟩ (.slice X ws.length dd)) (w.heap.size + 1) (.int .i64 3) (.int .i64 off) (.string ⟨#[]⟩) (.slice X ws.length dd) (.slice none 0 0)) b A c l _ e _) := set5_rs ((HS4.out.far (by omega)).far (by omega)) (by omega)
   have HMF : Hid (Mv b w (set5 ((w4.setCell ⟨w.heap.size + 2, 0, none⟩ (.int .i64 3)).setCell ⟨w.heap.size + 2, 3, none⟩ (.slice X ws.length dd)) (w.heap.size + 1) (.int .i64 3) (.int .i64 off) (.string ⟨#[]⟩) (.slice X ws.length dd) (.slice none 0 0))) := set5_mv ((HM4.out.setCell (p := ⟨w.heap.size + 2, 0, none⟩) (.inr (by show w.heap.size ≤ w.heap.size + 2; omega)) hbw _).setCell (p := ⟨w.heap.size + 2, 3, none⟩) (.inr (by show w.heap.size ≤ w.heap.size + 2; omega)) hbw _) (by omega) hbw
   have HNF : Hid (NodeV (set5 ((w4.setCell ⟨w.heap.size + 2, 0, none⟩ (.int .i64 3)).setCell ⟨w.heap.size + 2, 3, none⟩ (.slice X ws.length dd)) (w.heap.size + 1) (.int .i64 3) (.int .i64 off) (.string ⟨#[]⟩) (.slice X ws.length dd) (.slice none 0 0)) w.heap.size (nd 3 off e0 ws []) (.agg #[.int .i64 3, .int .i64 off, .string ⟨#[]⟩, (.slice X ws.length dd), (.slice none 0 0)])) := nodeV_names trivial hdd (set5_slc ((HSL.out.setCell9 (p := ⟨w.heap.size + 2, 0, none⟩) (fun k hk => by show k ≠ w.heap.size + 2; omega) _).setCell9 (p := ⟨w.heap.size + 2, 3, none⟩) (fun k hk => by show k ≠ w.heap.size + 2; omega) _) fun k _ hk => ⟨by omega, by omega⟩)
   change bodyPost _ _ _ _ _ (set5 ((w4.setCell ⟨w.heap.size + 2, 0, none⟩ (.int .i64 3)).setCell ⟨w.heap.size + 2, 3, none⟩ (.slice X ws.length dd)) (w.heap.size + 1) (.int .i64 3) (.int .i64 off) (.string ⟨#[]⟩) (.slice X ws.length dd) (.slice none 0 0))
   exact bodyPost_ret (ret_cell rfl _ _ (w.heap.size + 1) _ _ (0, 0) _ rfl HRF.out Tryz.underlying28 rfl (node_info _ _ _ _ _)) rfl (HQ.out _ _ ⟨_, (nd 3 off e0 ws []), _, _, rfl, HNF.out, HSF.out, HMF.out, HST.out⟩)
  ·by_cases h40 : kindOf (rest l i) f = 40
   ·rw [h40] at HK2
    have HKK := zh h40; clear h40 h97 h123
    obtain ⟨N9, h9⟩ : ∃ N9, d = N9 + 1 := by
     obtain ⟨_, y, r, hr, _⟩ := kind_head HKK.out (by decide)
     rw [hr] at hN
     have := length_nodes (y :: r)
     simp only [zA8] at this
     exact ⟨d - 1, by omega⟩
    have H9 : Hid (d = N9 + 1) := h9
    have HNN : Hid ((nodes (rest l i)).length ≤ N9 + 1) := by
     show _ ≤ N9 + 1
     omega
    have HEL := zh (HIH.out N9 h9)
    clear h9
    go_wp2_with fail
    refine HK2.out.mono ?_
    rintro e' w3 ⟨rfl, hd3⟩
    have HS3 := zh (HS1.out.dr hd3)
    have HM3 := zh (HM1.out.dr hbw hd3)
    have HR3 := zh (HR1.out.below hd3.below HR1.out.lt)
    have HG3 := zh (HG1.out.below hd3.below HG1.out.lt)
    have HN3 := zh (HN1.out.below hd3.below HN1.out.lt)
    have r3 := (HR3.out.cell 0).trans rfl
    have hzn : w.heap.size + 2 < w3.heap.size := HN3.out.lt
    clear hd3 HS1 HM1 HR1 HG1 HN1 r1
    have HS3' := zh (HS3.out.far (g := w.heap.size + 2) (j := 0) (u := .int .i64 4) (by omega))
    have HM3' := zh (HM3.out.setCell (p := ⟨w.heap.size + 2, 0, none⟩) (.inr (by show w.heap.size ≤ w.heap.size + 2; omega)) hbw (.int .i64 4))
    have HG3' := zh (HG3.out.far (p := ⟨w.heap.size + 2, 0, none⟩) (by show w.heap.size + 2 ≠ w.heap.size + 1; omega) (.int .i64 4))
    have HR3' := zh (HR3.out.far (p := ⟨w.heap.size + 2, 0, none⟩) (by show w.heap.size + 2 ≠ w.heap.size; omega) (.int .i64 4))
    have HN3' := zh (HN3.out.put 0 (.int .i64 4))
    have HB3 : Hid (BoxN b w.heap.size (w.heap.size + 2) 4 off ⟨#[]⟩ (w3.setCell ⟨w.heap.size + 2, 0, none⟩ (.int .i64 4)) []) := ⟨⟨none, 0, [], by simp [TM.er], zL _, HN3'.out, SlC.nil _ _ _, DeepN.nil _ _⟩, HR3'.out⟩
    have hz3 : (w3.setCell ⟨w.heap.size + 2, 0, none⟩ (.int .i64 4)).heap.size = w3.heap.size := by simp [World.setCell]
    have HW := zh (within_any (N := N9) 40 (by decide) (fun _ => by kernel_rfl) HS3'.out (by omega) (by omega) HNN.out (const1_in N9 b w.heap.size (w.heap.size + 2) 4 off ⟨#[]⟩ (by omega) (by omega) (by omega) (by have h9 := H9.out; omega) HEL.out) HB3.out (fun wa wb x hv hk => hv.keep (by omega) (by omega) hk))
    obtain ⟨n0, n1, n2, n3, n4, v0, v1, v2, v3, v4⟩ := row5 HN3.out
    go_wp2_with fail
    refine HW.out.mono ?_
    rintro e' w4 ⟨x, i2, f2, rfl, ⟨⟨X, dd, zs, rfl, hdd, hn4, hsl, hdp⟩, _⟩, hs4, hm4, hst⟩
    have HS4 := zh hs4
    have HM4 := zh (HM3'.out.fresh hbw hm4 (by omega))
    have HG4 : Hid (RowAt w4 (w.heap.size + 1) 28 #[.int .i64 0, .int .i64 0, .string ⟨#[]⟩, .slice none 0 0, .slice none 0 0]) := (hm4.block _ HG3'.out.lt (by omega) (by omega)).trans HG3'.out
    have HN4 := zh hn4
    have HST := zh (const_tuple (d := d) HKK.out hst)
    rw [HOFF.out] at HST
    have HSL := zh hsl
    have HDP := zh hdp
    clear n0 n1 n2 n3 n4 v0 v1 v2 v3 v4 r3
    obtain ⟨n0, n1, n2, n3, n4, v0, v1, v2, v3, v4⟩ := row5 HN4.out
    obtain ⟨g0, g1, g2, g3, g4, u0, u1, u2, u3, u4⟩ := row5 HG4.out
    clear hs4 hm4 hst hsl hdp hn4
    go_wp2_with fail
    have HRF : Hid (RowAt (set5 (w4) (w.heap.size + 1) (.int .i64 4) (.int .i64 off) (.string ⟨#[]⟩) (.slice none 0 0) (.slice X zs.length dd)) (w.heap.size + 1) 28 #[.int .i64 4, .int .i64 off, .string ⟨#[]⟩, (.slice none 0 0), (.slice X zs.length dd)]) := set5_row (HG4.out)
    have HSF : Hid (Rs (set5 (w4) (w.heap.size + 1) (.int .i64 4) (.int .i64 off) (.string ⟨#[]⟩) (.slice none 0 0) (.slice X zs.length dd)) b A c l _ e _) := set5_rs (HS4.out) (by omega)
    have HMF : Hid (Mv b w (set5 (w4) (w.heap.size + 1) (.int .i64 4) (.int .i64 off) (.string ⟨#[]⟩) (.slice none 0 0) (.slice X zs.length dd))) := set5_mv (HM4.out) (by omega) hbw
    have HNF : Hid (NodeV (set5 (w4) (w.heap.size + 1) (.int .i64 4) (.int .i64 off) (.string ⟨#[]⟩) (.slice none 0 0) (.slice X zs.length dd)) w.heap.size (nd 4 off e0 [] (TM.er zs)) (.agg #[.int .i64 4, .int .i64 off, .string ⟨#[]⟩, (.slice none 0 0), (.slice X zs.length dd)])) := nodeV_kids hdd (set5_slc HSL.out fun k _ hk => ⟨by omega, by omega⟩) (set5_deep HDP.out fun k _ hk => ⟨by omega, by omega⟩)
    change bodyPost _ _ _ _ _ (set5 (w4) (w.heap.size + 1) (.int .i64 4) (.int .i64 off) (.string ⟨#[]⟩) (.slice none 0 0) (.slice X zs.length dd))
    exact bodyPost_ret (ret_cell rfl _ _ (w.heap.size + 1) _ _ (0, 0) _ rfl HRF.out Tryz.underlying28 rfl (node_info _ _ _ _ _)) rfl (HQ.out _ _ ⟨_, (nd 4 off e0 [] (TM.er zs)), _, _, rfl, HNF.out, HSF.out, HMF.out, HST.out⟩)
   ·by_cases h91 : kindOf (rest l i) f = 91
    ·rw [h91] at HK2
     have HKK := zh h91; clear h91 h97 h123 h40
     obtain ⟨N9, h9⟩ : ∃ N9, d = N9 + 1 := by
      obtain ⟨_, y, r, hr, _⟩ := kind_head HKK.out (by decide)
      rw [hr] at hN
      have := length_nodes (y :: r)
      simp only [zA8] at this
      exact ⟨d - 1, by omega⟩
     have H9 : Hid (d = N9 + 1) := h9
     have HNN : Hid ((nodes (rest l i)).length ≤ N9 + 1) := by
      show _ ≤ N9 + 1
      omega
     have HEL := zh (HIH.out N9 h9)
     clear h9
     go_wp2_with fail
     refine HK2.out.mono ?_
     rintro e' w3 ⟨rfl, hd3⟩
     have HS3 := zh (HS1.out.dr hd3)
     have HM3 := zh (HM1.out.dr hbw hd3)
     have HR3 := zh (HR1.out.below hd3.below HR1.out.lt)
     have HG3 := zh (HG1.out.below hd3.below HG1.out.lt)
     have HN3 := zh (HN1.out.below hd3.below HN1.out.lt)
     have r3 := (HR3.out.cell 0).trans rfl
     have hzn : w.heap.size + 2 < w3.heap.size := HN3.out.lt
     clear hd3 HS1 HM1 HR1 HG1 HN1 r1
     have HS3' := zh (HS3.out.far (g := w.heap.size + 2) (j := 0) (u := .int .i64 5) (by omega))
     have HM3' := zh (HM3.out.setCell (p := ⟨w.heap.size + 2, 0, none⟩) (.inr (by show w.heap.size ≤ w.heap.size + 2; omega)) hbw (.int .i64 5))
     have HG3' := zh (HG3.out.far (p := ⟨w.heap.size + 2, 0, none⟩) (by show w.heap.size + 2 ≠ w.heap.size + 1; omega) (.int .i64 5))
     have HR3' := zh (HR3.out.far (p := ⟨w.heap.size + 2, 0, none⟩) (by show w.heap.size + 2 ≠ w.heap.size; omega) (.int .i64 5))
     have HN3' := zh (HN3.out.put 0 (.int .i64 5))
     have HB3 : Hid (BoxN b w.heap.size (w.heap.size + 2) 5 off ⟨#[]⟩ (w3.setCell ⟨w.heap.size + 2, 0, none⟩ (.int .i64 5)) []) := ⟨⟨none, 0, [], by simp [TM.er], zL _, HN3'.out, SlC.nil _ _ _, DeepN.nil _ _⟩, HR3'.out⟩
     have hz3 : (w3.setCell ⟨w.heap.size + 2, 0, none⟩ (.int .i64 5)).heap.size = w3.heap.size := by simp [World.setCell]
     have HW := zh (within_any (N := N9) 91 (by decide) (fun _ => by kernel_rfl) HS3'.out (by omega) (by omega) HNN.out (const2_in N9 b w.heap.size (w.heap.size + 2) 5 off ⟨#[]⟩ (by omega) (by omega) (by omega) (by have h9 := H9.out; omega) (rule_any N9)) HB3.out (fun wa wb x hv hk => hv.keep (by omega) (by omega) hk))
     obtain ⟨n0, n1, n2, n3, n4, v0, v1, v2, v3, v4⟩ := row5 HN3.out
     go_wp2_with fail
     refine HW.out.mono ?_
     rintro e' w4 ⟨x, i2, f2, rfl, ⟨⟨X, dd, zs, rfl, hdd, hn4, hsl, hdp⟩, _⟩, hs4, hm4, hst⟩
     have HS4 := zh hs4
     have HM4 := zh (HM3'.out.fresh hbw hm4 (by omega))
     have HG4 : Hid (RowAt w4 (w.heap.size + 1) 28 #[.int .i64 0, .int .i64 0, .string ⟨#[]⟩, .slice none 0 0, .slice none 0 0]) := (hm4.block _ HG3'.out.lt (by omega) (by omega)).trans HG3'.out
     have HN4 := zh hn4
     have HST := zh (const_grid (d := d) HKK.out hst)
     rw [HOFF.out] at HST
     have HSL := zh hsl
     have HDP := zh hdp
     clear n0 n1 n2 n3 n4 v0 v1 v2 v3 v4 r3
     obtain ⟨n0, n1, n2, n3, n4, v0, v1, v2, v3, v4⟩ := row5 HN4.out
     obtain ⟨g0, g1, g2, g3, g4, u0, u1, u2, u3, u4⟩ := row5 HG4.out
     clear hs4 hm4 hst hsl hdp hn4
     go_wp2_with fail
     have HRF : Hid (RowAt (set5 (w4) (w.heap.size + 1) (.int .i64 5) (.int .i64 off) (.string ⟨#[]⟩) (.slice none 0 0) (.slice X zs.length dd)) (w.heap.size + 1) 28 #[.int .i64 5, .int .i64 off, .string ⟨#[]⟩, (.slice none 0 0), (.slice X zs.length dd)]) := set5_row (HG4.out)
     have HSF : Hid (Rs (set5 (w4) (w.heap.size + 1) (.int .i64 5) (.int .i64 off) (.string ⟨#[]⟩) (.slice none 0 0) (.slice X zs.length dd)) b A c l _ e _) := set5_rs (HS4.out) (by omega)
     have HMF : Hid (Mv b w (set5 (w4) (w.heap.size + 1) (.int .i64 5) (.int .i64 off) (.string ⟨#[]⟩) (.slice none 0 0) (.slice X zs.length dd))) := set5_mv (HM4.out) (by omega) hbw
     have HNF : Hid (NodeV (set5 (w4) (w.heap.size + 1) (.int .i64 5) (.int .i64 off) (.string ⟨#[]⟩) (.slice none 0 0) (.slice X zs.length dd)) w.heap.size (nd 5 off e0 [] (TM.er zs)) (.agg #[.int .i64 5, .int .i64 off, .string ⟨#[]⟩, (.slice none 0 0), (.slice X zs.length dd)])) := nodeV_kids hdd (set5_slc HSL.out fun k _ hk => ⟨by omega, by omega⟩) (set5_deep HDP.out fun k _ hk => ⟨by omega, by omega⟩)
     change bodyPost _ _ _ _ _ (set5 (w4) (w.heap.size + 1) (.int .i64 5) (.int .i64 off) (.string ⟨#[]⟩) (.slice none 0 0) (.slice X zs.length dd))
     exact bodyPost_ret (ret_cell rfl _ _ (w.heap.size + 1) _ _ (0, 0) _ rfl HRF.out Tryz.underlying28 rfl (node_info _ _ _ _ _)) rfl (HQ.out _ _ ⟨_, (nd 5 off e0 [] (TM.er zs)), _, _, rfl, HNF.out, HSF.out, HMF.out, HST.out⟩)
    ·have q1 : ((kindOf (rest l i) f : Int) == 97) = false := by rw [beq_eq_false_iff_ne]; omega
     have q2 : ((kindOf (rest l i) f : Int) == 123) = false := by rw [beq_eq_false_iff_ne]; omega
     have q3 : ((kindOf (rest l i) f : Int) == 40) = false := by rw [beq_eq_false_iff_ne]; omega
     have q4 : ((kindOf (rest l i) f : Int) == 91) = false := by rw [beq_eq_false_iff_ne]; omega
     have HST := zh (fun x => const_none (d := d) (e := e) (x := x) h97 h123 h40 h91)
     clear h97 h123 h40 h91
     generalize kindOf (rest l i) f = q at *
     go_wp2_with fail
     refine HK2.out.mono ?_
     rintro e' w3 ⟨rfl, hd3⟩
     have HS3 := zh (HS1.out.dr hd3)
     have HM3 := zh (HM1.out.dr hbw hd3)
     have HR3 := zh (HR1.out.below hd3.below HR1.out.lt)
     have HG3 := zh (HG1.out.below hd3.below HG1.out.lt)
     have HN3 := zh (HN1.out.below hd3.below HN1.out.lt)
     have r3 := (HR3.out.cell 0).trans rfl
     have hzn : w.heap.size + 2 < w3.heap.size := HN3.out.lt
     clear hd3 HS1 HM1 HR1 HG1 HN1 r1
     have HC := zh (fail_any HS3.out)
     go_wp2_with fail
     refine HC.out.mono ?_
     rintro e' w4 ⟨rfl, hs4, hm4, _⟩
     have HS4 := zh hs4
     have HM4 := zh (HM3.out.trans hm4)
     have HG4 := zh (HG3.out.mv hm4 (by omega))
     have HN4 := zh (HN3.out.mv hm4 (by omega))
     obtain ⟨n0, n1, n2, n3, n4, v0, v1, v2, v3, v4⟩ := row5 HN4.out
     obtain ⟨g0, g1, g2, g3, g4, u0, u1, u2, u3, u4⟩ := row5 HG4.out
     clear hs4 hm4
     go_wp2_with fail
     have HRF : Hid (RowAt (set5 (w4) (w.heap.size + 1) (.int .i64 0) (.int .i64 off) (.string ⟨#[]⟩) (.slice none 0 0) (.slice none 0 0)) (w.heap.size + 1) 28 #[.int .i64 0, .int .i64 off, .string ⟨#[]⟩, (.slice none 0 0), (.slice none 0 0)]) := set5_row (HG4.out)
     have HSF : Hid (Rs (set5 (w4) (w.heap.size + 1) (.int .i64 0) (.int .i64 off) (.string ⟨#[]⟩) (.slice none 0 0) (.slice none 0 0)) b A c l _ e _) := set5_rs (HS4.out) (by omega)
     have HMF : Hid (Mv b w (set5 (w4) (w.heap.size + 1) (.int .i64 0) (.int .i64 off) (.string ⟨#[]⟩) (.slice none 0 0) (.slice none 0 0))) := set5_mv (HM4.out) (by omega) hbw
     have HNF : Hid (NodeV (set5 (w4) (w.heap.size + 1) (.int .i64 0) (.int .i64 off) (.string ⟨#[]⟩) (.slice none 0 0) (.slice none 0 0)) w.heap.size (nd 0 off e0 [] []) (.agg #[.int .i64 0, .int .i64 off, .string ⟨#[]⟩, (.slice none 0 0), (.slice none 0 0)])) := nodeV_leaf _ _ _ _ _
     change bodyPost _ _ _ _ _ (set5 (w4) (w.heap.size + 1) (.int .i64 0) (.int .i64 off) (.string ⟨#[]⟩) (.slice none 0 0) (.slice none 0 0))
     exact bodyPost_ret (ret_cell rfl _ _ (w.heap.size + 1) _ _ (0, 0) _ rfl HRF.out Tryz.underlying28 rfl (node_info _ _ _ _ _)) rfl (HQ.out _ _ ⟨_, (nd 0 off e0 [] []), _, _, rfl, HNF.out, HSF.out, HMF.out, HST.out _⟩)
end
section
open Go.RowKit LX TR TM
theorem constant_any : ∀ d, d ≤ 4294967296 → Reads 148 NodeV (constR (d + 1)) d := by
 intro d
 induction d with
 | zero => intro h; exact constant_step 0 h fun d' hd => by omega
 | succ d ih =>
   intro h
   refine constant_step (d + 1) h fun d' hd => ?_
   obtain rfl : d = d' := by omega
   exact ih (by omega)
section
variable {d : Nat} {l : List Tr} {i e : Int} {f : Option Int} {i2 : Int} {f2 : Option Int}
theorem atom_var {x : Nd} (hk : kindOf (rest l i) f ≠ 35) (h : Step varR l i e f x i2 f2) : Step (atomR d) l i e f x i2 f2 := by
 cases f with
 | some p =>
   obtain rfl := h.2.1 p rfl
   exact Step.bad h.1
 | none =>
   refine h.of_eq ?_
   cases hr : rest l i with
   | nil => rfl
   | cons y r =>
     rw [hr] at hk
     have q : ¬ y.t.k = 35 := hk
     simp only [atomR]
     rw [if_neg q]
theorem atom_const {t : Tk} {x : Nd} {i3 : Int} {f3 : Option Int} (hk : kindOf (rest l i) f = 35) (h : Step (takeR 35) l i e f t i2 f2) (h2 : Step (constR d) l i2 e f2 x i3 f3) : Step (atomR d) l i e f (nd 7 t.p e0 [] [x]) i3 f3 := by
 obtain ⟨rfl, y, r, hr, hy⟩ := kind_head hk (by decide)
 have e2 := h2.map (fun n => nd 7 t.p e0 [] [n])
 refine Step.of_eq (Step.bind (rd2 := fun t ts e => bnd (constR d ts e) fun n r2 => .ok (nd 7 t.p e0 [] [n], r2)) h e2) ?_
 rw [hr, takeR_hit hy]
 simp only [atomR]
 rw [if_pos hy]; rfl
end
theorem nodeV_one {w : World} {s0 : Nat} {k p : Int} {s : ByteArray} {z : Nd} {g : Nat} (hg : s0 ≤ g) (hr : RowAt w g 28 (nv z)) (h2 : DeepN w (fun k => s0 ≤ k) [z]) : NodeV w s0 (nd k p s [] [er1 z]) (.agg #[.int .i64 k, .int .i64 p, .string s, .slice none 0 0, .slice (some ⟨g, 0, none⟩) 1 1]) := by
 have h := nodeV_kids (k := k) (p := p) (s := s) (zs := [z]) (X := some ⟨g, 0, none⟩) (d := 1) (zL _) (fun _ => ⟨g, 0, rfl, hr.lt, hg, fun j u hu => by
  rw [Nat.zero_add, hr.cell]
  rw [ncs_one] at hu
  simpa [ncells, nv] using hu⟩) h2
 rw [er_one] at h
 exact h
theorem one_after {w : World} {s0 s1 g : Nat} {a b c d e : Value} {k p : Int} {s : ByteArray} {z : Nd} (h : DeepN w (fun k => s1 ≤ k) [z]) (hg : g < s1) (h1 : s0 ≤ s1) (h2 : s0 ≤ w.heap.size) :
 NodeV ((set5 w g a b c d e).alloc (.cells (nv z) 28)) s0 (nd k p s [] [er1 z]) (.agg #[.int .i64 k, .int .i64 p, .string s, .slice none 0 0, .slice (some ⟨w.heap.size, 0, none⟩) 1 1]) := by
 have hr := RowAt.new (set5 w g a b c d e) 28 (nv z)
 rw [set5_size] at hr
 refine nodeV_one h2 hr ?_
 refine DeepN.keep (w := set5 w g a b c d e) (ok := fun k => s0 ≤ k) (set5_deep h fun k _ hk => ⟨by omega, by omega⟩) (by simp) (fun k hk _ => heap_alloc_old _ _ hk) fun _ _ hk => hk
theorem atom_any (d : Nat) (hd : d ≤ 4294967296) : Reads 133 NodeV (atomR (d + 1)) d := by
 intro w b A c l i e f h hN
 have hbw := h.lt
 have HM0 : Hid (Mv b w (w.alloc (.cells #[.int .i64 0, .int .i64 0, .string ⟨#[]⟩, .slice none 0 0, .slice none 0 0] 28))) := (Mv.refl b w).alloc hbw _
 have HG0 := zh (RowAt.new w 28 #[.int .i64 0, .int .i64 0, .string ⟨#[]⟩, .slice none 0 0, .slice none 0 0])
 have HS0 := zh (h.mv HM0.out (h.at_.alloc _))
 clear h
 refine calls_hid fun Q' hQ => ?_
 have HQ := zh hQ; clear hQ
 have HK0 := zh (kind_any HS0.out)
 by_cases h35 : kindOf (rest l i) f = 35
 ·rw [h35] at HK0
  have HKK := zh h35; clear h35
  go_enter Tryz.func133, Tryz.ntmps133
  go_wp2_with fail
  refine HK0.out.mono ?_
  rintro e' w1 ⟨rfl, hd1⟩
  have HG1 := zh (HG0.out.below hd1.below HG0.out.lt)
  have HS1 := zh (HS0.out.dr hd1)
  have HM1 := zh (HM0.out.dr hbw hd1)
  have HT := zh (take_any HS1.out 35 (by decide))
  clear hd1
  go_wp2_with fail
  refine HT.out.mono ?_
  rintro e' w2 ⟨⟨q, s, p⟩, i2, f2, rfl, hs2, hm2, hst2⟩
  have HG2 := zh (HG1.out.mv hm2 (by omega))
  have HS2 := zh hs2
  have HM2 := zh (HM1.out.trans hm2)
  have HST2 := zh hst2
  have HC := zh (constant_any d hd w2 b A c l i2 e f2 hs2 (zM hst2.1.nodes hN))
  have ht2 := run_tok2 q s p
  clear hs2 hm2 hst2
  unfold tv
  go_wp2_with fail
  refine HC.out.mono ?_
  rintro e' w3 ⟨v, x, i3, f3, rfl, ⟨z, rfl, rfl, hdz⟩, hs3, hm3, hst3⟩
  have HG3 := zh (HG2.out.mv hm3 (by omega))
  have HZ2 : Hid (w.heap.size < w2.heap.size) := HG2.out.lt
  have HZ3 : Hid (w.heap.size < w3.heap.size) := HG3.out.lt
  have hzz3 := HZ3.out
  have HS3 := zh hs3
  have HM3 := zh (HM2.out.trans hm3)
  have HST := zh (atom_const (d := d + 1) HKK.out HST2.out hst3)
  have HDZ := zh hdz
  have HRZ := zh (RowAt.new w3 28 (nv z))
  obtain ⟨g0, g1, g2, g3, g4, u0, u1, u2, u3, u4⟩ := row5 HG3.out
  clear hs3 hm3 hst3 hdz
  obtain ⟨zk, zp, zs, zA, zc, zw, zBq, zd, zz⟩ := z
  unfold nv at HRZ ⊢
  simp only [Nd.k, Nd.p, Nd.s, Nd.A, Nd.c, Nd.ws, Nd.B, Nd.d, Nd.ks] at HRZ ⊢
  go_wp2_with fail
  have HRF : Hid (RowAt ((set5 (w3) (w.heap.size) (.int .i64 7) (.int .i64 p) (.string e0) (.slice none 0 0) (.slice (some ⟨w3.heap.size, 0, none⟩) 1 1)).alloc (.cells #[.int .i64 zk, .int .i64 zp, .string zs, .slice zA zw.length zc, .slice zBq zz.length zd] 28)) (w.heap.size) 28 #[.int .i64 7, .int .i64 p, .string e0, (.slice none 0 0), (.slice (some ⟨w3.heap.size, 0, none⟩) 1 1)]) := (set5_row (HG3.out)).alloc (.cells #[.int .i64 zk, .int .i64 zp, .string zs, .slice zA zw.length zc, .slice zBq zz.length zd] 28)
  have HSF : Hid (Rs ((set5 (w3) (w.heap.size) (.int .i64 7) (.int .i64 p) (.string e0) (.slice none 0 0) (.slice (some ⟨w3.heap.size, 0, none⟩) 1 1)).alloc (.cells #[.int .i64 zk, .int .i64 zp, .string zs, .slice zA zw.length zc, .slice zBq zz.length zd] 28)) b A c l _ e _) := (set5_rs (HS3.out) (by omega)).alloc (.cells #[.int .i64 zk, .int .i64 zp, .string zs, .slice zA zw.length zc, .slice zBq zz.length zd] 28)
  have HMF : Hid (Mv b w ((set5 (w3) (w.heap.size) (.int .i64 7) (.int .i64 p) (.string e0) (.slice none 0 0) (.slice (some ⟨w3.heap.size, 0, none⟩) 1 1)).alloc (.cells #[.int .i64 zk, .int .i64 zp, .string zs, .slice zA zw.length zc, .slice zBq zz.length zd] 28))) := (set5_mv (HM3.out) (by omega) hbw).alloc hbw (.cells #[.int .i64 zk, .int .i64 zp, .string zs, .slice zA zw.length zc, .slice zBq zz.length zd] 28)
  have HNF : Hid (NodeV ((set5 (w3) (w.heap.size) (.int .i64 7) (.int .i64 p) (.string e0) (.slice none 0 0) (.slice (some ⟨w3.heap.size, 0, none⟩) 1 1)).alloc (.cells #[.int .i64 zk, .int .i64 zp, .string zs, .slice zA zw.length zc, .slice zBq zz.length zd] 28)) w.heap.size (nd 7 p e0 [] [er1 (.mk zk zp zs zA zc zw zBq zd zz)]) (.agg #[.int .i64 7, .int .i64 p, .string e0, (.slice none 0 0), (.slice (some ⟨w3.heap.size, 0, none⟩) 1 1)])) := one_after HDZ.out HZ2.out (Nat.le_of_lt HZ2.out) (Nat.le_of_lt HZ3.out)
  change bodyPost _ _ _ _ _ ((set5 (w3) (w.heap.size) (.int .i64 7) (.int .i64 p) (.string e0) (.slice none 0 0) (.slice (some ⟨w3.heap.size, 0, none⟩) 1 1)).alloc (.cells #[.int .i64 zk, .int .i64 zp, .string zs, .slice zA zw.length zc, .slice zBq zz.length zd] 28))
  exact bodyPost_ret (ret_cell rfl _ _ (w.heap.size) _ _ (0, 0) _ rfl HRF.out Tryz.underlying28 rfl (node_info _ _ _ _ _)) rfl (HQ.out _ _ ⟨_, (nd 7 p e0 [] [er1 (.mk zk zp zs zA zc zw zBq zd zz)]), _, _, rfl, HNF.out, HSF.out, HMF.out, HST.out⟩)
 ·have hne : ((kindOf (rest l i) f : Int) != 35) = true := by simp; omega
  have HAV := zh (fun x i2 f2 (h : Step varR l i e f x i2 f2) => atom_var (d := d + 1) h35 h)
  clear h35
  generalize kindOf (rest l i) f = q at *
  go_enter Tryz.func133, Tryz.ntmps133
  go_wp2_with fail
  refine HK0.out.mono ?_
  rintro e' w0 ⟨rfl, hd1⟩
  have HG := zh (HG0.out.below hd1.below HG0.out.lt)
  have HM := zh (HM0.out.dr hbw hd1)
  have HC := zh (variable_any (nodes (rest l i)).length _ b A c l i e f (HS0.out.dr hd1) (zL _))
  clear hd1
  go_wp2_with fail
  refine HC.out.mono ?_
  rintro e' w1 ⟨v, x, i2, f2, rfl, ⟨⟨zk, zp, zs, zA, zc, zw, zBq, zd, zz⟩, rfl, hz, hdz⟩, hs1, hm1, hst⟩
  have HG1 := zh (HG.out.mv hm1 (by have := HG.out.lt; omega))
  have HS1 := zh hs1
  have HMM := zh (HM.out.trans hm1)
  have HZ := zh hz
  have HDZ := zh hdz
  have HZW := zh HG.out.lt
  have HST1 := zh hst
  obtain ⟨g0, g1, g2, g3, g4, u0, u1, u2, u3, u4⟩ := row5 HG1.out
  clear hs1 hm1 hst hz hdz
  unfold nv
  simp only [Nd.k, Nd.p, Nd.s, Nd.A, Nd.c, Nd.ws, Nd.B, Nd.d, Nd.ks]
  go_wp2_with fail
  have HRF : Hid (RowAt (set5 (w1) (w.heap.size) (.int .i64 zk) (.int .i64 zp) (.string zs) (.slice zA zw.length zc) (.slice zBq zz.length zd)) (w.heap.size) 28 #[.int .i64 zk, .int .i64 zp, .string zs, (.slice zA zw.length zc), (.slice zBq zz.length zd)]) := set5_row (HG1.out)
  have HSF : Hid (Rs (set5 (w1) (w.heap.size) (.int .i64 zk) (.int .i64 zp) (.string zs) (.slice zA zw.length zc) (.slice zBq zz.length zd)) b A c l _ e _) := set5_rs (HS1.out) (by omega)
  have HMF : Hid (Mv b w (set5 (w1) (w.heap.size) (.int .i64 zk) (.int .i64 zp) (.string zs) (.slice zA zw.length zc) (.slice zBq zz.length zd))) := set5_mv (HMM.out) (by omega) hbw
  have HNF : Hid (NodeV (set5 (w1) (w.heap.size) (.int .i64 zk) (.int .i64 zp) (.string zs) (.slice zA zw.length zc) (.slice zBq zz.length zd)) w.heap.size (x) (.agg #[.int .i64 zk, .int .i64 zp, .string zs, (.slice zA zw.length zc), (.slice zBq zz.length zd)])) := ⟨.mk zk zp zs zA zc zw zBq zd zz, rfl, HZ.out, set5_deep HDZ.out fun k _ hk => ⟨by have := HZW.out; omega, by have := HZW.out; omega⟩⟩
  change bodyPost _ _ _ _ _ (set5 (w1) (w.heap.size) (.int .i64 zk) (.int .i64 zp) (.string zs) (.slice zA zw.length zc) (.slice zBq zz.length zd))
  exact bodyPost_ret (ret_cell rfl _ _ (w.heap.size) _ _ (0, 0) _ rfl HRF.out Tryz.underlying28 rfl (node_info _ _ _ _ _)) rfl (HQ.out _ _ ⟨_, (x), _, _, rfl, HNF.out, HSF.out, HMF.out, HAV.out _ _ _ HST1.out⟩)
def boundR (q : Nat) (nk : Int) (d : Nat) : Rdr Nd := fun ts e => bnd (takeR q ts e) fun t r => bnd (withinR 40 (someR (labelR d)) r e) fun ks r2 => .ok (nd nk t.p e0 [] ks, r2)
theorem bound_step {d q : Nat} {nk : Int} {l : List Tr} {i e : Int} {f : Option Int} {i2 i3 : Int} {f2 f3 : Option Int} {t : Tk} {ks : List Nd} (hq : 0 < q) (hk : kindOf (rest l i) f = q) (h : Step (takeR q) l i e f t i2 f2) (h2 : Step (withinR 40 (someR (labelR d))) l i2 e f2 ks i3 f3) :
 Step (boundR q nk d) l i e f (nd nk (offOf (rest l i) e) e0 [] ks) i3 f3 := by
 obtain ⟨rfl, y, r, hr, hy⟩ := kind_head hk hq
 have e2 := h2.map (fun ks => nd nk (offOf (rest l i) e) e0 [] ks)
 refine Step.of_eq (Step.bind (rd2 := fun _ ts e' => bnd (withinR 40 (someR (labelR d)) ts e') fun ks r2 => .ok (nd nk (offOf (rest l i) e) e0 [] ks, r2)) h e2) ?_
 rw [hr]
 unfold boundR
 rw [takeR_hit hy]
 rfl
theorem bound_any (d q : Nat) (nk : Int) (hd : d ≤ 4294967296) (hq : 0 < q) (ih : ∀ d', d = d' + 1 → Reads 125 NodeV (labelR d) d')
 (w : World) (b : Nat) (A : Option Addr) (c : Nat) (l : List Tr) (i e : Int) (f : Option Int) (h : Rs w b A c l i e f) (hN : (nodes (rest l i)).length ≤ d) (hk : kindOf (rest l i) f = q) :
 Calls Tryz.prog 132 #[.pointer (some ⟨b, 0, none⟩), .int .i64 nk] w fun e' w' => ∃ v x i2 f2, e' = .returned v ∧ NodeV w' w.heap.size x v ∧ Rs w' b A c l i2 e f2 ∧ Mv b w w' ∧ Step (boundR q nk d) l i e f x i2 f2 := by
 have hmf : ∀ (fn : Fn) (first cap : Array Value) (w : World), (Instr.makeFunc fn first cap).run Tryz.prog w = .ok (.func fn first cap) w := fun _ _ _ _ => rfl
 have hbw := h.lt
 have hr0 := (RowAt.new w 139 #[.pointer (some ⟨b, 0, none⟩)]).alloc (.cells #[.int .i64 0, .int .i64 0, .string ⟨#[]⟩, .slice none 0 0, .slice none 0 0] 28)
 have hg0 := RowAt.new (w.alloc (.cells #[.pointer (some ⟨b, 0, none⟩)] 139)) 28 #[.int .i64 0, .int .i64 0, .string ⟨#[]⟩, .slice none 0 0, .slice none 0 0]
 rw [show (w.alloc (.cells #[.pointer (some ⟨b, 0, none⟩)] 139)).heap.size = w.heap.size + 1 by simp] at hg0
 have hbz : Below w.heap.size w ((w.alloc (.cells #[.pointer (some ⟨b, 0, none⟩)] 139)).alloc (.cells #[.int .i64 0, .int .i64 0, .string ⟨#[]⟩, .slice none 0 0, .slice none 0 0] 28)) := ((zB _ _).alloc (zL _) _).alloc (by simp) _
 have HS0 := zh (h.below hbz)
 have HM0 := zh (Mv.below hbw hbz)
 have HO := zh (offset_any HS0.out)
 have HIH := zh ih; clear ih
 have HR0 := zh hr0
 have HG0 := zh hg0
 have r0 := (hr0.cell 0).trans rfl
 have hzz : ((w.alloc (.cells #[.pointer (some ⟨b, 0, none⟩)] 139)).alloc (.cells #[.int .i64 0, .int .i64 0, .string ⟨#[]⟩, .slice none 0 0, .slice none 0 0] 28)).heap.size = w.heap.size + 2 := by simp
 have HZZ := zh hzz
 obtain ⟨N9, h9⟩ : ∃ N9, d = N9 + 1 := by
  obtain ⟨_, y, r, hr, _⟩ := kind_head hk hq
  rw [hr] at hN
  have := length_nodes (y :: r)
  simp only [zA8] at this
  exact ⟨d - 1, by omega⟩
 have H9 : Hid (d = N9 + 1) := h9
 have HEL := zh (HIH.out N9 h9)
 have HKK := zh hk
 clear h hr0 hg0 hbz hzz h9 hk
 refine calls_hid fun Q' hQ => ?_
 have HQ := zh hQ; clear hQ
 generalize hoff : offOf (rest l i) e = off at *
 have HOFF := zh hoff; clear hoff
 go_enter Tryz.func132, Tryz.ntmps132
 go_wp2_with fail
 refine HO.out.mono ?_
 rintro e' w1 ⟨rfl, hd1⟩
 have hz1 : w1.heap.size = w.heap.size + 2 := by obtain ⟨n, rfl⟩ := hd1; exact HZZ.out
 have HR1 := zh ((HR0.out.below hd1.below HR0.out.lt).alloc (.cells #[.int .i64 nk, .int .i64 off, .string ⟨#[]⟩, .slice none 0 0, .slice none 0 0] 28))
 have HG1 := zh ((HG0.out.below hd1.below HG0.out.lt).alloc (.cells #[.int .i64 nk, .int .i64 off, .string ⟨#[]⟩, .slice none 0 0, .slice none 0 0] 28))
 have hn1 := RowAt.new w1 28 #[.int .i64 nk, .int .i64 off, .string ⟨#[]⟩, .slice none 0 0, .slice none 0 0]
 rw [hz1] at hn1
 have HN1 := zh hn1
 have HS1 := zh ((HS0.out.dr hd1).alloc (.cells #[.int .i64 nk, .int .i64 off, .string ⟨#[]⟩, .slice none 0 0, .slice none 0 0] 28))
 have HM1 := zh ((HM0.out.dr hbw hd1).alloc hbw (.cells #[.int .i64 nk, .int .i64 off, .string ⟨#[]⟩, .slice none 0 0, .slice none 0 0] 28))
 clear r0 HS0 HM0 HR0 HG0 HO hd1 hn1 HZZ
 go_upto_region 2 with fail
 generalize w1.alloc (.cells #[.int .i64 nk, .int .i64 off, .string ⟨#[]⟩, .slice none 0 0, .slice none 0 0] 28) = w2 at *
 obtain ⟨S, hSe⟩ : ∃ S : World → Prop, S = fun w' => RowAt w' w.heap.size 139 #[.pointer (some ⟨b, 0, none⟩)] := ⟨_, rfl⟩
 have HS : Hid (S w2.drew) := by rw [hSe]; exact zh HR1.out.drew
 have C0 : ∀ w', S w' → w'.cell? ⟨w.heap.size, 0, none⟩ = some (.pointer (some ⟨b, 0, none⟩)) := fun w' h => by rw [hSe] at h; exact (RowAt.cell h 0).trans rfl
 have HS2 : Hid (Rs w2.drew b A c l i e f) := HS1.out.dr ⟨1, rfl⟩
 have HM2 : Hid (Mv b w w2.drew) := HM1.out.drew
 have HK2 := zh (kind_any HS2.out)
 rw [HKK.out] at HK2
 refine wp_region_ord S [(0, true), (1, true), (2, false), (3, false)] (by kernel_rfl) (by kernel_rfl) rfl (by kernel_rfl) HS.out ?_
 iterate 2
  (refine wpOrd_step (zO rfl) ?_)
  (first
        | (refine wpOrd_skip (by rfl) ?_)
        | (refine wpOrd_take (v := ?_) (by rfl) ?_ ?_; rotate_left 1; (intro wx hSx; have hc_0 := C0 wx hSx; go_simp; try with_reducible rfl)))
  (try simp only [Act.put, zA4, zA5, zA6])
 (refine wpOrd_solo (zO rfl) ?_)
 intro K hK
 go_simp
 go_at_call 131
 refine HK2.out.mono ?_
 rintro e' w3 ⟨rfl, hd3⟩
 have hS3 : S w3 := by rw [hSe]; exact (HR1.out.drew).below hd3.below (HR1.out.drew).lt
 refine hK.out _ _ hS3 ?_
 clear hK K HS
 have HR3 : Hid (RowAt w3 w.heap.size 139 #[.pointer (some ⟨b, 0, none⟩)]) := (HR1.out.drew).below hd3.below (HR1.out.drew).lt
 have HG3 : Hid (RowAt w3 (w.heap.size + 1) 28 #[.int .i64 0, .int .i64 0, .string ⟨#[]⟩, .slice none 0 0, .slice none 0 0]) := (HG1.out.drew).below hd3.below (HG1.out.drew).lt
 have HN3 : Hid (RowAt w3 (w.heap.size + 2) 28 #[.int .i64 nk, .int .i64 off, .string ⟨#[]⟩, .slice none 0 0, .slice none 0 0]) := (HN1.out.drew).below hd3.below (HN1.out.drew).lt
 have HS3 := zh (HS2.out.dr hd3)
 have HM3 := zh (HM2.out.dr hbw hd3)
 have HT3 := zh (take_any HS3.out q hq)
 clear hd3 hS3
 (refine wpOrd_solo (zO rfl) ?_)
 intro K hK
 go_simp
 go_at_call 140
 refine HT3.out.mono ?_
 rintro e' w4 ⟨t, i2, f2, rfl, hs4, hm4, hst4⟩
 have hS4 : S w4 := by rw [hSe]; exact HR3.out.mv hm4 (by omega)
 refine hK.out _ _ hS4 ?_
 clear hK K
 refine wpOrd_done ?_
 have HR4 := zh (HR3.out.mv hm4 (by omega))
 have HG4 := zh (HG3.out.mv hm4 (by omega))
 have HN4 := zh (HN3.out.mv hm4 (by omega))
 have HS4 := zh hs4
 have HM4 := zh (HM3.out.trans hm4)
 have HST4 := zh hst4
 have r4 := (HR4.out.cell 0).trans rfl
 have hzn : w.heap.size + 2 < w4.heap.size := HN4.out.lt
 have HB4 : Hid (BoxN b w.heap.size (w.heap.size + 2) nk off ⟨#[]⟩ w4 []) := ⟨⟨none, 0, [], by simp [TM.er], zL _, HN4.out, SlC.nil _ _ _, DeepN.nil _ _⟩, HR4.out⟩
 have HNN : Hid ((nodes (rest l i2)).length ≤ N9 + 1) := zM hst4.1.nodes (by have h9 := H9.out; omega)
 have HW := zh (within_any (N := N9) 40 (by decide) (fun _ => by kernel_rfl) HS4.out (by omega) (by omega) HNN.out (bound1_in N9 b w.heap.size (w.heap.size + 2) nk off ⟨#[]⟩ (by omega) (by omega) (by omega) (by have h9 := H9.out; omega) HEL.out) HB4.out (fun wa wb x hv hk => hv.keep (by omega) (by omega) hk))
 clear hs4 hm4 hst4 hS4 HS2 HM2 HK2 HT3 HR3 HG3 HN3 HS3 HM3 HR1 HG1 HN1 HS1 HM1 C0
 obtain ⟨n0, n1, n2, n3, n4, v0, v1, v2, v3, v4⟩ := row5 HN4.out
 go_wp2_with fail
 refine HW.out.mono ?_
 rintro e' w5 ⟨x, i9, f9, rfl, ⟨⟨X, dd, zs, rfl, hdd, hn9, hsl, hdp⟩, _⟩, hs9, hm9, hst9⟩
 have HS9 := zh hs9
 have HM9 := zh (HM4.out.fresh hbw hm9 (by omega))
 have HG9 : Hid (RowAt w5 (w.heap.size + 1) 28 #[.int .i64 0, .int .i64 0, .string ⟨#[]⟩, .slice none 0 0, .slice none 0 0]) := (hm9.block _ HG4.out.lt (by omega) (by omega)).trans HG4.out
 have HN9 := zh hn9
 have HST9 := zh (bound_step (nk := nk) hq HKK.out HST4.out hst9)
 rw [HOFF.out] at HST9
 have HSL := zh hsl
 have HDP := zh hdp
 clear n0 n1 n2 n3 n4 v0 v1 v2 v3 v4 r4
 obtain ⟨n0, n1, n2, n3, n4, v0, v1, v2, v3, v4⟩ := row5 HN9.out
 obtain ⟨g0, g1, g2, g3, g4, u0, u1, u2, u3, u4⟩ := row5 HG9.out
 clear hs9 hm9 hst9 hsl hdp hn9
 go_wp2_with fail
 have HRF : Hid (RowAt (set5 (w5) (w.heap.size + 1) (.int .i64 nk) (.int .i64 off) (.string ⟨#[]⟩) (.slice none 0 0) (.slice X zs.length dd)) (w.heap.size + 1) 28 #[.int .i64 nk, .int .i64 off, .string ⟨#[]⟩, (.slice none 0 0), (.slice X zs.length dd)]) := set5_row (HG9.out)
 have HSF : Hid (Rs (set5 (w5) (w.heap.size + 1) (.int .i64 nk) (.int .i64 off) (.string ⟨#[]⟩) (.slice none 0 0) (.slice X zs.length dd)) b A c l _ e _) := set5_rs (HS9.out) (by omega)
 have HMF : Hid (Mv b w (set5 (w5) (w.heap.size + 1) (.int .i64 nk) (.int .i64 off) (.string ⟨#[]⟩) (.slice none 0 0) (.slice X zs.length dd))) := set5_mv (HM9.out) (by omega) hbw
 have HNF : Hid (NodeV (set5 (w5) (w.heap.size + 1) (.int .i64 nk) (.int .i64 off) (.string ⟨#[]⟩) (.slice none 0 0) (.slice X zs.length dd)) w.heap.size (nd nk off e0 [] (TM.er zs)) (.agg #[.int .i64 nk, .int .i64 off, .string ⟨#[]⟩, (.slice none 0 0), (.slice X zs.length dd)])) := nodeV_kids hdd (set5_slc HSL.out fun k _ hk => ⟨by omega, by omega⟩) (set5_deep HDP.out fun k _ hk => ⟨by omega, by omega⟩)
 change bodyPost _ _ _ _ _ (set5 (w5) (w.heap.size + 1) (.int .i64 nk) (.int .i64 off) (.string ⟨#[]⟩) (.slice none 0 0) (.slice X zs.length dd))
 exact bodyPost_ret (ret_cell rfl _ _ (w.heap.size + 1) _ _ (0, 0) _ rfl HRF.out Tryz.underlying28 rfl (node_info _ _ _ _ _)) rfl (HQ.out _ _ ⟨_, (nd nk off e0 [] (TM.er zs)), _, _, rfl, HNF.out, HSF.out, HMF.out, HST9.out⟩)
theorem label_step_eq {d q : Nat} {nk : Int} {l : List Tr} {i e : Int} {f : Option Int} {x : Nd} {i2 : Int} {f2 : Option Int} (hq : (q = 43 ∧ nk = 8) ∨ (q = 38 ∧ nk = 9)) (hk : kindOf (rest l i) f = q) (h : Step (boundR q nk d) l i e f x i2 f2) : Step (labelR (d + 1)) l i e f x i2 f2 := by
 obtain ⟨rfl, y, r, hr, hy⟩ := kind_head hk (by omega)
 refine h.of_eq ?_
 rw [hr]
 unfold boundR
 rw [takeR_hit hy]
 simp only [labelR]
 rcases hq with ⟨rfl, rfl⟩ | ⟨rfl, rfl⟩
 ·rw [if_pos hy]; rfl
 ·rw [if_neg (by omega), if_pos hy]; rfl
theorem label_atom {d : Nat} {l : List Tr} {i e : Int} {f : Option Int} {x : Nd} {i2 : Int} {f2 : Option Int} (h1 : kindOf (rest l i) f ≠ 43) (h2 : kindOf (rest l i) f ≠ 38) (h : Step (atomR (d + 1)) l i e f x i2 f2) : Step (labelR (d + 1)) l i e f x i2 f2 := by
 cases f with
 | some p =>
   obtain rfl := h.2.1 p rfl
   exact Step.bad h.1
 | none =>
   refine h.of_eq ?_
   cases hr : rest l i with
   | nil => rfl
   | cons y r =>
     rw [hr] at h1 h2
     have q1 : ¬ y.t.k = 43 := h1
     have q2 : ¬ y.t.k = 38 := h2
     simp only [labelR]
     rw [if_neg q1, if_neg q2]
theorem label_step (d : Nat) (hd : d ≤ 4294967296) (ih : ∀ d', d = d' + 1 → Reads 125 NodeV (labelR d) d') : Reads 125 NodeV (labelR (d + 1)) d := by
 intro w b A c l i e f h hN
 have hbw := h.lt
 have HM0 : Hid (Mv b w (w.alloc (.cells #[.int .i64 0, .int .i64 0, .string ⟨#[]⟩, .slice none 0 0, .slice none 0 0] 28))) := (Mv.refl b w).alloc hbw _
 have HG0 := zh (RowAt.new w 28 #[.int .i64 0, .int .i64 0, .string ⟨#[]⟩, .slice none 0 0, .slice none 0 0])
 have HS0 := zh (h.mv HM0.out (h.at_.alloc _))
 clear h
 refine calls_hid fun Q' hQ => ?_
 have HQ := zh hQ; clear hQ
 have HK0 := zh (kind_any HS0.out)
 have HIH := zh ih; clear ih
 by_cases h43 : kindOf (rest l i) f = 43
 ·rw [h43] at HK0
  have HKK := zh h43; clear h43
  go_enter Tryz.func125, Tryz.ntmps125
  go_wp2_with fail
  refine HK0.out.mono ?_
  rintro e' w0 ⟨rfl, hd1⟩
  have HG := zh (HG0.out.below hd1.below HG0.out.lt)
  have HM := zh (HM0.out.dr hbw hd1)
  have HC := zh (bound_any d 43 8 hd (by decide) HIH.out _ b A c l i e f (HS0.out.dr hd1) hN HKK.out)
  clear hd1
  go_wp2_with fail
  refine HC.out.mono ?_
  rintro e' w1 ⟨v, x, i2, f2, rfl, ⟨⟨zk, zp, zs, zA, zc, zw, zBq, zd, zz⟩, rfl, hz, hdz⟩, hs1, hm1, hst⟩
  have HG1 := zh (HG.out.mv hm1 (by have := HG.out.lt; omega))
  have HS1 := zh hs1
  have HMM := zh (HM.out.trans hm1)
  have HZ := zh hz
  have HDZ := zh hdz
  have HZW := zh HG.out.lt
  have HST1 := zh hst
  obtain ⟨g0, g1, g2, g3, g4, u0, u1, u2, u3, u4⟩ := row5 HG1.out
  clear hs1 hm1 hst hz hdz
  unfold nv
  simp only [Nd.k, Nd.p, Nd.s, Nd.A, Nd.c, Nd.ws, Nd.B, Nd.d, Nd.ks]
  go_wp2_with fail
  have HRF : Hid (RowAt (set5 (w1) (w.heap.size) (.int .i64 zk) (.int .i64 zp) (.string zs) (.slice zA zw.length zc) (.slice zBq zz.length zd)) (w.heap.size) 28 #[.int .i64 zk, .int .i64 zp, .string zs, (.slice zA zw.length zc), (.slice zBq zz.length zd)]) := set5_row (HG1.out)
  have HSF : Hid (Rs (set5 (w1) (w.heap.size) (.int .i64 zk) (.int .i64 zp) (.string zs) (.slice zA zw.length zc) (.slice zBq zz.length zd)) b A c l _ e _) := set5_rs (HS1.out) (by omega)
  have HMF : Hid (Mv b w (set5 (w1) (w.heap.size) (.int .i64 zk) (.int .i64 zp) (.string zs) (.slice zA zw.length zc) (.slice zBq zz.length zd))) := set5_mv (HMM.out) (by omega) hbw
  have HNF : Hid (NodeV (set5 (w1) (w.heap.size) (.int .i64 zk) (.int .i64 zp) (.string zs) (.slice zA zw.length zc) (.slice zBq zz.length zd)) w.heap.size (x) (.agg #[.int .i64 zk, .int .i64 zp, .string zs, (.slice zA zw.length zc), (.slice zBq zz.length zd)])) := ⟨.mk zk zp zs zA zc zw zBq zd zz, rfl, HZ.out, set5_deep HDZ.out fun k _ hk => ⟨by have := HZW.out; omega, by have := HZW.out; omega⟩⟩
  change bodyPost _ _ _ _ _ (set5 (w1) (w.heap.size) (.int .i64 zk) (.int .i64 zp) (.string zs) (.slice zA zw.length zc) (.slice zBq zz.length zd))
  exact bodyPost_ret (ret_cell rfl _ _ (w.heap.size) _ _ (0, 0) _ rfl HRF.out Tryz.underlying28 rfl (node_info _ _ _ _ _)) rfl (HQ.out _ _ ⟨_, (x), _, _, rfl, HNF.out, HSF.out, HMF.out, label_step_eq (by omega) HKK.out HST1.out⟩)
 ·by_cases h38 : kindOf (rest l i) f = 38
  ·rw [h38] at HK0
   have HKK := zh h38; clear h38
   go_enter Tryz.func125, Tryz.ntmps125
   go_wp2_with fail
   refine HK0.out.mono ?_
   rintro e' w0 ⟨rfl, hd1⟩
   have HG := zh (HG0.out.below hd1.below HG0.out.lt)
   have HM := zh (HM0.out.dr hbw hd1)
   have HC := zh (bound_any d 38 9 hd (by decide) HIH.out _ b A c l i e f (HS0.out.dr hd1) hN HKK.out)
   clear hd1
   go_wp2_with fail
   refine HC.out.mono ?_
   rintro e' w1 ⟨v, x, i2, f2, rfl, ⟨⟨zk, zp, zs, zA, zc, zw, zBq, zd, zz⟩, rfl, hz, hdz⟩, hs1, hm1, hst⟩
   have HG1 := zh (HG.out.mv hm1 (by have := HG.out.lt; omega))
   have HS1 := zh hs1
   have HMM := zh (HM.out.trans hm1)
   have HZ := zh hz
   have HDZ := zh hdz
   have HZW := zh HG.out.lt
   have HST1 := zh hst
   obtain ⟨g0, g1, g2, g3, g4, u0, u1, u2, u3, u4⟩ := row5 HG1.out
   clear hs1 hm1 hst hz hdz
   unfold nv
   simp only [Nd.k, Nd.p, Nd.s, Nd.A, Nd.c, Nd.ws, Nd.B, Nd.d, Nd.ks]
   go_wp2_with fail
   have HRF : Hid (RowAt (set5 (w1) (w.heap.size) (.int .i64 zk) (.int .i64 zp) (.string zs) (.slice zA zw.length zc) (.slice zBq zz.length zd)) (w.heap.size) 28 #[.int .i64 zk, .int .i64 zp, .string zs, (.slice zA zw.length zc), (.slice zBq zz.length zd)]) := set5_row (HG1.out)
   have HSF : Hid (Rs (set5 (w1) (w.heap.size) (.int .i64 zk) (.int .i64 zp) (.string zs) (.slice zA zw.length zc) (.slice zBq zz.length zd)) b A c l _ e _) := set5_rs (HS1.out) (by omega)
   have HMF : Hid (Mv b w (set5 (w1) (w.heap.size) (.int .i64 zk) (.int .i64 zp) (.string zs) (.slice zA zw.length zc) (.slice zBq zz.length zd))) := set5_mv (HMM.out) (by omega) hbw
   have HNF : Hid (NodeV (set5 (w1) (w.heap.size) (.int .i64 zk) (.int .i64 zp) (.string zs) (.slice zA zw.length zc) (.slice zBq zz.length zd)) w.heap.size (x) (.agg #[.int .i64 zk, .int .i64 zp, .string zs, (.slice zA zw.length zc), (.slice zBq zz.length zd)])) := ⟨.mk zk zp zs zA zc zw zBq zd zz, rfl, HZ.out, set5_deep HDZ.out fun k _ hk => ⟨by have := HZW.out; omega, by have := HZW.out; omega⟩⟩
   change bodyPost _ _ _ _ _ (set5 (w1) (w.heap.size) (.int .i64 zk) (.int .i64 zp) (.string zs) (.slice zA zw.length zc) (.slice zBq zz.length zd))
   exact bodyPost_ret (ret_cell rfl _ _ (w.heap.size) _ _ (0, 0) _ rfl HRF.out Tryz.underlying28 rfl (node_info _ _ _ _ _)) rfl (HQ.out _ _ ⟨_, (x), _, _, rfl, HNF.out, HSF.out, HMF.out, label_step_eq (by omega) HKK.out HST1.out⟩)
  ·have q1 : ((kindOf (rest l i) f : Int) == 43) = false := by rw [beq_eq_false_iff_ne]; omega
   have q2 : ((kindOf (rest l i) f : Int) == 38) = false := by rw [beq_eq_false_iff_ne]; omega
   have HAV := zh (fun x i2 f2 (h : Step (atomR (d + 1)) l i e f x i2 f2) => label_atom (d := d) h43 h38 h)
   clear h43 h38
   generalize kindOf (rest l i) f = q at *
   go_enter Tryz.func125, Tryz.ntmps125
   go_wp2_with fail
   refine HK0.out.mono ?_
   rintro e' w0 ⟨rfl, hd1⟩
   have HG := zh (HG0.out.below hd1.below HG0.out.lt)
   have HM := zh (HM0.out.dr hbw hd1)
   have HC := zh (atom_any d hd _ b A c l i e f (HS0.out.dr hd1) hN)
   clear hd1
   go_wp2_with fail
   refine HC.out.mono ?_
   rintro e' w1 ⟨v, x, i2, f2, rfl, ⟨⟨zk, zp, zs, zA, zc, zw, zBq, zd, zz⟩, rfl, hz, hdz⟩, hs1, hm1, hst⟩
   have HG1 := zh (HG.out.mv hm1 (by have := HG.out.lt; omega))
   have HS1 := zh hs1
   have HMM := zh (HM.out.trans hm1)
   have HZ := zh hz
   have HDZ := zh hdz
   have HZW := zh HG.out.lt
   have HST1 := zh hst
   obtain ⟨g0, g1, g2, g3, g4, u0, u1, u2, u3, u4⟩ := row5 HG1.out
   clear hs1 hm1 hst hz hdz
   unfold nv
   simp only [Nd.k, Nd.p, Nd.s, Nd.A, Nd.c, Nd.ws, Nd.B, Nd.d, Nd.ks]
   go_wp2_with fail
   have HRF : Hid (RowAt (set5 (w1) (w.heap.size) (.int .i64 zk) (.int .i64 zp) (.string zs) (.slice zA zw.length zc) (.slice zBq zz.length zd)) (w.heap.size) 28 #[.int .i64 zk, .int .i64 zp, .string zs, (.slice zA zw.length zc), (.slice zBq zz.length zd)]) := set5_row (HG1.out)
   have HSF : Hid (Rs (set5 (w1) (w.heap.size) (.int .i64 zk) (.int .i64 zp) (.string zs) (.slice zA zw.length zc) (.slice zBq zz.length zd)) b A c l _ e _) := set5_rs (HS1.out) (by omega)
   have HMF : Hid (Mv b w (set5 (w1) (w.heap.size) (.int .i64 zk) (.int .i64 zp) (.string zs) (.slice zA zw.length zc) (.slice zBq zz.length zd))) := set5_mv (HMM.out) (by omega) hbw
   have HNF : Hid (NodeV (set5 (w1) (w.heap.size) (.int .i64 zk) (.int .i64 zp) (.string zs) (.slice zA zw.length zc) (.slice zBq zz.length zd)) w.heap.size (x) (.agg #[.int .i64 zk, .int .i64 zp, .string zs, (.slice zA zw.length zc), (.slice zBq zz.length zd)])) := ⟨.mk zk zp zs zA zc zw zBq zd zz, rfl, HZ.out, set5_deep HDZ.out fun k _ hk => ⟨by have := HZW.out; omega, by have := HZW.out; omega⟩⟩
   change bodyPost _ _ _ _ _ (set5 (w1) (w.heap.size) (.int .i64 zk) (.int .i64 zp) (.string zs) (.slice zA zw.length zc) (.slice zBq zz.length zd))
   exact bodyPost_ret (ret_cell rfl _ _ (w.heap.size) _ _ (0, 0) _ rfl HRF.out Tryz.underlying28 rfl (node_info _ _ _ _ _)) rfl (HQ.out _ _ ⟨_, (x), _, _, rfl, HNF.out, HSF.out, HMF.out, HAV.out _ _ _ HST1.out⟩)
theorem label_any : ∀ d, d ≤ 4294967296 → Reads 125 NodeV (labelR (d + 1)) d := by
 intro d
 induction d with
 | zero => intro h; exact label_step 0 h fun d' hd => by omega
 | succ d ih =>
   intro h
   refine label_step (d + 1) h fun d' hd => ?_
   obtain rfl : d = d' := by omega
   exact ih (by omega)
end
section
open Go.RowKit LX TR TM
theorem field_step {d : Nat} {l : List Tr} {i e : Int} {f : Option Int} {x : Wd} {t : Tk} {n : Nd} {i2 i3 i4 : Int} {f2 f3 f4 : Option Int} (h : Step nameR l i e f x i2 f2) (h2 : Step (takeR 61) l i2 e f2 t i3 f3) (h3 : Step (atomR d) l i3 e f3 n i4 f4) :
 Step (fieldR d) l i e f (nd 11 x.p x.s [] [n]) i4 f4 := by
 have e1 := h3.map (fun n => nd 11 x.p x.s [] [n])
 have e2 := Step.bind (rd2 := fun _ ts e => bnd (atomR d ts e) fun n r3 => .ok (nd 11 x.p x.s [] [n], r3)) h2 e1
 exact Step.bind (rd2 := fun w ts e => bnd (takeR 61 ts e) fun _ r2 => bnd (atomR d r2 e) fun n r3 => .ok (nd 11 w.p w.s [] [n], r3)) h e2
theorem field_any (d : Nat) (hd : d ≤ 4294967296) : Reads 139 NodeV (fieldR (d + 1)) d := by
 intro w b A c l i e f h hN
 have hbw := h.lt
 have HM0 : Hid (Mv b w (w.alloc (.cells #[.int .i64 0, .int .i64 0, .string ⟨#[]⟩, .slice none 0 0, .slice none 0 0] 28))) := (Mv.refl b w).alloc hbw _
 have HG := zh (RowAt.new w 28 #[.int .i64 0, .int .i64 0, .string ⟨#[]⟩, .slice none 0 0, .slice none 0 0])
 have HT := zh (name_any (nodes (rest l i)).length _ b A c l i e f (h.mv HM0.out (h.at_.alloc _)) (zL _))
 clear h
 refine calls_hid fun Q' hQ => ?_
 have HQ := zh hQ; clear hQ
 go_enter Tryz.func139, Tryz.ntmps139
 go_wp2_with fail
 refine HT.out.mono ?_
 rintro e' w1 ⟨v, ⟨s, p⟩, i2, f2, rfl, rfl, hs, hm, hst⟩
 have HG1 := HG.out.mv hm (Nat.ne_of_gt hbw)
 have hsz := HG1.lt
 have HS1 := zh (hs.alloc (.cells #[.string s, .int .i64 p] 23))
 have HM1 := zh ((HM0.out.trans hm).alloc hbw (.cells #[.string s, .int .i64 p] 23))
 have HK1 : Hid (KeepR w1.heap.size w.heap.size w b s p (w1.alloc (.cells #[.string s, .int .i64 p] 23))) := ⟨RowAt.new w1 _ _, HG1.alloc _, HM1.out, zL _, Nat.le_of_lt hsz⟩
 have HST := zh hst
 have HTK := zh (take_any HS1.out 61 (by decide))
 have hn5 := RowAt.new w1 23 #[.string s, .int .i64 p]
 obtain ⟨m0, m1, _, _⟩ := row2 hn5
 have HSZ := zh hsz
 clear hs hm hst HG1 hn5 HM1 HS1
 unfold wv
 go_wp2_with fail
 refine HTK.out.mono ?_
 rintro e' w2 ⟨t, i3, f3, rfl, hs2, hm2, hst2⟩
 have HK2 := zh (HK1.out.mv hbw hm2)
 have HS2 := zh hs2
 have HST2 := zh hst2
 clear hs2 hm2 hst2 m0 m1 HK1 HTK
 go_upto_region 3 with fail
 obtain ⟨S, hSe⟩ : ∃ S : World → Prop, S = fun w' => RowAt w' w1.heap.size 23 #[.string s, .int .i64 p] := ⟨_, rfl⟩
 have HS : Hid (S w2.drew) := by rw [hSe]; exact zh HK2.out.1.drew
 have C0 : ∀ w', S w' → w'.cell? ⟨w1.heap.size, 0, none⟩ = some (.string s) := fun w' h => by rw [hSe] at h; exact (RowAt.cell h 0).trans rfl
 have C1 : ∀ w', S w' → w'.cell? ⟨w1.heap.size, 1, none⟩ = some (.int .i64 p) := fun w' h => by rw [hSe] at h; exact (RowAt.cell h 1).trans rfl
 have HC := zh (atom_any d hd w2.drew b A c l i3 e f3 (HS2.out.dr (w' := w2.drew) ⟨1, rfl⟩) (zM (HST.out.1.trans HST2.out.1).nodes hN))
 refine wp_region_ord S [(0, true), (1, true), (2, true), (3, true), (4, true), (5, false), (6, false), (7, true), (8, false)] (by kernel_rfl) (by kernel_rfl) rfl (by kernel_rfl) HS.out ?_
 iterate 5
  (refine wpOrd_step (zO rfl) ?_)
  (first
        | (refine wpOrd_skip (by rfl) ?_)
        | (refine wpOrd_take (v := ?_) (by rfl) ?_ ?_; rotate_left 1; (intro wx hSx; have hc_0 := C0 wx hSx; have hc_1 := C1 wx hSx; go_simp; try with_reducible rfl)))
  (try simp only [Act.put, zA4, zA5, zA6])
 (refine wpOrd_solo (zO rfl) ?_)
 intro K hK
 go_simp
 go_at_call 133
 refine HC.out.mono ?_
 rintro e' w3 ⟨v, x, i4, f4, rfl, ⟨z, rfl, rfl, hdz⟩, hs3, hm3, hst3⟩
 have HK3 := zh (HK2.out.mv hbw (((Mv.refl b w2).drew).trans hm3))
 have hS3 : S w3 := by rw [hSe]; exact HK3.out.1
 refine hK.out _ _ hS3 ?_
 clear HS hK K
 have HS := zh hS3
 have HS4 := zh hs3
 have HZ3 : Hid (w.heap.size < w2.heap.size) := HK2.out.2.1.lt
 have HSS := zh (field_step HST.out HST2.out hst3)
 have HDZ := zh hdz
 clear hs3 hm3 hst3 hS3 hdz
 (refine wpOrd_solo (zO rfl) ?_)
 intro K hK
 obtain ⟨zk, zp, zs, zA, zc, zw, zBq, zd, zz⟩ := z
 unfold nv
 simp only [Nd.k, Nd.p, Nd.s, Nd.A, Nd.c, Nd.ws, Nd.B, Nd.d, Nd.ks]
 go_simp
 have hS4 : S (w3.alloc (.cells #[.int .i64 zk, .int .i64 zp, .string zs, .slice zA zw.length zc, .slice zBq zz.length zd] 28)) := by
  have h := HS.out
  rw [hSe] at h ⊢
  exact RowAt.alloc h _
 refine hK.out _ _ hS4 ?_
 clear HS hK K
 have HS := zh hS4; clear hS4
 have HRZ := zh (RowAt.new w3 28 #[.int .i64 zk, .int .i64 zp, .string zs, .slice zA zw.length zc, .slice zBq zz.length zd])
 have HG4 := zh (HK3.out.2.1.alloc (.cells #[.int .i64 zk, .int .i64 zp, .string zs, .slice zA zw.length zc, .slice zBq zz.length zd] 28))
 have HM4 := zh (HK3.out.2.2.1.alloc hbw (.cells #[.int .i64 zk, .int .i64 zp, .string zs, .slice zA zw.length zc, .slice zBq zz.length zd] 28))
 have HS5 := zh (HS4.out.alloc (.cells #[.int .i64 zk, .int .i64 zp, .string zs, .slice zA zw.length zc, .slice zBq zz.length zd] 28))
 have HDZ4 : Hid (DeepN (w3.alloc (.cells #[.int .i64 zk, .int .i64 zp, .string zs, .slice zA zw.length zc, .slice zBq zz.length zd] 28)) (fun k => w2.drew.heap.size ≤ k) [Nd.mk zk zp zs zA zc zw zBq zd zz]) := HDZ.out.keep (by simp) (fun k hk _ => heap_alloc_old _ _ hk) fun _ _ h => h
 have hz33 : w.heap.size < w3.heap.size := HK3.out.2.1.lt
 have HZZ : Hid (w.heap.size < w3.heap.size) := hz33
 have HZ1 : Hid (w.heap.size < w1.heap.size) := HSZ.out
 clear HK3 HDZ HS4
 iterate 1
  (refine wpOrd_step (zO rfl) ?_)
  (first
        | (refine wpOrd_skip (by rfl) ?_)
        | (refine wpOrd_take (v := ?_) (by rfl) ?_ ?_; rotate_left 1; (intro wx hSx; have hc_0 := C0 wx hSx; have hc_1 := C1 wx hSx; go_simp; try with_reducible rfl)))
  (try simp only [Act.put, zA4, zA5, zA6])
 (refine wpOrd_solo (zO rfl) ?_)
 intro K hK
 rw [if_pos (by rfl)]
 refine wp_store_row _ _ _ rfl w.heap.size #[.int .i64 11, .int .i64 p, .string s, .slice none 0 0, .slice (some ⟨w3.heap.size, 0, none⟩) 1 1] rfl rfl _ _ HG4.out (node_info _ _ _ _ _) rfl (by simp [Value.oneCell']) ?_
 have hrow := HG4.out.setRow #[.int .i64 11, .int .i64 p, .string s, .slice none 0 0, .slice (some ⟨w3.heap.size, 0, none⟩) 1 1]
 have hS4 : S ((w3.alloc (.cells #[.int .i64 zk, .int .i64 zp, .string zs, .slice zA zw.length zc, .slice zBq zz.length zd] 28)).setRow w.heap.size #[.int .i64 11, .int .i64 p, .string s, .slice none 0 0, .slice (some ⟨w3.heap.size, 0, none⟩) 1 1]) := by
  have h := HS.out
  rw [hSe] at h ⊢
  exact (setRow_other _ w.heap.size w1.heap.size _ (Nat.ne_of_gt HZ1.out)).trans h
 refine hK.out _ _ hS4 ?_
 clear hK K
 simp only [Act.put]
 refine wpOrd_done ?_
 go_wp2
 have hnv : NodeV ((w3.alloc (.cells #[.int .i64 zk, .int .i64 zp, .string zs, .slice zA zw.length zc, .slice zBq zz.length zd] 28)).setRow w.heap.size #[.int .i64 11, .int .i64 p, .string s, .slice none 0 0, .slice (some ⟨w3.heap.size, 0, none⟩) 1 1]) w.heap.size (nd 11 p s [] [er1 (.mk zk zp zs zA zc zw zBq zd zz)]) (.agg #[.int .i64 11, .int .i64 p, .string s, .slice none 0 0, .slice (some ⟨w3.heap.size, 0, none⟩) 1 1]) :=
  nodeV_one (Nat.le_of_lt HZZ.out) ((setRow_other _ w.heap.size w3.heap.size _ (Nat.ne_of_gt HZZ.out)).trans HRZ.out) (setRow_deep HDZ4.out _ fun k _ hk => ⟨by have h1 := HZ3.out; have h2 : w2.heap.size ≤ k := hk; omega, by have h1 := HZ3.out; have h2 : w2.heap.size ≤ k := hk; omega⟩)
 exact bodyPost_ret (ret_cell rfl _ _ w.heap.size _ _ (0, 0) _ rfl hrow Tryz.underlying28 rfl (node_info _ _ _ _ _)) rfl (HQ.out _ _ ⟨_, nd 11 p s [] [er1 (.mk zk zp zs zA zc zw zBq zd zz)], i4, f4, rfl, hnv, setRow_rs HS5.out hbw _, setRow_mv HM4.out hbw (zL _) _, HSS.out⟩)
end
section
open Go.RowKit LX TR TM
def BoxR (b r g : Nat) (p : Int) (w : World) (x : List Nd × List Wd) : Prop :=
 (∃ A c B d zs, TM.er zs = x.1 ∧ zs.length ≤ d ∧ x.2.length ≤ c ∧ RowAt w g 28 #[.int .i64 10, .int .i64 p, .string ⟨#[]⟩, .slice A x.2.length c, .slice B zs.length d] ∧ SlC w (fun k => g < k) A (wcs x.2) ∧ SlC w (fun k => g < k) B (ncs zs) ∧ DeepN w (fun k => g < k) zs) ∧ RowAt w r 139 #[.pointer (some ⟨b, 0, none⟩)]
theorem BoxR.keep {b r g : Nat} {p : Int} {wa wb : World} {x : List Nd × List Wd} (h : BoxR b r g p wa x) (hr : r ≠ b) (hb : b < g) (hk : ∀ k, k < wa.heap.size → k ≠ b → wb.heap[k]? = wa.heap[k]?) : BoxR b r g p wb x := by
 obtain ⟨⟨A, c, B, d, zs, h0, h1, h1', h2, h3, h3', h5⟩, h4⟩ := h
 exact ⟨⟨A, c, B, d, zs, h0, h1, h1', (hk g h2.lt (by omega)).trans h2, h3.keep9 fun k hlt hok => hk k hlt (by omega), h3'.keep9 fun k hlt hok => hk k hlt (by omega), h5.keep9 fun k hlt hok => hk k hlt (by omega)⟩, (hk r h4.lt hr).trans h4⟩
section
variable {d : Nat} {l : List Tr} {i e : Int} {f : Option Int} {i2 i3 : Int} {f2 f3 : Option Int} {ks : List Nd}
theorem tail_none (hk : kindOf (rest l i) f ≠ 124) : Step (tailR ks) l i e f (ks, []) i f := by
 cases f with
 | some p => exact Step.bad (Adv.refl _ _)
 | none =>
   refine Step.ok (Adv.refl _ _) ?_
   cases hr : rest l i with
   | nil => rfl
   | cons y r =>
     rw [hr] at hk
     have q : ¬ y.t.k = 124 := hk
     simp only [tailR]
     rw [if_neg q]
theorem tail_some {t : Tk} {x : Wd} (hk : kindOf (rest l i) f = 124) (h : Step (takeR 124) l i e f t i2 f2) (h2 : Step nameR l i2 e f2 x i3 f3) : Step (tailR ks) l i e f (ks, [x]) i3 f3 := by
 obtain ⟨rfl, y, r, hr, hy⟩ := kind_head hk (by decide)
 have e2 := h2.map (fun w : Wd => (ks, [w]))
 refine Step.of_eq (Step.bind (rd2 := fun _ ts e' => bnd (nameR ts e') fun w r2 => .ok ((ks, [w]), r2)) h e2) ?_
 rw [hr, takeR_hit hy]
 simp only [tailR]
 rw [if_pos hy]; rfl
theorem inrow_step {x : List Nd × List Wd} (h : Step (optR (fieldR d)) l i e f ks i2 f2) (h2 : Step (tailR ks) l i2 e f2 x i3 f3) : Step (inrowR d) l i e f x i3 f3 := by
 have h3 := Step.bind (rd2 := fun ks ts e => tailR ks ts e) h h2
 exact h3
theorem row_var {x : Nd} (hk : kindOf (rest l i) f ≠ 91) (h : Step varR l i e f x i2 f2) : Step (rowR d) l i e f x i2 f2 := by
 cases f with
 | some p =>
   obtain rfl := h.2.1 p rfl
   exact Step.bad h.1
 | none =>
   refine h.of_eq ?_
   cases hr : rest l i with
   | nil => rfl
   | cons y r =>
     rw [hr] at hk
     have q : ¬ y.t.k = 91 := hk
     simp only [rowR]
     rw [if_neg q]
theorem row_in {x : List Nd × List Wd} (hk : kindOf (rest l i) f = 91) (h : Step (withinR 91 (inrowR d)) l i e f x i2 f2) : Step (rowR d) l i e f (nd 10 (offOf (rest l i) e) e0 x.2 x.1) i2 f2 := by
 obtain ⟨rfl, y, r, hr, hy⟩ := kind_head hk (by decide)
 refine Step.of_eq (h.map fun kw => nd 10 (offOf (rest l i) e) e0 kw.2 kw.1) ?_
 rw [hr]
 simp only [rowR]
 rw [if_pos hy]; rfl
end
theorem row1_in (N b r g : Nat) (p : Int) (hb : b < g) (hr : r ≠ b) (hrg : r ≠ g) (hN : N ≤ 4294967296) : Content 137 #[.pointer (some ⟨r, 0, none⟩), .pointer (some ⟨g, 0, none⟩)] (BoxR b r g p) (inrowR (N + 1)) b g N ([], []) := by
 intro w A c l e hv h hNl
 obtain ⟨⟨A0, c0, B0, d0, zs0, he0, _, _, hg0, _, _, _⟩, hr0⟩ := hv
 obtain rfl : zs0 = [] := by
  have h1 : (TM.er zs0).length = 0 := by rw [he0]; rfl
  rw [TM.er_length] at h1
  exact List.eq_nil_of_length_eq_zero h1
 have r0 := (hr0.cell 0).trans rfl
 have hll := length_nodes l
 have HC := zh (optN_any (fun _ _ => by kernel_rfl) (field_any N hN) h (by simpa [rest] using hNl) (by omega))
 have hbw := h.lt
 have hgw := hg0.lt
 have HG0 := zh hg0
 have HR0 := zh hr0
 clear h hg0 hr0 he0
 refine calls_hid fun Q' hQ => ?_
 have HQ := zh hQ; clear hQ
 go_enter Tryz.func137, Tryz.ntmps137
 go_wp2_with fail
 refine HC.out.mono ?_
 rintro e' w1 ⟨v, x, i2, f2, rfl, ⟨X, d, zs, rfl, hd, rfl, hsl, hdp⟩, hs, hm, hst⟩
 have HG1 := zh (HG0.out.mv hm (by omega))
 have HR1 := zh (HR0.out.mv hm (by omega))
 have hoth : ∀ k, k ≠ g → (w1.setCell ⟨g, 4, none⟩ (.slice X zs.length d)).heap[k]? = w1.heap[k]? := fun k hk => by
  simp only [World.setCell, Array.getElem?_modify]
  rw [if_neg (Ne.symm hk)]
 have HSL : Hid (SlC (w1.setCell ⟨g, 4, none⟩ (.slice X zs.length d)) (fun k => g < k) X (ncs zs)) := hsl.keep (by simp [World.setCell]) (fun k _ hk => hoth k (by omega)) fun k _ hk => by omega
 have HDP : Hid (DeepN (w1.setCell ⟨g, 4, none⟩ (.slice X zs.length d)) (fun k => g < k) zs) := hdp.keep (by simp [World.setCell]) (fun k _ hk => hoth k (by omega)) fun k _ hk => by omega
 have HOT := zh hoth
 have HS2 := zh (hs.far (g := g) (j := 4) (u := .slice X zs.length d) (by omega))
 have HG2 := zh (HG1.out.put 4 (.slice X zs.length d))
 have HR2 := zh (HR1.out.far (p := ⟨g, 4, none⟩) (Ne.symm hrg) (.slice X zs.length d))
 have HB2 : Hid (Below b w (w1.setCell ⟨g, 4, none⟩ (.slice X zs.length d))) := hm.low.setCell (p := ⟨g, 4, none⟩) (by show b ≤ g; omega) _
 have HF2 : Hid (∀ k, k < w.heap.size → k ≠ b → k ≠ g → (w1.setCell ⟨g, 4, none⟩ (.slice X zs.length d)).heap[k]? = w.heap[k]?) := fun k hk h1 h2 => (hoth k h2).trans (hm.block k hk h1)
 have HST := zh hst
 have g4 := (HG1.out.cell 4).trans rfl
 have u4 := HG1.out.free 4
 have hgg : g < w1.heap.size := HG1.out.lt
 clear hs hm hst hsl hdp hoth r0
 go_upto_region 1 with fail
 have hw2 : (w1.setCell ⟨g, 4, none⟩ (.slice X zs.length d)).heap.size = w1.heap.size := by simp [World.setCell]
 clear g4 u4 HG1 HR1 HOT
 generalize w1.setCell ⟨g, 4, none⟩ (.slice X zs.length d) = w2 at *
 have r2 := (HR2.out.cell 0).trans rfl
 have HK2 := zh (kind_any HS2.out)
 by_cases hk : kindOf (rest l i2) f2 = 124
 ·rw [hk] at HK2
  have HKK := zh hk; clear hk
  go_wp2_with fail
  refine HK2.out.mono ?_
  rintro e' w3 ⟨rfl, hd3⟩
  have HR3 := zh (HR2.out.below hd3.below HR2.out.lt)
  have HM3 := zh (Mv.below HS2.out.lt hd3.below)
  have HT3 := zh (take_any (HS2.out.dr hd3) 124 (by decide))
  have r3 := (HR3.out.cell 0).trans rfl
  clear hd3 r2
  go_wp2_with fail
  refine HT3.out.mono ?_
  rintro e' w4 ⟨t, i3, f3, rfl, hs4, hm4, hst4⟩
  have HR4 := zh (HR3.out.mv hm4 (by omega))
  have HM4 := zh (HM3.out.trans hm4)
  have HST4 := zh hst4
  have HC4 := zh (name_any (nodes (rest l i3)).length w4 b A c l i3 e f3 hs4 (zL _))
  have r4 := (HR4.out.cell 0).trans rfl
  clear hs4 hm4 hst4 r3
  go_wp2_with fail
  refine HC4.out.mono ?_
  rintro e' w5 ⟨v, ⟨s9, p9⟩, i4, f4, rfl, rfl, hs5, hm5, hst5⟩
  have HM5 := zh (HM4.out.trans hm5)
  have HG5 := zh (HG2.out.mv HM5.out (by omega))
  have HR5 := zh (HR2.out.mv HM5.out (by omega))
  have HS5 := zh hs5
  have HSS := zh (inrow_step HST.out (tail_some (ks := TM.er zs) HKK.out HST4.out hst5))
  have hg5 : g < w5.heap.size := HG5.out.lt
  have g3 := (HG5.out.cell 3).trans rfl
  have u3 := HG5.out.free 3
  clear hs5 hm5 hst5 r4
  unfold wv
  go_wp2_with fail
  go_end0
  have hsz5 : (w5.setCell ⟨g, 3, none⟩ (.slice (some ⟨w5.heap.size, 0, none⟩) 1 1)).heap.size = w5.heap.size := by simp [World.setCell]
  have hoth : ∀ k, k < w5.heap.size → k ≠ g → ((w5.setCell ⟨g, 3, none⟩ (.slice (some ⟨w5.heap.size, 0, none⟩) 1 1)).alloc (.cells #[.string s9, .int .i64 p9] 23)).heap[k]? = w5.heap[k]? := fun k hk hne => by
   rw [heap_alloc_old _ _ (by rw [hsz5]; exact hk)]
   simp only [World.setCell, Array.getElem?_modify]
   rw [if_neg (Ne.symm hne)]
  have hkp : ∀ k, k < w2.heap.size → g < k → ((w5.setCell ⟨g, 3, none⟩ (.slice (some ⟨w5.heap.size, 0, none⟩) 1 1)).alloc (.cells #[.string s9, .int .i64 p9] 23)).heap[k]? = w2.heap[k]? := fun k hk hgk =>
   (hoth k (zT hk HM5.out.size) (by omega)).trans (HM5.out.block k hk (by omega))
  have hnew := RowAt.new (w5.setCell ⟨g, 3, none⟩ (.slice (some ⟨w5.heap.size, 0, none⟩) 1 1)) 23 #[.string s9, .int .i64 p9]
  rw [hsz5] at hnew
  refine HQ.out _ _ ⟨(TM.er zs, [⟨s9, p9⟩]), i4, f4, rfl, ⟨⟨some ⟨w5.heap.size, 0, none⟩, 1, X, d, zs, rfl, hd, zL _, (HG5.out.put 3 _).alloc _, fun _ => ⟨w5.heap.size, 0, rfl, hnew.lt, hg5, fun j u hu => by
   rw [Nat.zero_add, hnew.cell]
   simpa [wcs, wcells] using hu⟩, HSL.out.keep9 hkp, HDP.out.keep9 hkp⟩, (HR5.out.far (p := ⟨g, 3, none⟩) (Ne.symm hrg) _).alloc _⟩, (HS5.out.far (by omega)).alloc _, ?_, fun k hk h1 h2 => ?_, HSS.out⟩
  ·exact ((HB2.out.trans HM5.out.low).setCell (p := ⟨g, 3, none⟩) (by show b ≤ g; omega) _).alloc (by show b ≤ _; rw [hsz5]; omega) _
  ·have h3 : k < w2.heap.size := zT hk HB2.out.size
   exact (hoth k (zT h3 HM5.out.size) h2).trans ((HM5.out.block k h3 h1).trans (HF2.out k hk h1 h2))
 ·have hne : ((kindOf (rest l i2) f2 : Int) == 124) = false := by rw [beq_eq_false_iff_ne]; omega
  have HSS := zh (inrow_step HST.out (tail_none (ks := TM.er zs) (e := e) hk))
  clear hk
  generalize kindOf (rest l i2) f2 = q at *
  go_wp2_with fail
  refine HK2.out.mono ?_
  rintro e' w3 ⟨rfl, hd3⟩
  have hm3 := Mv.below HS2.out.lt hd3.below
  have HS3 := zh (HS2.out.dr hd3)
  have hV3 : BoxR b r g p w3 (TM.er zs, []) := BoxR.keep (wa := w2) ⟨⟨_, _, X, d, zs, rfl, hd, Nat.zero_le _, HG2.out, SlC.nil _ _ _, HSL.out, HDP.out⟩, HR2.out⟩ hr hb hm3.block
  have HV3 := zh hV3
  have HB3 := zh (HB2.out.trans hm3.low)
  have HF3 : Hid (∀ k, k < w.heap.size → k ≠ b → k ≠ g → w3.heap[k]? = w.heap[k]?) := fun k hk h1 h2 => (hm3.block k (zT hk HB2.out.size) h1).trans (HF2.out k hk h1 h2)
  clear hd3 hm3 hV3 r2
  go_wp2_with fail
  go_end0
  exact HQ.out _ _ ⟨(TM.er zs, []), i2, f2, rfl, HV3.out, HS3.out, HB3.out, HF3.out, HSS.out⟩
theorem nodeV_row {w : World} {s0 : Nat} {p : Int} {ws : List Wd} {zs : List Nd} {A X : Option Addr} {c d : Nat} (hc : ws.length ≤ c) (hd : zs.length ≤ d) (h0 : SlC w (fun k => s0 ≤ k) A (wcs ws)) (h : SlC w (fun k => s0 ≤ k) X (ncs zs)) (h2 : DeepN w (fun k => s0 ≤ k) zs) :
 NodeV w s0 (nd 10 p e0 ws (TM.er zs)) (.agg #[.int .i64 10, .int .i64 p, .string ⟨#[]⟩, .slice A ws.length c, .slice X zs.length d]) :=
 ⟨.mk 10 p e0 A c ws X d zs, rfl, by simp [er1, nd, Nd.k, Nd.p, Nd.s, Nd.ws, Nd.ks], DeepN.one ⟨⟨h0, hc⟩, h, hd⟩ h2⟩
theorem row_any (d : Nat) (hd : d ≤ 4294967296) : Reads 126 NodeV (rowR (d + 1)) d := by
 intro w b A c l i e f h hN
 have hmf : ∀ (fn : Fn) (first cap : Array Value) (w : World), (Instr.makeFunc fn first cap).run Tryz.prog w = .ok (.func fn first cap) w := fun _ _ _ _ => rfl
 have hbw := h.lt
 have hr0 := (RowAt.new w 139 #[.pointer (some ⟨b, 0, none⟩)]).alloc (.cells #[.int .i64 0, .int .i64 0, .string ⟨#[]⟩, .slice none 0 0, .slice none 0 0] 28)
 have hg0 := RowAt.new (w.alloc (.cells #[.pointer (some ⟨b, 0, none⟩)] 139)) 28 #[.int .i64 0, .int .i64 0, .string ⟨#[]⟩, .slice none 0 0, .slice none 0 0]
 rw [show (w.alloc (.cells #[.pointer (some ⟨b, 0, none⟩)] 139)).heap.size = w.heap.size + 1 by simp] at hg0
 have hbz : Below w.heap.size w ((w.alloc (.cells #[.pointer (some ⟨b, 0, none⟩)] 139)).alloc (.cells #[.int .i64 0, .int .i64 0, .string ⟨#[]⟩, .slice none 0 0, .slice none 0 0] 28)) := ((zB _ _).alloc (zL _) _).alloc (by simp) _
 have HS0 := zh (h.below hbz)
 have HM0 := zh (Mv.below hbw hbz)
 have HK0 := zh (kind_any HS0.out)
 have HR0 := zh hr0
 have HG0 := zh hg0
 have r0 := (hr0.cell 0).trans rfl
 have hzz : ((w.alloc (.cells #[.pointer (some ⟨b, 0, none⟩)] 139)).alloc (.cells #[.int .i64 0, .int .i64 0, .string ⟨#[]⟩, .slice none 0 0, .slice none 0 0] 28)).heap.size = w.heap.size + 2 := by simp
 have HZZ := zh hzz
 clear h hr0 hg0 hbz hzz
 refine calls_hid fun Q' hQ => ?_
 have HQ := zh hQ; clear hQ
 by_cases h91 : kindOf (rest l i) f = 91
 ·rw [h91] at HK0
  have HKK := zh h91; clear h91
  generalize hoff : offOf (rest l i) e = off at *
  have HOFF := zh hoff; clear hoff
  go_enter Tryz.func126, Tryz.ntmps126
  go_wp2_with fail
  refine HK0.out.mono ?_
  rintro e' w0 ⟨rfl, hd0⟩
  have HZ0 : Hid (w0.heap.size = w.heap.size + 2) := by obtain ⟨n, rfl⟩ := hd0; exact HZZ.out
  have HRa := zh (HR0.out.below hd0.below HR0.out.lt)
  have HGa := zh (HG0.out.below hd0.below HG0.out.lt)
  have HSa := zh (HS0.out.dr hd0)
  have HMa := zh (HM0.out.dr hbw hd0)
  have HO := zh (offset_any HSa.out)
  rw [HOFF.out] at HO
  have ra := (HRa.out.cell 0).trans rfl
  clear hd0 r0 HR0 HG0 HS0 HM0
  go_wp2_with fail
  refine HO.out.mono ?_
  rintro e' w1 ⟨rfl, hd1⟩
  have hz1 : w1.heap.size = w.heap.size + 2 := by obtain ⟨n, rfl⟩ := hd1; exact HZ0.out
  have HR1 := zh ((HRa.out.below hd1.below HRa.out.lt).alloc (.cells #[.int .i64 10, .int .i64 off, .string ⟨#[]⟩, .slice none 0 0, .slice none 0 0] 28))
  have HG1 := zh ((HGa.out.below hd1.below HGa.out.lt).alloc (.cells #[.int .i64 10, .int .i64 off, .string ⟨#[]⟩, .slice none 0 0, .slice none 0 0] 28))
  have hn1 := RowAt.new w1 28 #[.int .i64 10, .int .i64 off, .string ⟨#[]⟩, .slice none 0 0, .slice none 0 0]
  rw [hz1] at hn1
  have HN1 := zh hn1
  have HS1 := zh ((HSa.out.dr hd1).alloc (.cells #[.int .i64 10, .int .i64 off, .string ⟨#[]⟩, .slice none 0 0, .slice none 0 0] 28))
  have HM1 := zh ((HMa.out.dr hbw hd1).alloc hbw (.cells #[.int .i64 10, .int .i64 off, .string ⟨#[]⟩, .slice none 0 0, .slice none 0 0] 28))
  clear ra HRa HGa HSa HMa hd1 hn1
  go_upto_region 4 with fail
  generalize w1.alloc (.cells #[.int .i64 10, .int .i64 off, .string ⟨#[]⟩, .slice none 0 0, .slice none 0 0] 28) = w2 at *
  have r2 := (HR1.out.cell 0).trans rfl
  have hzn : w.heap.size + 2 < w2.heap.size := HN1.out.lt
  have HB2 : Hid (BoxR b w.heap.size (w.heap.size + 2) off w2 ([], [])) := ⟨⟨none, 0, none, 0, [], by simp [TM.er], zL _, zL _, HN1.out, SlC.nil _ _ _, SlC.nil _ _ _, DeepN.nil _ _⟩, HR1.out⟩
  have HW := zh (within_any (N := d) 91 (by decide) (fun _ => by kernel_rfl) HS1.out (by omega) (by omega) (Nat.le_succ_of_le hN) (row1_in d b w.heap.size (w.heap.size + 2) off (by omega) (by omega) (by omega) hd) HB2.out (fun wa wb x hv hk => hv.keep (by omega) (by omega) hk))
  obtain ⟨n0, n1, n2, n3, n4, v0, v1, v2, v3, v4⟩ := row5 HN1.out
  go_wp2_with fail
  refine HW.out.mono ?_
  rintro e' w5 ⟨⟨xk, ws⟩, i9, f9, rfl, ⟨⟨Y, cc, X, dd, zs, hxk, hdd, hcc, hn9, hsw, hsl, hdp⟩, _⟩, hs9, hm9, hst9⟩
  have hxk' : TM.er zs = xk := hxk
  subst hxk'
  have HS9 := zh hs9
  have HM9 := zh (HM1.out.fresh hbw hm9 (by omega))
  have HG9 : Hid (RowAt w5 (w.heap.size + 1) 28 #[.int .i64 0, .int .i64 0, .string ⟨#[]⟩, .slice none 0 0, .slice none 0 0]) := (hm9.block _ HG1.out.lt (by omega) (by omega)).trans HG1.out
  have HN9 := zh hn9
  have HST9 := zh (row_in (d := d + 1) HKK.out hst9)
  rw [HOFF.out] at HST9
  have HSW := zh hsw
  have HSL := zh hsl
  have HDP := zh hdp
  simp only at HN9 HSW HST9 hcc
  clear n0 n1 n2 n3 n4 v0 v1 v2 v3 v4 r2
  obtain ⟨n0, n1, n2, n3, n4, v0, v1, v2, v3, v4⟩ := row5 HN9.out
  obtain ⟨g0, g1, g2, g3, g4, u0, u1, u2, u3, u4⟩ := row5 HG9.out
  clear hs9 hm9 hst9 hsl hdp hn9 hsw hxk
  go_wp2_with fail
  have HRF : Hid (RowAt (set5 (w5) (w.heap.size + 1) (.int .i64 10) (.int .i64 off) (.string ⟨#[]⟩) (.slice Y ws.length cc) (.slice X zs.length dd)) (w.heap.size + 1) 28 #[.int .i64 10, .int .i64 off, .string ⟨#[]⟩, (.slice Y ws.length cc), (.slice X zs.length dd)]) := set5_row (HG9.out)
  have HSF : Hid (Rs (set5 (w5) (w.heap.size + 1) (.int .i64 10) (.int .i64 off) (.string ⟨#[]⟩) (.slice Y ws.length cc) (.slice X zs.length dd)) b A c l _ e _) := set5_rs (HS9.out) (by omega)
  have HMF : Hid (Mv b w (set5 (w5) (w.heap.size + 1) (.int .i64 10) (.int .i64 off) (.string ⟨#[]⟩) (.slice Y ws.length cc) (.slice X zs.length dd))) := set5_mv (HM9.out) (by omega) hbw
  have HNF : Hid (NodeV (set5 (w5) (w.heap.size + 1) (.int .i64 10) (.int .i64 off) (.string ⟨#[]⟩) (.slice Y ws.length cc) (.slice X zs.length dd)) w.heap.size (nd 10 off e0 ws (TM.er zs)) (.agg #[.int .i64 10, .int .i64 off, .string ⟨#[]⟩, (.slice Y ws.length cc), (.slice X zs.length dd)])) := nodeV_row hcc hdd (set5_slc HSW.out fun k _ hk => ⟨by omega, by omega⟩) (set5_slc HSL.out fun k _ hk => ⟨by omega, by omega⟩) (set5_deep HDP.out fun k _ hk => ⟨by omega, by omega⟩)
  change bodyPost _ _ _ _ _ (set5 (w5) (w.heap.size + 1) (.int .i64 10) (.int .i64 off) (.string ⟨#[]⟩) (.slice Y ws.length cc) (.slice X zs.length dd))
  exact bodyPost_ret (ret_cell rfl _ _ (w.heap.size + 1) _ _ (0, 0) _ rfl HRF.out Tryz.underlying28 rfl (node_info _ _ _ _ _)) rfl (HQ.out _ _ ⟨_, (nd 10 off e0 ws (TM.er zs)), _, _, rfl, HNF.out, HSF.out, HMF.out, HST9.out⟩)
 ·have hne : ((kindOf (rest l i) f : Int) != 91) = true := by simp; omega
  have HAV := zh (fun x i2 f2 (h : Step varR l i e f x i2 f2) => row_var (d := d + 1) h91 h)
  clear h91
  generalize kindOf (rest l i) f = q at *
  go_enter Tryz.func126, Tryz.ntmps126
  go_wp2_with fail
  refine HK0.out.mono ?_
  rintro e' w0 ⟨rfl, hd1⟩
  have HG := zh (HG0.out.below hd1.below HG0.out.lt)
  have HRa := zh (HR0.out.below hd1.below HR0.out.lt)
  have HM := zh (HM0.out.dr hbw hd1)
  have HC := zh (variable_any (nodes (rest l i)).length _ b A c l i e f (HS0.out.dr hd1) (zL _))
  have ra := (HRa.out.cell 0).trans rfl
  clear hd1 r0
  go_wp2_with fail
  refine HC.out.mono ?_
  rintro e' w1 ⟨v, x, i2, f2, rfl, ⟨⟨zk, zp, zs, zA, zc, zw, zBq, zd, zz⟩, rfl, hz, hdz⟩, hs1, hm1, hst⟩
  have HG1 := zh (HG.out.mv hm1 (by have := HG.out.lt; omega))
  have HS1 := zh hs1
  have HMM := zh (HM.out.trans hm1)
  have HZ := zh hz
  have HDZ := zh hdz
  have HZW := zh HG.out.lt
  have HST1 := zh hst
  obtain ⟨g0, g1, g2, g3, g4, u0, u1, u2, u3, u4⟩ := row5 HG1.out
  clear hs1 hm1 hst hz hdz
  unfold nv
  simp only [Nd.k, Nd.p, Nd.s, Nd.A, Nd.c, Nd.ws, Nd.B, Nd.d, Nd.ks]
  go_wp2_with fail
  have HRF : Hid (RowAt (set5 (w1) (w.heap.size + 1) (.int .i64 zk) (.int .i64 zp) (.string zs) (.slice zA zw.length zc) (.slice zBq zz.length zd)) (w.heap.size + 1) 28 #[.int .i64 zk, .int .i64 zp, .string zs, (.slice zA zw.length zc), (.slice zBq zz.length zd)]) := set5_row (HG1.out)
  have HSF : Hid (Rs (set5 (w1) (w.heap.size + 1) (.int .i64 zk) (.int .i64 zp) (.string zs) (.slice zA zw.length zc) (.slice zBq zz.length zd)) b A c l _ e _) := set5_rs (HS1.out) (by omega)
  have HMF : Hid (Mv b w (set5 (w1) (w.heap.size + 1) (.int .i64 zk) (.int .i64 zp) (.string zs) (.slice zA zw.length zc) (.slice zBq zz.length zd))) := set5_mv (HMM.out) (by omega) hbw
  have HNF : Hid (NodeV (set5 (w1) (w.heap.size + 1) (.int .i64 zk) (.int .i64 zp) (.string zs) (.slice zA zw.length zc) (.slice zBq zz.length zd)) w.heap.size (x) (.agg #[.int .i64 zk, .int .i64 zp, .string zs, (.slice zA zw.length zc), (.slice zBq zz.length zd)])) := ⟨.mk zk zp zs zA zc zw zBq zd zz, rfl, HZ.out, set5_deep HDZ.out fun k _ hk => ⟨by have := HZW.out; omega, by have := HZW.out; omega⟩⟩
  change bodyPost _ _ _ _ _ (set5 (w1) (w.heap.size + 1) (.int .i64 zk) (.int .i64 zp) (.string zs) (.slice zA zw.length zc) (.slice zBq zz.length zd))
  exact bodyPost_ret (ret_cell rfl _ _ (w.heap.size + 1) _ _ (0, 0) _ rfl HRF.out Tryz.underlying28 rfl (node_info _ _ _ _ _)) rfl (HQ.out _ _ ⟨_, (x), _, _, rfl, HNF.out, HSF.out, HMF.out, HAV.out _ _ _ HST1.out⟩)
end
section
open Go.RowKit LX TR TM
theorem ret_csc {P : Program} {fn : Func} {p q r : Tmp} {ty ty2 : TypeId} (h : fn.results = #[.cell p ty, .tmp q, .cell r ty2]) (tmps : Array Value) (w : World) (v : Value) (g g2 : Nat) (t t2 : TypeId) (cs cs2 : Array Value) (d d2 : TypeDesc)
 (hv : tmps.getD q undef = v) (hp : tmps.getD p undef = .pointer (some ⟨g, 0, none⟩)) (hr : tmps.getD r undef = .pointer (some ⟨g2, 0, none⟩)) (hg : w.heap[g]? = some (.cells cs t (0, 0))) (hg2 : w.heap[g2]? = some (.cells cs2 t2 (0, 0)))
 (hu : P.underlying ty = some d) (hd : (match d with | .struct _ | .array _ _ => true | _ => false) = true) (hi : (P.info? ty).map (·.size) = some cs.size)
 (hu2 : P.underlying ty2 = some d2) (hd2 : (match d2 with | .struct _ | .array _ _ => true | _ => false) = true) (hi2 : (P.info? ty2).map (·.size) = some cs2.size) :
 (results fn tmps).run P w = .ok (.tuple #[.agg cs, v, .agg cs2]) w := by
 have hp' : tmps[p]?.getD undef = .pointer (some ⟨g, 0, none⟩) := by simpa using hp
 have hr' : tmps[r]?.getD undef = .pointer (some ⟨g2, 0, none⟩) := by simpa using hr
 have hv' : tmps[q]?.getD undef = v := by simpa using hv
 simp [results, h, hp', hr', hv', asAddr, run_loadVar_row w g t ty cs (0, 0) d hg hu hd hi, run_loadVar_row w g2 t2 ty2 cs2 (0, 0) d2 hg2 hu2 hd2 hi2]
theorem ret_ssc {P : Program} {fn : Func} {p q r : Tmp} {ty2 : TypeId} (h : fn.results = #[.tmp p, .tmp q, .cell r ty2]) (tmps : Array Value) (w : World) (u v : Value) (g2 : Nat) (t2 : TypeId) (cs2 : Array Value) (d2 : TypeDesc)
 (hp : tmps.getD p undef = u) (hv : tmps.getD q undef = v) (hr : tmps.getD r undef = .pointer (some ⟨g2, 0, none⟩)) (hg2 : w.heap[g2]? = some (.cells cs2 t2 (0, 0)))
 (hu2 : P.underlying ty2 = some d2) (hd2 : (match d2 with | .struct _ | .array _ _ => true | _ => false) = true) (hi2 : (P.info? ty2).map (·.size) = some cs2.size) :
 (results fn tmps).run P w = .ok (.tuple #[u, v, .agg cs2]) w := by
 have hp' : tmps[p]?.getD undef = u := by simpa using hp
 have hr' : tmps[r]?.getD undef = .pointer (some ⟨g2, 0, none⟩) := by simpa using hr
 have hv' : tmps[q]?.getD undef = v := by simpa using hv
 simp [results, h, hp', hr', hv', asAddr, run_loadVar_row w g2 t2 ty2 cs2 (0, 0) d2 hg2 hu2 hd2 hi2]
theorem DeepN.setCell9 {w : World} {ok : Nat → Prop} {l : List Nd} (h : DeepN w ok l) {p : Addr} (hk : ∀ k, ok k → k ≠ p.block) (u : Value) : DeepN (w.setCell p u) ok l :=
 h.keep9 fun k _ ho => by
  simp only [World.setCell, Array.getElem?_modify]
  rw [if_neg (Ne.symm (hk k ho))]
theorem DeepN.drew9 {w : World} {ok : Nat → Prop} {l : List Nd} (h : DeepN w ok l) : DeepN w.drew ok l := h.keep9 fun _ _ _ => rfl
def Handed (s : Nat) (rd : Rdr Nd) (l : List Tr) (i e : Int) (v : Value) (w : World) : Prop := match rd (rest l i) e with
 | .error p => v = .tuple #[.agg (nv n0), .int .i64 0, .agg #[.int .i64 2, .int .i64 p]]
 | .ok (x, r) => ∃ z i2, v = .tuple #[.agg (nv z), .int .i64 i2, .agg #[.int .i64 0, .int .i64 0]] ∧ er1 z = x ∧ DeepN w (fun k => s ≤ k) [z] ∧ Adv l i i2 ∧ r = rest l i2
theorem parseN_any {F : FuncId} {rd : Rdr Nd} {N : Nat} (hf : ∀ args w, (callFunc F args).run Tryz.prog w = .ok (.enter F args) w) (HF : Reads F NodeV rd N) (A : Option Addr) (c : Nat) (l : List Tr) (i e : Int) (w : World)
 (hT : Trs w w.heap.size A l) (hl : l.length ≤ 2199023255552 ∧ ∀ x ∈ nodes l, x.ks.length ≤ 2199023255552) (hN : (nodes (rest l i)).length ≤ N) :
 Calls Tryz.prog 124 #[.slice A l.length c, .int .i64 i, .int .i64 e, .func (.func F) #[] #[]] w fun e' w' => ∃ v, e' = .returned v ∧ Handed w.heap.size rd l i e v w' ∧ Below w.heap.size w w' := by
 have hbz : Below w.heap.size w (((w.alloc (.cells #[.int .i64 0, .int .i64 0, .string ⟨#[]⟩, .slice none 0 0, .slice none 0 0] 28)).alloc (.cells #[.int .i64 0, .int .i64 0] 39)).alloc (.cells (rdc A l.length c i e 0 0) 147)) := (((zB _ _).alloc (zL _) _).alloc (by simp) _).alloc (by simp; omega) _
 have hg0 := ((RowAt.new w 28 #[.int .i64 0, .int .i64 0, .string ⟨#[]⟩, .slice none 0 0, .slice none 0 0]).alloc (.cells #[.int .i64 0, .int .i64 0] 39)).alloc (.cells (rdc A l.length c i e 0 0) 147)
 have hf0 := (RowAt.new (w.alloc (.cells #[.int .i64 0, .int .i64 0, .string ⟨#[]⟩, .slice none 0 0, .slice none 0 0] 28)) 39 #[.int .i64 0, .int .i64 0]).alloc (.cells (rdc A l.length c i e 0 0) 147)
 rw [show (w.alloc (.cells #[.int .i64 0, .int .i64 0, .string ⟨#[]⟩, .slice none 0 0, .slice none 0 0] 28)).heap.size = w.heap.size + 1 by simp] at hf0
 have hb0 := RowAt.new ((w.alloc (.cells #[.int .i64 0, .int .i64 0, .string ⟨#[]⟩, .slice none 0 0, .slice none 0 0] 28)).alloc (.cells #[.int .i64 0, .int .i64 0] 39)) 147 (rdc A l.length c i e 0 0)
 rw [show ((w.alloc (.cells #[.int .i64 0, .int .i64 0, .string ⟨#[]⟩, .slice none 0 0, .slice none 0 0] 28)).alloc (.cells #[.int .i64 0, .int .i64 0] 39)).heap.size = w.heap.size + 2 by simp] at hb0
 have HS0 : Hid (Rs (((w.alloc (.cells #[.int .i64 0, .int .i64 0, .string ⟨#[]⟩, .slice none 0 0, .slice none 0 0] 28)).alloc (.cells #[.int .i64 0, .int .i64 0] 39)).alloc (.cells (rdc A l.length c i e 0 0) 147)) (w.heap.size + 2) A c l i e none) := ⟨hb0, (hT.below hbz).mono (by omega), hl⟩
 have HG0 := zh hg0
 have HF0 := zh hf0
 have HB0 := zh hbz
 have HC := zh (HF _ _ _ _ _ _ _ _ HS0.out hN)
 clear hbz hg0 hf0 hb0 hT
 refine calls_hid fun Q' hQ => ?_
 have HQ := zh hQ; clear hQ
 unfold rdc at HS0 HG0 HF0 HB0 HC
 generalize hn : l.length = n at *
 have HNL := zh hn; clear hn
 go_enter Tryz.func124, Tryz.ntmps124
 go_wp2_with fail
 refine HC.out.mono ?_
 rintro e' w1 ⟨v, x, i2, f2, rfl, ⟨⟨zk, zp, zs, zA, zc, zw, zBq, zd, zz⟩, rfl, hz, hdz⟩, hs1, hm1, hst⟩
 have hsz : w.heap.size + 2 < w1.heap.size := hs1.lt
 have HG1 := zh (HG0.out.mv hm1 (by omega))
 have HF1 := zh (HF0.out.mv hm1 (by omega))
 have HB1 := zh (HB0.out.trans (hm1.low.mono (by omega)))
 have HS1 := zh hs1
 have HZ := zh hz
 have HDZ : Hid (DeepN w1 (fun k => w.heap.size + 3 ≤ k) [Nd.mk zk zp zs zA zc zw zBq zd zz]) := hdz.weak fun k _ hk => by simpa using hk
 obtain ⟨c0, c1, c2, c3, c4⟩ := rd_cells HS1.out.at_
 obtain ⟨g0, g1, g2, g3, g4, u0, u1, u2, u3, u4⟩ := row5 HG1.out
 obtain ⟨m0, m1, v0, v1⟩ := row2 HF1.out
 unfold nv
 simp only [Nd.k, Nd.p, Nd.s, Nd.A, Nd.c, Nd.ws, Nd.B, Nd.d, Nd.ks]
 have HST := zh hst
 clear hs1 hm1 hst hz hdz HC HS0 HG0 HF0 HB0
 cases f2 with
 | some p =>
   simp only [fc, fa, Option.isSome_some, if_true, Option.getD_some] at c3 c4
   have HRD : Hid (rd (rest l i) e = .error p) := by
    rcases HST.out.cases with ⟨q, h1, ⟨_, h2⟩ | h2⟩ | ⟨_, h1, _⟩
    ·obtain rfl := Option.some.inj h1; exact zh h2
    ·cases h2
    ·cases h1
   go_upto_region 5 with fail
   have hb2 : Below w1.heap.size w1 ((w1.alloc (.cells #[.int .i64 zk, .int .i64 zp, .string zs, .slice zA zw.length zc, .slice zBq zz.length zd] 28)).alloc (.cells #[.int .i64 0, .int .i64 0, .string ⟨#[]⟩, .slice none 0 0, .slice none 0 0] 28)) := ((zB _ _).alloc (zL _) _).alloc (by simp) _
   have HG2 := zh (HG1.out.below hb2 HG1.out.lt)
   have HF2 := zh (HF1.out.below hb2 HF1.out.lt)
   have HB2 := zh (HB1.out.trans (hb2.mono (by omega)))
   have HS2 := zh (HS1.out.below hb2)
   have HDZ2 := zh (HDZ.out.keep hb2.size (fun k hk _ => hb2.block k hk) (fun _ _ h => h))
   have h12 := RowAt.new w1 28 #[.int .i64 zk, .int .i64 zp, .string zs, .slice zA zw.length zc, .slice zBq zz.length zd]
   have h13 := RowAt.new (w1.alloc (.cells #[.int .i64 zk, .int .i64 zp, .string zs, .slice zA zw.length zc, .slice zBq zz.length zd] 28)) 28 #[.int .i64 0, .int .i64 0, .string ⟨#[]⟩, .slice none 0 0, .slice none 0 0]
   rw [show (w1.alloc (.cells #[.int .i64 zk, .int .i64 zp, .string zs, .slice zA zw.length zc, .slice zBq zz.length zd] 28)).heap.size = w1.heap.size + 1 by simp] at h13
   have H12 := zh (h12.alloc (.cells #[.int .i64 0, .int .i64 0, .string ⟨#[]⟩, .slice none 0 0, .slice none 0 0] 28))
   have H13 := zh h13
   clear c0 c1 c2 c3 c4 g0 g1 g2 g3 g4 u0 u1 u2 u3 u4 m0 m1 v0 v1 h12 h13 hb2 HG1 HF1 HB1 HS1 HDZ
   generalize ((w1.alloc (.cells #[.int .i64 zk, .int .i64 zp, .string zs, .slice zA zw.length zc, .slice zBq zz.length zd] 28)).alloc (.cells #[.int .i64 0, .int .i64 0, .string ⟨#[]⟩, .slice none 0 0, .slice none 0 0] 28)) = w2 at *
   obtain ⟨c0, c1, c2, c3, c4⟩ := rd_cells HS2.out.at_
   simp only [fc, fa, Option.isSome_some, Option.isSome_none, Bool.false_eq_true, if_true, if_false, Option.getD_some, Option.getD_none] at c3 c4
   obtain ⟨g0, g1, g2, g3, g4, u0, u1, u2, u3, u4⟩ := row5 HG2.out
   obtain ⟨m0, m1, v0, v1⟩ := row2 HF2.out
   obtain ⟨p0, p1, p2, p3, p4, _, _, _, _, _⟩ := row5 H13.out
   go_region
   go_wp2_with fail
   change bodyPost _ _ _ _ _ ((((set5 w2 w.heap.size (.int .i64 0) (.int .i64 0) (.string ⟨#[]⟩) (.slice none 0 0) (.slice none 0 0)).setCell ⟨w.heap.size + 1, 0, none⟩ (.int .i64 2)).setCell ⟨w.heap.size + 1, 1, none⟩ (.int .i64 p)).drew)
   have hgf : RowAt ((((set5 w2 w.heap.size (.int .i64 0) (.int .i64 0) (.string ⟨#[]⟩) (.slice none 0 0) (.slice none 0 0)).setCell ⟨w.heap.size + 1, 0, none⟩ (.int .i64 2)).setCell ⟨w.heap.size + 1, 1, none⟩ (.int .i64 p)).drew) w.heap.size 28 #[.int .i64 0, .int .i64 0, .string ⟨#[]⟩, .slice none 0 0, .slice none 0 0] := ((set5_row HG2.out).far (p := ⟨w.heap.size + 1, 0, none⟩) (by show w.heap.size + 1 ≠ w.heap.size; omega) _).far (p := ⟨w.heap.size + 1, 1, none⟩) (by show w.heap.size + 1 ≠ w.heap.size; omega) _ |>.drew
   have hf1 : RowAt (set5 w2 w.heap.size (.int .i64 0) (.int .i64 0) (.string ⟨#[]⟩) (.slice none 0 0) (.slice none 0 0)) (w.heap.size + 1) 39 #[.int .i64 0, .int .i64 0] := (set5_other (by omega)).trans HF2.out
   have hf2 := (hf1.put 0 (.int .i64 2)).put 1 (.int .i64 p)
   have hff : RowAt ((((set5 w2 w.heap.size (.int .i64 0) (.int .i64 0) (.string ⟨#[]⟩) (.slice none 0 0) (.slice none 0 0)).setCell ⟨w.heap.size + 1, 0, none⟩ (.int .i64 2)).setCell ⟨w.heap.size + 1, 1, none⟩ (.int .i64 p)).drew) (w.heap.size + 1) 39 #[.int .i64 2, .int .i64 p] := hf2.drew
   have hbf : Below w.heap.size w ((((set5 w2 w.heap.size (.int .i64 0) (.int .i64 0) (.string ⟨#[]⟩) (.slice none 0 0) (.slice none 0 0)).setCell ⟨w.heap.size + 1, 0, none⟩ (.int .i64 2)).setCell ⟨w.heap.size + 1, 1, none⟩ (.int .i64 p)).drew) := (((HB2.out.trans (set5_below (zL _))).setCell (p := ⟨w.heap.size + 1, 0, none⟩) (by show w.heap.size ≤ w.heap.size + 1; omega) _).setCell (p := ⟨w.heap.size + 1, 1, none⟩) (by show w.heap.size ≤ w.heap.size + 1; omega) _).drew
   exact bodyPost_ret (ret_csc rfl _ _ _ w.heap.size (w.heap.size + 1) _ _ _ _ _ _ rfl rfl rfl hgf hff Tryz.underlying28 rfl (node_info _ _ _ _ _) Tryz.underlying39 rfl (fault_info _ _)) rfl (HQ.out _ _ ⟨_, rfl, by unfold Handed; rw [HRD.out]; rfl, hbf⟩)
 | none =>
   simp only [fc, fa, Option.isSome_none, Bool.false_eq_true, if_false, Option.getD_none] at c3 c4
   have HRD : Hid (rd (rest l i) e = .ok (x, rest l i2)) := by
    rcases HST.out.cases with ⟨q, h1, _⟩ | ⟨_, _, h1⟩
    ·cases h1
    ·exact zh h1
   go_upto_region 6 with fail
   have hb2 : Below w1.heap.size w1 (w1.alloc (.cells #[.int .i64 zk, .int .i64 zp, .string zs, .slice zA zw.length zc, .slice zBq zz.length zd] 28)) := (zB _ _).alloc (zL _) _
   have HG2 := zh (HG1.out.below hb2 HG1.out.lt)
   have HF2 := zh (HF1.out.below hb2 HF1.out.lt)
   have HB2 := zh (HB1.out.trans (hb2.mono (by omega)))
   have HS2 := zh (HS1.out.below hb2)
   have HDZ2 := zh (HDZ.out.keep hb2.size (fun k hk _ => hb2.block k hk) (fun _ _ h => h))
   have h12 := RowAt.new w1 28 #[.int .i64 zk, .int .i64 zp, .string zs, .slice zA zw.length zc, .slice zBq zz.length zd]
   have H12 := zh h12
   clear c0 c1 c2 c3 c4 g0 g1 g2 g3 g4 u0 u1 u2 u3 u4 m0 m1 v0 v1 h12 hb2 HG1 HF1 HB1 HS1 HDZ
   generalize (w1.alloc (.cells #[.int .i64 zk, .int .i64 zp, .string zs, .slice zA zw.length zc, .slice zBq zz.length zd] 28)) = w2 at *
   obtain ⟨c0, c1, c2, c3, c4⟩ := rd_cells HS2.out.at_
   simp only [fc, fa, Option.isSome_some, Option.isSome_none, Bool.false_eq_true, if_true, if_false, Option.getD_some, Option.getD_none] at c3 c4
   obtain ⟨g0, g1, g2, g3, g4, u0, u1, u2, u3, u4⟩ := row5 HG2.out
   obtain ⟨m0, m1, v0, v1⟩ := row2 HF2.out
   obtain ⟨p0, p1, p2, p3, p4, _, _, _, _, _⟩ := row5 H12.out
   go_region
   go_wp2_with fail
   change bodyPost _ _ _ _ _ ((((set5 w2 w.heap.size (.int .i64 zk) (.int .i64 zp) (.string zs) (.slice zA zw.length zc) (.slice zBq zz.length zd)).setCell ⟨w.heap.size + 1, 0, none⟩ (.int .i64 0)).setCell ⟨w.heap.size + 1, 1, none⟩ (.int .i64 0)).drew)
   have hgf : RowAt ((((set5 w2 w.heap.size (.int .i64 zk) (.int .i64 zp) (.string zs) (.slice zA zw.length zc) (.slice zBq zz.length zd)).setCell ⟨w.heap.size + 1, 0, none⟩ (.int .i64 0)).setCell ⟨w.heap.size + 1, 1, none⟩ (.int .i64 0)).drew) w.heap.size 28 #[.int .i64 zk, .int .i64 zp, .string zs, .slice zA zw.length zc, .slice zBq zz.length zd] := ((set5_row HG2.out).far (p := ⟨w.heap.size + 1, 0, none⟩) (by show w.heap.size + 1 ≠ w.heap.size; omega) _).far (p := ⟨w.heap.size + 1, 1, none⟩) (by show w.heap.size + 1 ≠ w.heap.size; omega) _ |>.drew
   have hf1 : RowAt (set5 w2 w.heap.size (.int .i64 zk) (.int .i64 zp) (.string zs) (.slice zA zw.length zc) (.slice zBq zz.length zd)) (w.heap.size + 1) 39 #[.int .i64 0, .int .i64 0] := (set5_other (by omega)).trans HF2.out
   have hf2 := (hf1.put 0 (.int .i64 0)).put 1 (.int .i64 0)
   have hff : RowAt ((((set5 w2 w.heap.size (.int .i64 zk) (.int .i64 zp) (.string zs) (.slice zA zw.length zc) (.slice zBq zz.length zd)).setCell ⟨w.heap.size + 1, 0, none⟩ (.int .i64 0)).setCell ⟨w.heap.size + 1, 1, none⟩ (.int .i64 0)).drew) (w.heap.size + 1) 39 #[.int .i64 0, .int .i64 0] := hf2.drew
   have hbf : Below w.heap.size w ((((set5 w2 w.heap.size (.int .i64 zk) (.int .i64 zp) (.string zs) (.slice zA zw.length zc) (.slice zBq zz.length zd)).setCell ⟨w.heap.size + 1, 0, none⟩ (.int .i64 0)).setCell ⟨w.heap.size + 1, 1, none⟩ (.int .i64 0)).drew) := (((HB2.out.trans (set5_below (zL _))).setCell (p := ⟨w.heap.size + 1, 0, none⟩) (by show w.heap.size ≤ w.heap.size + 1; omega) _).setCell (p := ⟨w.heap.size + 1, 1, none⟩) (by show w.heap.size ≤ w.heap.size + 1; omega) _).drew
   have hdf : DeepN ((((set5 w2 w.heap.size (.int .i64 zk) (.int .i64 zp) (.string zs) (.slice zA zw.length zc) (.slice zBq zz.length zd)).setCell ⟨w.heap.size + 1, 0, none⟩ (.int .i64 0)).setCell ⟨w.heap.size + 1, 1, none⟩ (.int .i64 0)).drew) (fun k => w.heap.size ≤ k) [Nd.mk zk zp zs zA zc zw zBq zd zz] := by
    have h1 : DeepN (set5 w2 w.heap.size (.int .i64 zk) (.int .i64 zp) (.string zs) (.slice zA zw.length zc) (.slice zBq zz.length zd)) (fun k => w.heap.size + 3 ≤ k) [Nd.mk zk zp zs zA zc zw zBq zd zz] := set5_deep HDZ2.out fun k _ hk => ⟨by omega, hk⟩
    have h2 := (h1.setCell9 (p := ⟨w.heap.size + 1, 0, none⟩) (fun k hk => by show k ≠ w.heap.size + 1; omega) (.int .i64 0)).setCell9 (p := ⟨w.heap.size + 1, 1, none⟩) (fun k hk => by show k ≠ w.heap.size + 1; omega) (.int .i64 0)
    exact h2.drew9.weak fun k _ hk => by omega
   exact bodyPost_ret (ret_csc rfl _ _ _ w.heap.size (w.heap.size + 1) _ _ _ _ _ _ rfl rfl rfl hgf hff Tryz.underlying28 rfl (node_info _ _ _ _ _) Tryz.underlying39 rfl (fault_info _ _)) rfl (HQ.out _ _ ⟨_, rfl, by unfold Handed; rw [HRD.out]; exact ⟨.mk zk zp zs zA zc zw zBq zd zz, i2, rfl, HZ.out, hdf, HST.out.1, rfl⟩, hbf⟩)
theorem World.setCell_other9 {w : World} {p : Addr} {u : Value} {k : Nat} (h : p.block ≠ k) : (w.setCell p u).heap[k]? = w.heap[k]? := by
 simp only [World.setCell, Array.getElem?_modify]
 rw [if_neg h]
theorem handed_form {s s0 : Nat} {rd : Rdr Nd} {l : List Tr} {i e : Int} {v : Value} {w : World} (h : Handed s rd l i e v w) (hs : s0 + 2 ≤ s) :
 ∃ zk zp zs zA zc, ∃ zw : List Wd, ∃ zBq zd, ∃ zz : List Nd, ∃ y fx fy, v = .tuple #[.agg #[.int .i64 zk, .int .i64 zp, .string zs, .slice zA zw.length zc, .slice zBq zz.length zd], .int .i64 y, .agg #[.int .i64 fx, .int .i64 fy]] ∧
   ∀ w2 : World, (∀ k, k < w.heap.size → s0 + 2 ≤ k → w2.heap[k]? = w.heap[k]?) → Handed s0 rd l i e (.tuple #[.agg #[.int .i64 zk, .int .i64 zp, .string zs, .slice zA zw.length zc, .slice zBq zz.length zd], .int .i64 y, .agg #[.int .i64 fx, .int .i64 fy]]) w2 := by
 unfold Handed at h ⊢
 cases hr : rd (rest l i) e with
 | error p =>
   rw [hr] at h
   exact ⟨0, 0, _, none, 0, [], none, 0, [], 0, 2, p, h, fun w2 _ => rfl⟩
 | ok yr =>
   obtain ⟨x, r⟩ := yr
   rw [hr] at h
   obtain ⟨⟨zk, zp, zs, zA, zc, zw, zBq, zd, zz⟩, i2, rfl, hz, hdp, ha, hrr⟩ := h
   exact ⟨zk, zp, zs, zA, zc, zw, zBq, zd, zz, i2, 0, 0, rfl, fun w2 hk => ⟨.mk zk zp zs zA zc zw zBq zd zz, i2, rfl, hz, (hdp.keep9 fun k h1 h2 => hk k h1 (by omega)).weak fun k _ hk => by omega, ha, hrr⟩⟩
theorem label_call (d : Nat) (hd : d ≤ 4294967296) (A : Option Addr) (c : Nat) (l : List Tr) (i e : Int) (w : World)
 (hT : Trs w w.heap.size A l) (hl : l.length ≤ 2199023255552 ∧ ∀ x ∈ nodes l, x.ks.length ≤ 2199023255552) (hN : (nodes (rest l i)).length ≤ d) :
 Calls Tryz.prog 116 #[.slice A l.length c, .int .i64 i, .int .i64 e] w fun e' w' => ∃ v, e' = .returned v ∧ Handed w.heap.size (labelR (d + 1)) l i e v w' ∧ Below w.heap.size w w' := by
 have hbz : Below w.heap.size w ((w.alloc (.cells #[.int .i64 0, .int .i64 0, .string ⟨#[]⟩, .slice none 0 0, .slice none 0 0] 28)).alloc (.cells #[.int .i64 0, .int .i64 0] 39)) := ((zB _ _).alloc (zL _) _).alloc (by simp) _
 have hg0 := (RowAt.new w 28 #[.int .i64 0, .int .i64 0, .string ⟨#[]⟩, .slice none 0 0, .slice none 0 0]).alloc (.cells #[.int .i64 0, .int .i64 0] 39)
 have hf0 := RowAt.new (w.alloc (.cells #[.int .i64 0, .int .i64 0, .string ⟨#[]⟩, .slice none 0 0, .slice none 0 0] 28)) 39 #[.int .i64 0, .int .i64 0]
 rw [show (w.alloc (.cells #[.int .i64 0, .int .i64 0, .string ⟨#[]⟩, .slice none 0 0, .slice none 0 0] 28)).heap.size = w.heap.size + 1 by simp] at hf0
 have HG0 := zh hg0
 have HF0 := zh hf0
 have HB0 := zh hbz
 have HC := zh (parseN_any (fun _ _ => by kernel_rfl) (label_any d hd) A c l i e _ ((hT.below hbz).mono hbz.size) hl hN)
 clear hbz hg0 hf0 hT
 refine calls_hid fun Q' hQ => ?_
 have HQ := zh hQ; clear hQ
 generalize hn : l.length = n at *
 have HNL := zh hn; clear hn
 go_enter Tryz.func116, Tryz.ntmps116
 go_wp2_with fail
 refine HC.out.mono ?_
 rintro e' w1 ⟨v, rfl, hh, hb1⟩
 have hsz : w.heap.size + 1 < w1.heap.size := zT HF0.out.lt hb1.size
 have HG1 := zh (HG0.out.below hb1 HG0.out.lt)
 have HF1 := zh (HF0.out.below hb1 HF0.out.lt)
 have HB1 := zh (HB0.out.trans (hb1.mono HB0.out.size))
 obtain ⟨zk, zp, zs, zA, zc, zw, zBq, zd, zz, y, fx, fy, rfl, hrest⟩ := handed_form (s0 := w.heap.size) hh (by simp)
 have HR := zh hrest
 obtain ⟨g0, g1, g2, g3, g4, u0, u1, u2, u3, u4⟩ := row5 HG1.out
 obtain ⟨m0, m1, v0, v1⟩ := row2 HF1.out
 clear hh hb1 hrest HC HG0 HF0 HB0
 go_wp2_with fail
 change bodyPost _ _ _ _ _ (((set5 w1 w.heap.size (.int .i64 zk) (.int .i64 zp) (.string zs) (.slice zA zw.length zc) (.slice zBq zz.length zd)).setCell ⟨w.heap.size + 1, 0, none⟩ (.int .i64 fx)).setCell ⟨w.heap.size + 1, 1, none⟩ (.int .i64 fy))
 have hgf : RowAt (((set5 w1 w.heap.size (.int .i64 zk) (.int .i64 zp) (.string zs) (.slice zA zw.length zc) (.slice zBq zz.length zd)).setCell ⟨w.heap.size + 1, 0, none⟩ (.int .i64 fx)).setCell ⟨w.heap.size + 1, 1, none⟩ (.int .i64 fy)) w.heap.size 28 #[.int .i64 zk, .int .i64 zp, .string zs, .slice zA zw.length zc, .slice zBq zz.length zd] := ((set5_row HG1.out).far (p := ⟨w.heap.size + 1, 0, none⟩) (by show w.heap.size + 1 ≠ w.heap.size; omega) _).far (p := ⟨w.heap.size + 1, 1, none⟩) (by show w.heap.size + 1 ≠ w.heap.size; omega) _
 have hf1 : RowAt (set5 w1 w.heap.size (.int .i64 zk) (.int .i64 zp) (.string zs) (.slice zA zw.length zc) (.slice zBq zz.length zd)) (w.heap.size + 1) 39 #[.int .i64 0, .int .i64 0] := (set5_other (by omega)).trans HF1.out
 have hff : RowAt (((set5 w1 w.heap.size (.int .i64 zk) (.int .i64 zp) (.string zs) (.slice zA zw.length zc) (.slice zBq zz.length zd)).setCell ⟨w.heap.size + 1, 0, none⟩ (.int .i64 fx)).setCell ⟨w.heap.size + 1, 1, none⟩ (.int .i64 fy)) (w.heap.size + 1) 39 #[.int .i64 fx, .int .i64 fy] := (hf1.put 0 (.int .i64 fx)).put 1 (.int .i64 fy)
 have hh2 := HR.out (((set5 w1 w.heap.size (.int .i64 zk) (.int .i64 zp) (.string zs) (.slice zA zw.length zc) (.slice zBq zz.length zd)).setCell ⟨w.heap.size + 1, 0, none⟩ (.int .i64 fx)).setCell ⟨w.heap.size + 1, 1, none⟩ (.int .i64 fy)) (fun k h1 h2 => (World.setCell_other9 (by show w.heap.size + 1 ≠ k; omega)).trans ((World.setCell_other9 (by show w.heap.size + 1 ≠ k; omega)).trans (set5_other (by omega))))
 have hbf : Below w.heap.size w (((set5 w1 w.heap.size (.int .i64 zk) (.int .i64 zp) (.string zs) (.slice zA zw.length zc) (.slice zBq zz.length zd)).setCell ⟨w.heap.size + 1, 0, none⟩ (.int .i64 fx)).setCell ⟨w.heap.size + 1, 1, none⟩ (.int .i64 fy)) := ((HB1.out.trans (set5_below (zL _))).setCell (p := ⟨w.heap.size + 1, 0, none⟩) (by show w.heap.size ≤ w.heap.size + 1; omega) _).setCell (p := ⟨w.heap.size + 1, 1, none⟩) (by show w.heap.size ≤ w.heap.size + 1; omega) _
 exact bodyPost_ret (ret_csc rfl _ _ (.int .i64 y) w.heap.size (w.heap.size + 1) _ _ _ _ _ _ rfl rfl rfl hgf hff Tryz.underlying28 rfl (node_info _ _ _ _ _) Tryz.underlying39 rfl (fault_info _ _)) rfl (HQ.out _ _ ⟨_, rfl, hh2, hbf⟩)
theorem row_call (d : Nat) (hd : d ≤ 4294967296) (A : Option Addr) (c : Nat) (l : List Tr) (i e : Int) (w : World)
 (hT : Trs w w.heap.size A l) (hl : l.length ≤ 2199023255552 ∧ ∀ x ∈ nodes l, x.ks.length ≤ 2199023255552) (hN : (nodes (rest l i)).length ≤ d) :
 Calls Tryz.prog 117 #[.slice A l.length c, .int .i64 i, .int .i64 e] w fun e' w' => ∃ v, e' = .returned v ∧ Handed w.heap.size (rowR (d + 1)) l i e v w' ∧ Below w.heap.size w w' := by
 have hbz : Below w.heap.size w ((w.alloc (.cells #[.int .i64 0, .int .i64 0, .string ⟨#[]⟩, .slice none 0 0, .slice none 0 0] 28)).alloc (.cells #[.int .i64 0, .int .i64 0] 39)) := ((zB _ _).alloc (zL _) _).alloc (by simp) _
 have hg0 := (RowAt.new w 28 #[.int .i64 0, .int .i64 0, .string ⟨#[]⟩, .slice none 0 0, .slice none 0 0]).alloc (.cells #[.int .i64 0, .int .i64 0] 39)
 have hf0 := RowAt.new (w.alloc (.cells #[.int .i64 0, .int .i64 0, .string ⟨#[]⟩, .slice none 0 0, .slice none 0 0] 28)) 39 #[.int .i64 0, .int .i64 0]
 rw [show (w.alloc (.cells #[.int .i64 0, .int .i64 0, .string ⟨#[]⟩, .slice none 0 0, .slice none 0 0] 28)).heap.size = w.heap.size + 1 by simp] at hf0
 have HG0 := zh hg0
 have HF0 := zh hf0
 have HB0 := zh hbz
 have HC := zh (parseN_any (fun _ _ => by kernel_rfl) (row_any d hd) A c l i e _ ((hT.below hbz).mono hbz.size) hl hN)
 clear hbz hg0 hf0 hT
 refine calls_hid fun Q' hQ => ?_
 have HQ := zh hQ; clear hQ
 generalize hn : l.length = n at *
 have HNL := zh hn; clear hn
 go_enter Tryz.func117, Tryz.ntmps117
 go_wp2_with fail
 refine HC.out.mono ?_
 rintro e' w1 ⟨v, rfl, hh, hb1⟩
 have hsz : w.heap.size + 1 < w1.heap.size := zT HF0.out.lt hb1.size
 have HG1 := zh (HG0.out.below hb1 HG0.out.lt)
 have HF1 := zh (HF0.out.below hb1 HF0.out.lt)
 have HB1 := zh (HB0.out.trans (hb1.mono HB0.out.size))
 obtain ⟨zk, zp, zs, zA, zc, zw, zBq, zd, zz, y, fx, fy, rfl, hrest⟩ := handed_form (s0 := w.heap.size) hh (by simp)
 have HR := zh hrest
 obtain ⟨g0, g1, g2, g3, g4, u0, u1, u2, u3, u4⟩ := row5 HG1.out
 obtain ⟨m0, m1, v0, v1⟩ := row2 HF1.out
 clear hh hb1 hrest HC HG0 HF0 HB0
 go_wp2_with fail
 change bodyPost _ _ _ _ _ (((set5 w1 w.heap.size (.int .i64 zk) (.int .i64 zp) (.string zs) (.slice zA zw.length zc) (.slice zBq zz.length zd)).setCell ⟨w.heap.size + 1, 0, none⟩ (.int .i64 fx)).setCell ⟨w.heap.size + 1, 1, none⟩ (.int .i64 fy))
 have hgf : RowAt (((set5 w1 w.heap.size (.int .i64 zk) (.int .i64 zp) (.string zs) (.slice zA zw.length zc) (.slice zBq zz.length zd)).setCell ⟨w.heap.size + 1, 0, none⟩ (.int .i64 fx)).setCell ⟨w.heap.size + 1, 1, none⟩ (.int .i64 fy)) w.heap.size 28 #[.int .i64 zk, .int .i64 zp, .string zs, .slice zA zw.length zc, .slice zBq zz.length zd] := ((set5_row HG1.out).far (p := ⟨w.heap.size + 1, 0, none⟩) (by show w.heap.size + 1 ≠ w.heap.size; omega) _).far (p := ⟨w.heap.size + 1, 1, none⟩) (by show w.heap.size + 1 ≠ w.heap.size; omega) _
 have hf1 : RowAt (set5 w1 w.heap.size (.int .i64 zk) (.int .i64 zp) (.string zs) (.slice zA zw.length zc) (.slice zBq zz.length zd)) (w.heap.size + 1) 39 #[.int .i64 0, .int .i64 0] := (set5_other (by omega)).trans HF1.out
 have hff : RowAt (((set5 w1 w.heap.size (.int .i64 zk) (.int .i64 zp) (.string zs) (.slice zA zw.length zc) (.slice zBq zz.length zd)).setCell ⟨w.heap.size + 1, 0, none⟩ (.int .i64 fx)).setCell ⟨w.heap.size + 1, 1, none⟩ (.int .i64 fy)) (w.heap.size + 1) 39 #[.int .i64 fx, .int .i64 fy] := (hf1.put 0 (.int .i64 fx)).put 1 (.int .i64 fy)
 have hh2 := HR.out (((set5 w1 w.heap.size (.int .i64 zk) (.int .i64 zp) (.string zs) (.slice zA zw.length zc) (.slice zBq zz.length zd)).setCell ⟨w.heap.size + 1, 0, none⟩ (.int .i64 fx)).setCell ⟨w.heap.size + 1, 1, none⟩ (.int .i64 fy)) (fun k h1 h2 => (World.setCell_other9 (by show w.heap.size + 1 ≠ k; omega)).trans ((World.setCell_other9 (by show w.heap.size + 1 ≠ k; omega)).trans (set5_other (by omega))))
 have hbf : Below w.heap.size w (((set5 w1 w.heap.size (.int .i64 zk) (.int .i64 zp) (.string zs) (.slice zA zw.length zc) (.slice zBq zz.length zd)).setCell ⟨w.heap.size + 1, 0, none⟩ (.int .i64 fx)).setCell ⟨w.heap.size + 1, 1, none⟩ (.int .i64 fy)) := ((HB1.out.trans (set5_below (zL _))).setCell (p := ⟨w.heap.size + 1, 0, none⟩) (by show w.heap.size ≤ w.heap.size + 1; omega) _).setCell (p := ⟨w.heap.size + 1, 1, none⟩) (by show w.heap.size ≤ w.heap.size + 1; omega) _
 exact bodyPost_ret (ret_csc rfl _ _ (.int .i64 y) w.heap.size (w.heap.size + 1) _ _ _ _ _ _ rfl rfl rfl hgf hff Tryz.underlying28 rfl (node_info _ _ _ _ _) Tryz.underlying39 rfl (fault_info _ _)) rfl (HQ.out _ _ ⟨_, rfl, hh2, hbf⟩)
def HandedW (s : Nat) (l : List Tr) (i e : Int) (v : Value) (w : World) : Prop := match namesR (rest l i) e with
 | .error p => v = .tuple #[.slice none 0 0, .agg #[.int .i64 2, .int .i64 p]]
 | .ok (ws, _) => ∃ A c, v = .tuple #[.slice A ws.length c, .agg #[.int .i64 0, .int .i64 0]] ∧ ws.length ≤ c ∧ SlC w (fun k => s ≤ k) A (wcs ws)
theorem parseW_any (A : Option Addr) (c : Nat) (l : List Tr) (i e : Int) (w : World)
 (hT : Trs w w.heap.size A l) (hl : l.length ≤ 2199023255552 ∧ ∀ x ∈ nodes l, x.ks.length ≤ 2199023255552) :
 Calls Tryz.prog 129 #[.slice A l.length c, .int .i64 i, .int .i64 e, .func (.func 130) #[] #[]] w fun e' w' => ∃ X n cc y fx fy, e' = .returned (.tuple #[.slice X n cc, .int .i64 y, .agg #[.int .i64 fx, .int .i64 fy]]) ∧
  (∀ w2 : World, (∀ k, k < w'.heap.size → w.heap.size + 2 ≤ k → w2.heap[k]? = w'.heap[k]?) → HandedW w.heap.size l i e (.tuple #[.slice X n cc, .agg #[.int .i64 fx, .int .i64 fy]]) w2) ∧ Below w.heap.size w w' ∧ w.heap.size < w'.heap.size := by
 have hbz : Below w.heap.size w ((w.alloc (.cells #[.int .i64 0, .int .i64 0] 39)).alloc (.cells (rdc A l.length c i e 0 0) 147)) := ((zB _ _).alloc (zL _) _).alloc (by simp) _
 have hf0 := (RowAt.new w 39 #[.int .i64 0, .int .i64 0]).alloc (.cells (rdc A l.length c i e 0 0) 147)
 have hb0 := RowAt.new (w.alloc (.cells #[.int .i64 0, .int .i64 0] 39)) 147 (rdc A l.length c i e 0 0)
 rw [show (w.alloc (.cells #[.int .i64 0, .int .i64 0] 39)).heap.size = w.heap.size + 1 by simp] at hb0
 have HS0 : Hid (Rs ((w.alloc (.cells #[.int .i64 0, .int .i64 0] 39)).alloc (.cells (rdc A l.length c i e 0 0) 147)) (w.heap.size + 1) A c l i e none) := ⟨hb0, (hT.below hbz).mono (by omega), hl⟩
 have HF0 := zh hf0
 have HB0 := zh hbz
 have HC := zh (names_any HS0.out)
 clear hbz hf0 hb0 hT
 refine calls_hid fun Q' hQ => ?_
 have HQ := zh hQ; clear hQ
 unfold rdc at HS0 HF0 HB0 HC
 generalize hn : l.length = n at *
 have HNL := zh hn; clear hn
 go_enter Tryz.func129, Tryz.ntmps129
 go_wp2_with fail
 refine HC.out.mono ?_
 rintro e' w2 ⟨v, x, i2, f2, rfl, ⟨X, cc, rfl, hcc, hsl⟩, hs1, hm1, hst⟩
 have hsz : w.heap.size + 1 < w2.heap.size := hs1.lt
 have HF1 := zh (HF0.out.mv hm1 (by omega))
 have HB1 := zh (HB0.out.trans (hm1.low.mono (by omega)))
 have HSL : Hid (SlC w2 (fun k => w.heap.size + 2 ≤ k) X (wcs x)) := hsl.weak fun k _ hk => by simpa using hk
 have HS1 := zh hs1
 obtain ⟨c0, c1, c2, c3, c4⟩ := rd_cells HS1.out.at_
 obtain ⟨m0, m1, v0, v1⟩ := row2 HF1.out
 have HST := zh hst
 clear hs1 hm1 hst hsl HC HS0 HF0 HB0
 cases f2 with
 | some p =>
   simp only [fc, fa, Option.isSome_some, if_true, Option.getD_some] at c3 c4
   have HRD : Hid (namesR (rest l i) e = .error p) := by
    rcases HST.out.cases with ⟨q, h1, ⟨_, h2⟩ | h2⟩ | ⟨_, h1, _⟩
    ·obtain rfl := Option.some.inj h1; exact zh h2
    ·cases h2
    ·cases h1
   go_upto_region 5 with fail
   go_region
   go_wp2_with fail
   have hff : RowAt (((w2.setCell ⟨w.heap.size, 0, none⟩ (.int .i64 2)).setCell ⟨w.heap.size, 1, none⟩ (.int .i64 p)).drew) w.heap.size 39 #[.int .i64 2, .int .i64 p] := ((HF1.out.put 0 (.int .i64 2)).put 1 (.int .i64 p)).drew
   have hbf : Below w.heap.size w (((w2.setCell ⟨w.heap.size, 0, none⟩ (.int .i64 2)).setCell ⟨w.heap.size, 1, none⟩ (.int .i64 p)).drew) := ((HB1.out.setCell (p := ⟨w.heap.size, 0, none⟩) (zL _) _).setCell (p := ⟨w.heap.size, 1, none⟩) (zL _) _).drew
   exact bodyPost_ret (ret_ssc rfl _ _ (.slice none 0 0) (.int .i64 0) w.heap.size _ _ _ rfl rfl rfl hff Tryz.underlying39 rfl (fault_info _ _)) rfl (HQ.out _ _ ⟨none, 0, 0, 0, 2, p, rfl, fun w3 _ => by unfold HandedW; rw [HRD.out], hbf, hff.lt⟩)
 | none =>
   simp only [fc, fa, Option.isSome_none, Bool.false_eq_true, if_false, Option.getD_none] at c3 c4
   have HRD : Hid (namesR (rest l i) e = .ok (x, rest l i2)) := by
    rcases HST.out.cases with ⟨q, h1, _⟩ | ⟨_, _, h1⟩
    ·cases h1
    ·exact zh h1
   go_upto_region 6 with fail
   go_region
   go_wp2_with fail
   have hff : RowAt (((w2.setCell ⟨w.heap.size, 0, none⟩ (.int .i64 0)).setCell ⟨w.heap.size, 1, none⟩ (.int .i64 0)).drew) w.heap.size 39 #[.int .i64 0, .int .i64 0] := ((HF1.out.put 0 (.int .i64 0)).put 1 (.int .i64 0)).drew
   have hbf : Below w.heap.size w (((w2.setCell ⟨w.heap.size, 0, none⟩ (.int .i64 0)).setCell ⟨w.heap.size, 1, none⟩ (.int .i64 0)).drew) := ((HB1.out.setCell (p := ⟨w.heap.size, 0, none⟩) (zL _) _).setCell (p := ⟨w.heap.size, 1, none⟩) (zL _) _).drew
   have hsf : SlC (((w2.setCell ⟨w.heap.size, 0, none⟩ (.int .i64 0)).setCell ⟨w.heap.size, 1, none⟩ (.int .i64 0)).drew) (fun k => w.heap.size + 2 ≤ k) X (wcs x) :=
    ((HSL.out.setCell9 (p := ⟨w.heap.size, 0, none⟩) (fun k hk => by show k ≠ w.heap.size; omega) (.int .i64 0)).setCell9 (p := ⟨w.heap.size, 1, none⟩) (fun k hk => by show k ≠ w.heap.size; omega) (.int .i64 0)).keep9 fun _ _ _ => rfl
   have HSF := zh hsf
   exact bodyPost_ret (ret_ssc rfl _ _ (.slice X x.length cc) (.int .i64 i2) w.heap.size _ _ _ rfl rfl rfl hff Tryz.underlying39 rfl (fault_info _ _)) rfl (HQ.out _ _ ⟨X, x.length, cc, i2, 0, 0, rfl, fun w3 hk => by
    unfold HandedW
    rw [HRD.out]
    exact ⟨X, cc, rfl, hcc, (HSF.out.keep9 hk).weak fun k _ h => by omega⟩, hbf, hff.lt⟩)
theorem drew_other9 {w : World} {k : Nat} : w.drew.heap[k]? = w.heap[k]? := rfl
theorem HandedW.mono {s s' : Nat} {l : List Tr} {i e : Int} {v : Value} {w : World} (h : HandedW s' l i e v w) (hs : s ≤ s') : HandedW s l i e v w := by
 unfold HandedW at h ⊢
 cases hr : namesR (rest l i) e with
 | error p => rw [hr] at h; exact h
 | ok yr =>
   rw [hr] at h
   obtain ⟨A, c, h1, h2, h3⟩ := h
   exact ⟨A, c, h1, h2, h3.weak fun _ _ h => zM hs h⟩
theorem words_call (A : Option Addr) (c : Nat) (l : List Tr) (i e : Int) (w : World)
 (hT : Trs w w.heap.size A l) (hl : l.length ≤ 2199023255552 ∧ ∀ x ∈ nodes l, x.ks.length ≤ 2199023255552) :
 Calls Tryz.prog 122 #[.slice A l.length c, .int .i64 i, .int .i64 e] w fun e' w' => ∃ v, e' = .returned v ∧ HandedW w.heap.size l i e v w' ∧ Below w.heap.size w w' := by
 have hbz : Below w.heap.size w (w.alloc (.cells #[.int .i64 0, .int .i64 0] 39)) := (zB _ _).alloc (zL _) _
 have hf0 := RowAt.new w 39 #[.int .i64 0, .int .i64 0]
 have HF0 := zh hf0
 have HB0 := zh hbz
 have HC := zh (parseW_any A c l i e _ ((hT.below hbz).mono hbz.size) hl)
 rw [show (w.alloc (.cells #[.int .i64 0, .int .i64 0] 39)).heap.size = w.heap.size + 1 by simp] at HC
 clear hbz hf0 hT
 refine calls_hid fun Q' hQ => ?_
 have HQ := zh hQ; clear hQ
 generalize hn : l.length = n at *
 have HNL := zh hn; clear hn
 go_enter Tryz.func122, Tryz.ntmps122
 go_wp2_with fail
 refine HC.out.mono ?_
 rintro e' w1 ⟨X, m, cc, y, fx, fy, rfl, hh, hb1, hsz⟩
 have HF1 := zh (HF0.out.below hb1 (zS _))
 have HB1 := zh (HB0.out.trans (hb1.mono (Nat.le_succ _)))
 have HH := zh hh
 obtain ⟨m0, m1, v0, v1⟩ := row2 HF1.out
 have hb2 : Below w1.heap.size w1 (w1.alloc (.cells #[.int .i64 fx, .int .i64 fy] 39)) := (zB _ _).alloc (zL _) _
 have HF2 := zh (HF1.out.below hb2 HF1.out.lt)
 have HB2 := zh (HB1.out.trans (hb2.mono (by omega)))
 have HN2 := zh (RowAt.new w1 39 #[.int .i64 fx, .int .i64 fy])
 have HK2 : Hid (∀ k, k < w1.heap.size → (w1.alloc (.cells #[.int .i64 fx, .int .i64 fy] 39)).heap[k]? = w1.heap[k]?) := fun k hk => hb2.block k hk
 clear hh hb1 HC HF0 HB0 hb2
 go_upto_region 2 with fail
 clear m0 m1 v0 v1
 generalize w1.alloc (.cells #[.int .i64 fx, .int .i64 fy] 39) = w2 at *
 obtain ⟨m0, m1, v0, v1⟩ := row2 HF2.out
 obtain ⟨n0, n1, _, _⟩ := row2 HN2.out
 go_region
 go_wp2_with fail
 have hff : RowAt (((w2.setCell ⟨w.heap.size, 0, none⟩ (.int .i64 fx)).setCell ⟨w.heap.size, 1, none⟩ (.int .i64 fy)).drew) w.heap.size 39 #[.int .i64 fx, .int .i64 fy] := ((HF2.out.put 0 (.int .i64 fx)).put 1 (.int .i64 fy)).drew
 have hbf : Below w.heap.size w (((w2.setCell ⟨w.heap.size, 0, none⟩ (.int .i64 fx)).setCell ⟨w.heap.size, 1, none⟩ (.int .i64 fy)).drew) := ((HB2.out.setCell (p := ⟨w.heap.size, 0, none⟩) (zL _) _).setCell (p := ⟨w.heap.size, 1, none⟩) (zL _) _).drew
 have hh2 := HH.out (((w2.setCell ⟨w.heap.size, 0, none⟩ (.int .i64 fx)).setCell ⟨w.heap.size, 1, none⟩ (.int .i64 fy)).drew) (fun k h1 h2 => (drew_other9.trans ((World.setCell_other9 (by show w.heap.size ≠ k; omega)).trans (World.setCell_other9 (by show w.heap.size ≠ k; omega)))).trans (HK2.out k h1))
 exact bodyPost_ret (ret_slot_cell rfl _ _ (.slice X m cc) w.heap.size _ _ (0, 0) _ rfl rfl hff Tryz.underlying39 rfl (fault_info _ _)) rfl (HQ.out _ _ ⟨_, rfl, hh2.mono (Nat.le_succ _), hbf⟩)
end
end Go.Proofs.YtmffnkfohmbbeaaGreatDoor
