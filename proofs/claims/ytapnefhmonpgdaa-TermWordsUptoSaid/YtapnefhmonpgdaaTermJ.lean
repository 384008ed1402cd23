/-
  The program's reader: atoms, labels. Conditions: at most 2^32 trees.
-/
import Derived.Test.YtapnefhmonpgdaaTermI
namespace Go.Proofs.Ytapnefhmonpgdaa
open Go.RowKit LX TR TM

theorem constant_any : ∀ d, d ≤ 4294967296 → Reads 59 NodeV (constR (d + 1)) d := by
  intro d
  induction d with
  | zero => intro h; exact constant_step 0 h fun d' hd => by omega
  | succ d ih =>
    intro h
    refine constant_step (d + 1) h fun d' hd => ?_
    obtain rfl : d = d' := by omega
    exact ih (by omega)
section
variable {d : Nat} {l : List Tr} {i e : Int} {f : Option Int} {i2 : Int} {f2 : Option Int}
theorem atom_var {x : Nd} (hk : kindOf (rest l i) f ≠ 35) (h : Step varR l i e f x i2 f2) : Step (atomR d) l i e f x i2 f2 := by
  cases f with
  | some p =>
    obtain rfl := h.2.1 p rfl
    exact Step.bad h.1
  | none =>
    refine h.of_eq ?_
    cases hr : rest l i with
    | nil => rfl
    | cons y r =>
      rw [hr] at hk
      have q : ¬ y.t.k = 35 := hk
      simp only [atomR]
      rw [if_neg q]
theorem atom_const {t : Tk} {x : Nd} {i3 : Int} {f3 : Option Int} (hk : kindOf (rest l i) f = 35) (h : Step (takeR 35) l i e f t i2 f2) (h2 : Step (constR d) l i2 e f2 x i3 f3) : Step (atomR d) l i e f (nd 7 t.p e0 [] [x]) i3 f3 := by
  obtain ⟨rfl, y, r, hr, hy⟩ := kind_head hk (by decide)
  have e2 := h2.map (fun n => nd 7 t.p e0 [] [n])
  refine Step.of_eq (Step.bind (rd2 := fun t ts e => bnd (constR d ts e) fun n r2 => .ok (nd 7 t.p e0 [] [n], r2)) h e2) ?_
  rw [hr, takeR_hit hy]
  simp only [atomR]
  rw [if_pos hy]; rfl
end
theorem nodeV_one {w : World} {s0 : Nat} {k p : Int} {s : ByteArray} {z : Nd} {g : Nat} (hg : s0 ≤ g) (hr : RowAt w g 32 (nv z)) (h2 : DeepN w (fun k => s0 ≤ k) [z]) : NodeV w s0 (nd k p s [] [er1 z]) (.agg #[.int .i64 k, .int .i64 p, .string s, .slice none 0 0, .slice (some ⟨g, 0, none⟩) 1 1]) := by
  have h := nodeV_kids (k := k) (p := p) (s := s) (zs := [z]) (X := some ⟨g, 0, none⟩) (d := 1) (Nat.le_refl _) (fun _ => ⟨g, 0, rfl, hr.lt, hg, fun j u hu => by
    rw [Nat.zero_add, hr.cell]
    rw [ncs_one] at hu
    simpa [ncells, nv] using hu⟩) h2
  rw [er_one] at h
  exact h
theorem one_after {w : World} {s0 s1 g : Nat} {a b c d e : Value} {k p : Int} {s : ByteArray} {z : Nd} (h : DeepN w (fun k => s1 ≤ k) [z]) (hg : g < s1) (h1 : s0 ≤ s1) (h2 : s0 ≤ w.heap.size) :
    NodeV ((set5 w g a b c d e).alloc (.cells (nv z) 32)) s0 (nd k p s [] [er1 z]) (.agg #[.int .i64 k, .int .i64 p, .string s, .slice none 0 0, .slice (some ⟨w.heap.size, 0, none⟩) 1 1]) := by
  have hr := RowAt.new (set5 w g a b c d e) 32 (nv z)
  rw [set5_size] at hr
  refine nodeV_one h2 hr ?_
  refine DeepN.keep (w := set5 w g a b c d e) (ok := fun k => s0 ≤ k) (set5_deep h fun k _ hk => ⟨by omega, by omega⟩) (by simp) (fun k hk _ => heap_alloc_old _ _ hk) fun _ _ hk => hk
set_option maxRecDepth 100000 in
set_option maxHeartbeats 3200000 in
theorem atom_any (d : Nat) (hd : d ≤ 4294967296) : Reads 93 NodeV (atomR (d + 1)) d := by
  intro w b A c l i e f h hN
  have hbw := h.lt
  have HM0 : Hid (Mv b w (w.alloc (.cells #[.int .i64 0, .int .i64 0, .string ⟨#[]⟩, .slice none 0 0, .slice none 0 0] 32))) := (Mv.refl b w).alloc hbw _
  have HG0 := Lib.hid (RowAt.new w 32 #[.int .i64 0, .int .i64 0, .string ⟨#[]⟩, .slice none 0 0, .slice none 0 0])
  have HS0 := Lib.hid (h.mv HM0.out (h.at_.alloc _))
  clear h
  refine calls_hid fun Q' hQ => ?_
  have HQ := Lib.hid hQ; clear hQ
  have HK0 := Lib.hid (kind_any HS0.out)
  by_cases h35 : kindOf (rest l i) f = 35
  · rw [h35] at HK0
    have HKK := Lib.hid h35; clear h35
    go_enter Try.func93, Try.ntmps93
    go_wp2_with fail
    refine HK0.out.mono ?_
    rintro e' w1 ⟨rfl, hd1⟩
    have HG1 := Lib.hid (HG0.out.below hd1.below HG0.out.lt)
    have HS1 := Lib.hid (HS0.out.dr hd1)
    have HM1 := Lib.hid (HM0.out.dr hbw hd1)
    have HT := Lib.hid (take_any HS1.out 35 (by decide))
    clear hd1
    go_wp2_with fail
    refine HT.out.mono ?_
    rintro e' w2 ⟨⟨q, s, p⟩, i2, f2, rfl, hs2, hm2, hst2⟩
    have HG2 := Lib.hid (HG1.out.mv hm2 (by omega))
    have HS2 := Lib.hid hs2
    have HM2 := Lib.hid (HM1.out.trans hm2)
    have HST2 := Lib.hid hst2
    have HC := Lib.hid (constant_any d hd w2 b A c l i2 e f2 hs2 (Nat.le_trans hst2.1.nodes hN))
    have ht2 := run_tok2 q s p
    clear hs2 hm2 hst2
    unfold tv
    go_wp2_with fail
    refine HC.out.mono ?_
    rintro e' w3 ⟨v, x, i3, f3, rfl, ⟨z, rfl, rfl, hdz⟩, hs3, hm3, hst3⟩
    have HG3 := Lib.hid (HG2.out.mv hm3 (by omega))
    have HZ2 : Hid (w.heap.size < w2.heap.size) := HG2.out.lt
    have HZ3 : Hid (w.heap.size < w3.heap.size) := HG3.out.lt
    have hzz3 := HZ3.out
    have HS3 := Lib.hid hs3
    have HM3 := Lib.hid (HM2.out.trans hm3)
    have HST := Lib.hid (atom_const (d := d + 1) HKK.out HST2.out hst3)
    have HDZ := Lib.hid hdz
    have HRZ := Lib.hid (RowAt.new w3 32 (nv z))
    obtain ⟨g0, g1, g2, g3, g4, u0, u1, u2, u3, u4⟩ := row5 HG3.out
    clear hs3 hm3 hst3 hdz
    obtain ⟨zk, zp, zs, zA, zc, zw, zB, zd, zz⟩ := z
    unfold nv at HRZ ⊢
    simp only [Nd.k, Nd.p, Nd.s, Nd.A, Nd.c, Nd.ws, Nd.B, Nd.d, Nd.ks] at HRZ ⊢
    go_wp2_with fail
    have HRF : Hid (RowAt ((set5 (w3) (w.heap.size) (.int .i64 7) (.int .i64 p) (.string e0) (.slice none 0 0) (.slice (some ⟨w3.heap.size, 0, none⟩) 1 1)).alloc (.cells #[.int .i64 zk, .int .i64 zp, .string zs, .slice zA zw.length zc, .slice zB zz.length zd] 32)) (w.heap.size) 32 #[.int .i64 7, .int .i64 p, .string e0, (.slice none 0 0), (.slice (some ⟨w3.heap.size, 0, none⟩) 1 1)]) := (set5_row (HG3.out)).alloc (.cells #[.int .i64 zk, .int .i64 zp, .string zs, .slice zA zw.length zc, .slice zB zz.length zd] 32)
    have HSF : Hid (Rs ((set5 (w3) (w.heap.size) (.int .i64 7) (.int .i64 p) (.string e0) (.slice none 0 0) (.slice (some ⟨w3.heap.size, 0, none⟩) 1 1)).alloc (.cells #[.int .i64 zk, .int .i64 zp, .string zs, .slice zA zw.length zc, .slice zB zz.length zd] 32)) b A c l _ e _) := (set5_rs (HS3.out) (by omega)).alloc (.cells #[.int .i64 zk, .int .i64 zp, .string zs, .slice zA zw.length zc, .slice zB zz.length zd] 32)
    have HMF : Hid (Mv b w ((set5 (w3) (w.heap.size) (.int .i64 7) (.int .i64 p) (.string e0) (.slice none 0 0) (.slice (some ⟨w3.heap.size, 0, none⟩) 1 1)).alloc (.cells #[.int .i64 zk, .int .i64 zp, .string zs, .slice zA zw.length zc, .slice zB zz.length zd] 32))) := (set5_mv (HM3.out) (by omega) hbw).alloc hbw (.cells #[.int .i64 zk, .int .i64 zp, .string zs, .slice zA zw.length zc, .slice zB zz.length zd] 32)
    have HNF : Hid (NodeV ((set5 (w3) (w.heap.size) (.int .i64 7) (.int .i64 p) (.string e0) (.slice none 0 0) (.slice (some ⟨w3.heap.size, 0, none⟩) 1 1)).alloc (.cells #[.int .i64 zk, .int .i64 zp, .string zs, .slice zA zw.length zc, .slice zB zz.length zd] 32)) w.heap.size (nd 7 p e0 [] [er1 (.mk zk zp zs zA zc zw zB zd zz)]) (.agg #[.int .i64 7, .int .i64 p, .string e0, (.slice none 0 0), (.slice (some ⟨w3.heap.size, 0, none⟩) 1 1)])) := one_after HDZ.out HZ2.out (Nat.le_of_lt HZ2.out) (Nat.le_of_lt HZ3.out)
    change bodyPost _ _ _ _ _ ((set5 (w3) (w.heap.size) (.int .i64 7) (.int .i64 p) (.string e0) (.slice none 0 0) (.slice (some ⟨w3.heap.size, 0, none⟩) 1 1)).alloc (.cells #[.int .i64 zk, .int .i64 zp, .string zs, .slice zA zw.length zc, .slice zB zz.length zd] 32))
    exact bodyPost_ret (ret_cell rfl _ _ (w.heap.size) _ _ (0, 0) _ rfl HRF.out Try.underlying32 rfl (node_info _ _ _ _ _)) rfl (HQ.out _ _ ⟨_, (nd 7 p e0 [] [er1 (.mk zk zp zs zA zc zw zB zd zz)]), _, _, rfl, HNF.out, HSF.out, HMF.out, HST.out⟩)
  · have hne : ((kindOf (rest l i) f : Int) != 35) = true := by simp; omega
    have HAV := Lib.hid (fun x i2 f2 (h : Step varR l i e f x i2 f2) => atom_var (d := d + 1) h35 h)
    clear h35
    generalize kindOf (rest l i) f = q at *
    go_enter Try.func93, Try.ntmps93
    go_wp2_with fail
    refine HK0.out.mono ?_
    rintro e' w0 ⟨rfl, hd1⟩
    have HG := Lib.hid (HG0.out.below hd1.below HG0.out.lt)
    have HM := Lib.hid (HM0.out.dr hbw hd1)
    have HC := Lib.hid (variable_any (nodes (rest l i)).length _ b A c l i e f (HS0.out.dr hd1) (Nat.le_refl _))
    clear hd1
    go_wp2_with fail
    refine HC.out.mono ?_
    rintro e' w1 ⟨v, x, i2, f2, rfl, ⟨⟨zk, zp, zs, zA, zc, zw, zB, zd, zz⟩, rfl, hz, hdz⟩, hs1, hm1, hst⟩
    have HG1 := Lib.hid (HG.out.mv hm1 (by have := HG.out.lt; omega))
    have HS1 := Lib.hid hs1
    have HMM := Lib.hid (HM.out.trans hm1)
    have HZ := Lib.hid hz
    have HDZ := Lib.hid hdz
    have HZW := Lib.hid HG.out.lt
    have HST1 := Lib.hid hst
    obtain ⟨g0, g1, g2, g3, g4, u0, u1, u2, u3, u4⟩ := row5 HG1.out
    clear hs1 hm1 hst hz hdz
    unfold nv
    simp only [Nd.k, Nd.p, Nd.s, Nd.A, Nd.c, Nd.ws, Nd.B, Nd.d, Nd.ks]
    go_wp2_with fail
    have HRF : Hid (RowAt (set5 (w1) (w.heap.size) (.int .i64 zk) (.int .i64 zp) (.string zs) (.slice zA zw.length zc) (.slice zB zz.length zd)) (w.heap.size) 32 #[.int .i64 zk, .int .i64 zp, .string zs, (.slice zA zw.length zc), (.slice zB zz.length zd)]) := set5_row (HG1.out)
    have HSF : Hid (Rs (set5 (w1) (w.heap.size) (.int .i64 zk) (.int .i64 zp) (.string zs) (.slice zA zw.length zc) (.slice zB zz.length zd)) b A c l _ e _) := set5_rs (HS1.out) (by omega)
    have HMF : Hid (Mv b w (set5 (w1) (w.heap.size) (.int .i64 zk) (.int .i64 zp) (.string zs) (.slice zA zw.length zc) (.slice zB zz.length zd))) := set5_mv (HMM.out) (by omega) hbw
    have HNF : Hid (NodeV (set5 (w1) (w.heap.size) (.int .i64 zk) (.int .i64 zp) (.string zs) (.slice zA zw.length zc) (.slice zB zz.length zd)) w.heap.size (x) (.agg #[.int .i64 zk, .int .i64 zp, .string zs, (.slice zA zw.length zc), (.slice zB zz.length zd)])) := ⟨.mk zk zp zs zA zc zw zB zd zz, rfl, HZ.out, set5_deep HDZ.out fun k _ hk => ⟨by have := HZW.out; omega, by have := HZW.out; omega⟩⟩
    change bodyPost _ _ _ _ _ (set5 (w1) (w.heap.size) (.int .i64 zk) (.int .i64 zp) (.string zs) (.slice zA zw.length zc) (.slice zB zz.length zd))
    exact bodyPost_ret (ret_cell rfl _ _ (w.heap.size) _ _ (0, 0) _ rfl HRF.out Try.underlying32 rfl (node_info _ _ _ _ _)) rfl (HQ.out _ _ ⟨_, (x), _, _, rfl, HNF.out, HSF.out, HMF.out, HAV.out _ _ _ HST1.out⟩)

def boundR (q : Nat) (nk : Int) (d : Nat) : Rdr Nd := fun ts e => bnd (takeR q ts e) fun t r => bnd (withinR 40 (someR (labelR d)) r e) fun ks r2 => .ok (nd nk t.p e0 [] ks, r2)
theorem bound_step {d q : Nat} {nk : Int} {l : List Tr} {i e : Int} {f : Option Int} {i2 i3 : Int} {f2 f3 : Option Int} {t : Tk} {ks : List Nd} (hq : 0 < q) (hk : kindOf (rest l i) f = q) (h : Step (takeR q) l i e f t i2 f2) (h2 : Step (withinR 40 (someR (labelR d))) l i2 e f2 ks i3 f3) :
    Step (boundR q nk d) l i e f (nd nk (offOf (rest l i) e) e0 [] ks) i3 f3 := by
  obtain ⟨rfl, y, r, hr, hy⟩ := kind_head hk hq
  have e2 := h2.map (fun ks => nd nk (offOf (rest l i) e) e0 [] ks)
  refine Step.of_eq (Step.bind (rd2 := fun _ ts e' => bnd (withinR 40 (someR (labelR d)) ts e') fun ks r2 => .ok (nd nk (offOf (rest l i) e) e0 [] ks, r2)) h e2) ?_
  rw [hr]
  unfold boundR
  rw [takeR_hit hy]
  rfl
set_option maxRecDepth 100000 in
set_option maxHeartbeats 6400000 in
theorem bound_any (d q : Nat) (nk : Int) (hd : d ≤ 4294967296) (hq : 0 < q) (ih : ∀ d', d = d' + 1 → Reads 60 NodeV (labelR d) d')
    (w : World) (b : Nat) (A : Option Addr) (c : Nat) (l : List Tr) (i e : Int) (f : Option Int) (h : Rs w b A c l i e f) (hN : (nodes (rest l i)).length ≤ d) (hk : kindOf (rest l i) f = q) :
    Calls Try.prog 92 #[.pointer (some ⟨b, 0, none⟩), .int .i64 nk] w fun e' w' => ∃ v x i2 f2, e' = .returned v ∧ NodeV w' w.heap.size x v ∧ Rs w' b A c l i2 e f2 ∧ Mv b w w' ∧ Step (boundR q nk d) l i e f x i2 f2 := by
  have hmf : ∀ (fn : Fn) (first cap : Array Value) (w : World), (Instr.makeFunc fn first cap).run Try.prog w = .ok (.func fn first cap) w := fun _ _ _ _ => rfl
  have hbw := h.lt
  have hr0 := (RowAt.new w 62 #[.pointer (some ⟨b, 0, none⟩)]).alloc (.cells #[.int .i64 0, .int .i64 0, .string ⟨#[]⟩, .slice none 0 0, .slice none 0 0] 32)
  have hg0 := RowAt.new (w.alloc (.cells #[.pointer (some ⟨b, 0, none⟩)] 62)) 32 #[.int .i64 0, .int .i64 0, .string ⟨#[]⟩, .slice none 0 0, .slice none 0 0]
  rw [show (w.alloc (.cells #[.pointer (some ⟨b, 0, none⟩)] 62)).heap.size = w.heap.size + 1 by simp] at hg0
  have hbz : Below w.heap.size w ((w.alloc (.cells #[.pointer (some ⟨b, 0, none⟩)] 62)).alloc (.cells #[.int .i64 0, .int .i64 0, .string ⟨#[]⟩, .slice none 0 0, .slice none 0 0] 32)) := ((Below.refl _ _).alloc (Nat.le_refl _) _).alloc (by simp) _
  have HS0 := Lib.hid (h.below hbz)
  have HM0 := Lib.hid (Mv.below hbw hbz)
  have HO := Lib.hid (offset_any HS0.out)
  have HIH := Lib.hid ih; clear ih
  have HR0 := Lib.hid hr0
  have HG0 := Lib.hid hg0
  have r0 := (hr0.cell 0).trans rfl
  have hzz : ((w.alloc (.cells #[.pointer (some ⟨b, 0, none⟩)] 62)).alloc (.cells #[.int .i64 0, .int .i64 0, .string ⟨#[]⟩, .slice none 0 0, .slice none 0 0] 32)).heap.size = w.heap.size + 2 := by simp
  have HZZ := Lib.hid hzz
  obtain ⟨N9, h9⟩ : ∃ N9, d = N9 + 1 := by
    obtain ⟨_, y, r, hr, _⟩ := kind_head hk hq
    rw [hr] at hN
    have := length_nodes (y :: r)
    simp only [List.length_cons] at this
    exact ⟨d - 1, by omega⟩
  have H9 : Hid (d = N9 + 1) := h9
  have HEL := Lib.hid (HIH.out N9 h9)
  have HKK := Lib.hid hk
  clear h hr0 hg0 hbz hzz h9 hk
  refine calls_hid fun Q' hQ => ?_
  have HQ := Lib.hid hQ; clear hQ
  generalize hoff : offOf (rest l i) e = off at *
  have HOFF := Lib.hid hoff; clear hoff
  go_enter Try.func92, Try.ntmps92
  go_wp2_with fail
  refine HO.out.mono ?_
  rintro e' w1 ⟨rfl, hd1⟩
  have hz1 : w1.heap.size = w.heap.size + 2 := by obtain ⟨n, rfl⟩ := hd1; exact HZZ.out
  have HR1 := Lib.hid ((HR0.out.below hd1.below HR0.out.lt).alloc (.cells #[.int .i64 nk, .int .i64 off, .string ⟨#[]⟩, .slice none 0 0, .slice none 0 0] 32))
  have HG1 := Lib.hid ((HG0.out.below hd1.below HG0.out.lt).alloc (.cells #[.int .i64 nk, .int .i64 off, .string ⟨#[]⟩, .slice none 0 0, .slice none 0 0] 32))
  have hn1 := RowAt.new w1 32 #[.int .i64 nk, .int .i64 off, .string ⟨#[]⟩, .slice none 0 0, .slice none 0 0]
  rw [hz1] at hn1
  have HN1 := Lib.hid hn1
  have HS1 := Lib.hid ((HS0.out.dr hd1).alloc (.cells #[.int .i64 nk, .int .i64 off, .string ⟨#[]⟩, .slice none 0 0, .slice none 0 0] 32))
  have HM1 := Lib.hid ((HM0.out.dr hbw hd1).alloc hbw (.cells #[.int .i64 nk, .int .i64 off, .string ⟨#[]⟩, .slice none 0 0, .slice none 0 0] 32))
  clear r0 HS0 HM0 HR0 HG0 HO hd1 hn1 HZZ
  go_upto_region 2 with fail
  generalize w1.alloc (.cells #[.int .i64 nk, .int .i64 off, .string ⟨#[]⟩, .slice none 0 0, .slice none 0 0] 32) = w2 at *
  obtain ⟨S, hSe⟩ : ∃ S : World → Prop, S = fun w' => RowAt w' w.heap.size 62 #[.pointer (some ⟨b, 0, none⟩)] := ⟨_, rfl⟩
  have HS : Hid (S w2.drew) := by rw [hSe]; exact Lib.hid HR1.out.drew
  have C0 : ∀ w', S w' → w'.cell? ⟨w.heap.size, 0, none⟩ = some (.pointer (some ⟨b, 0, none⟩)) := fun w' h => by rw [hSe] at h; exact (RowAt.cell h 0).trans rfl
  have HS2 : Hid (Rs w2.drew b A c l i e f) := HS1.out.dr ⟨1, rfl⟩
  have HM2 : Hid (Mv b w w2.drew) := HM1.out.drew
  have HK2 := Lib.hid (kind_any HS2.out)
  rw [HKK.out] at HK2
  refine wp_region_ord S [(0, true), (1, true), (2, false), (3, false)] (by kernel_rfl) (by kernel_rfl) rfl (by kernel_rfl) HS.out ?_
  iterate 2
    (refine wpOrd_step (o := ?_) ?_ ?_; rotate_left 1; (simp only [List.getElem?_toArray, List.getElem?_cons_succ, List.getElem?_cons_zero]; with_reducible rfl))
    (first
        | (refine wpOrd_skip (by rfl) ?_)
        | (refine wpOrd_take (v := ?_) (by rfl) ?_ ?_; rotate_left 1; (intro wx hSx; have hc_0 := C0 wx hSx; go_simp; try with_reducible rfl)))
    (try simp only [Act.put, List.setIfInBounds_toArray, List.set_cons_zero, List.set_cons_succ])
  (refine wpOrd_solo (o := ?_) ?_ ?_; rotate_left 1; (simp only [List.getElem?_toArray, List.getElem?_cons_succ, List.getElem?_cons_zero]; with_reducible rfl))
  intro K hK
  go_simp
  go_at_call 84
  refine HK2.out.mono ?_
  rintro e' w3 ⟨rfl, hd3⟩
  have hS3 : S w3 := by rw [hSe]; exact (HR1.out.drew).below hd3.below (HR1.out.drew).lt
  refine hK.out _ _ hS3 ?_
  clear hK K HS
  have HR3 : Hid (RowAt w3 w.heap.size 62 #[.pointer (some ⟨b, 0, none⟩)]) := (HR1.out.drew).below hd3.below (HR1.out.drew).lt
  have HG3 : Hid (RowAt w3 (w.heap.size + 1) 32 #[.int .i64 0, .int .i64 0, .string ⟨#[]⟩, .slice none 0 0, .slice none 0 0]) := (HG1.out.drew).below hd3.below (HG1.out.drew).lt
  have HN3 : Hid (RowAt w3 (w.heap.size + 2) 32 #[.int .i64 nk, .int .i64 off, .string ⟨#[]⟩, .slice none 0 0, .slice none 0 0]) := (HN1.out.drew).below hd3.below (HN1.out.drew).lt
  have HS3 := Lib.hid (HS2.out.dr hd3)
  have HM3 := Lib.hid (HM2.out.dr hbw hd3)
  have HT3 := Lib.hid (take_any HS3.out q hq)
  clear hd3 hS3
  (refine wpOrd_solo (o := ?_) ?_ ?_; rotate_left 1; (simp only [List.getElem?_toArray, List.getElem?_cons_succ, List.getElem?_cons_zero]; with_reducible rfl))
  intro K hK
  go_simp
  go_at_call 97
  refine HT3.out.mono ?_
  rintro e' w4 ⟨t, i2, f2, rfl, hs4, hm4, hst4⟩
  have hS4 : S w4 := by rw [hSe]; exact HR3.out.mv hm4 (by omega)
  refine hK.out _ _ hS4 ?_
  clear hK K
  refine wpOrd_done ?_
  have HR4 := Lib.hid (HR3.out.mv hm4 (by omega))
  have HG4 := Lib.hid (HG3.out.mv hm4 (by omega))
  have HN4 := Lib.hid (HN3.out.mv hm4 (by omega))
  have HS4 := Lib.hid hs4
  have HM4 := Lib.hid (HM3.out.trans hm4)
  have HST4 := Lib.hid hst4
  have r4 := (HR4.out.cell 0).trans rfl
  have hzn : w.heap.size + 2 < w4.heap.size := HN4.out.lt
  have HB4 : Hid (BoxN b w.heap.size (w.heap.size + 2) nk off ⟨#[]⟩ w4 []) := ⟨⟨none, 0, [], by simp [TM.er], Nat.le_refl _, HN4.out, SlC.nil _ _ _, DeepN.nil _ _⟩, HR4.out⟩
  have HNN : Hid ((nodes (rest l i2)).length ≤ N9 + 1) := Nat.le_trans hst4.1.nodes (by have h9 := H9.out; omega)
  have HW := Lib.hid (within_any (N := N9) 40 (by decide) (fun _ => by kernel_rfl) HS4.out (by omega) (by omega) HNN.out (bound1_in N9 b w.heap.size (w.heap.size + 2) nk off ⟨#[]⟩ (by omega) (by omega) (by omega) (by have h9 := H9.out; omega) HEL.out) HB4.out (fun wa wb x hv hk => hv.keep (by omega) (by omega) hk))
  clear hs4 hm4 hst4 hS4 HS2 HM2 HK2 HT3 HR3 HG3 HN3 HS3 HM3 HR1 HG1 HN1 HS1 HM1 C0
  obtain ⟨n0, n1, n2, n3, n4, v0, v1, v2, v3, v4⟩ := row5 HN4.out
  go_wp2_with fail
  refine HW.out.mono ?_
  rintro e' w5 ⟨x, i9, f9, rfl, ⟨⟨X, dd, zs, rfl, hdd, hn9, hsl, hdp⟩, _⟩, hs9, hm9, hst9⟩
  have HS9 := Lib.hid hs9
  have HM9 := Lib.hid (HM4.out.fresh hbw hm9 (by omega))
  have HG9 : Hid (RowAt w5 (w.heap.size + 1) 32 #[.int .i64 0, .int .i64 0, .string ⟨#[]⟩, .slice none 0 0, .slice none 0 0]) := (hm9.block _ HG4.out.lt (by omega) (by omega)).trans HG4.out
  have HN9 := Lib.hid hn9
  have HST9 := Lib.hid (bound_step (nk := nk) hq HKK.out HST4.out hst9)
  rw [HOFF.out] at HST9
  have HSL := Lib.hid hsl
  have HDP := Lib.hid hdp
  clear n0 n1 n2 n3 n4 v0 v1 v2 v3 v4 r4
  obtain ⟨n0, n1, n2, n3, n4, v0, v1, v2, v3, v4⟩ := row5 HN9.out
  obtain ⟨g0, g1, g2, g3, g4, u0, u1, u2, u3, u4⟩ := row5 HG9.out
  clear hs9 hm9 hst9 hsl hdp hn9
  go_wp2_with fail
  have HRF : Hid (RowAt (set5 (w5) (w.heap.size + 1) (.int .i64 nk) (.int .i64 off) (.string ⟨#[]⟩) (.slice none 0 0) (.slice X zs.length dd)) (w.heap.size + 1) 32 #[.int .i64 nk, .int .i64 off, .string ⟨#[]⟩, (.slice none 0 0), (.slice X zs.length dd)]) := set5_row (HG9.out)
  have HSF : Hid (Rs (set5 (w5) (w.heap.size + 1) (.int .i64 nk) (.int .i64 off) (.string ⟨#[]⟩) (.slice none 0 0) (.slice X zs.length dd)) b A c l _ e _) := set5_rs (HS9.out) (by omega)
  have HMF : Hid (Mv b w (set5 (w5) (w.heap.size + 1) (.int .i64 nk) (.int .i64 off) (.string ⟨#[]⟩) (.slice none 0 0) (.slice X zs.length dd))) := set5_mv (HM9.out) (by omega) hbw
  have HNF : Hid (NodeV (set5 (w5) (w.heap.size + 1) (.int .i64 nk) (.int .i64 off) (.string ⟨#[]⟩) (.slice none 0 0) (.slice X zs.length dd)) w.heap.size (nd nk off e0 [] (TM.er zs)) (.agg #[.int .i64 nk, .int .i64 off, .string ⟨#[]⟩, (.slice none 0 0), (.slice X zs.length dd)])) := nodeV_kids hdd (set5_slc HSL.out fun k _ hk => ⟨by omega, by omega⟩) (set5_deep HDP.out fun k _ hk => ⟨by omega, by omega⟩)
  change bodyPost _ _ _ _ _ (set5 (w5) (w.heap.size + 1) (.int .i64 nk) (.int .i64 off) (.string ⟨#[]⟩) (.slice none 0 0) (.slice X zs.length dd))
  exact bodyPost_ret (ret_cell rfl _ _ (w.heap.size + 1) _ _ (0, 0) _ rfl HRF.out Try.underlying32 rfl (node_info _ _ _ _ _)) rfl (HQ.out _ _ ⟨_, (nd nk off e0 [] (TM.er zs)), _, _, rfl, HNF.out, HSF.out, HMF.out, HST9.out⟩)
theorem label_step_eq {d q : Nat} {nk : Int} {l : List Tr} {i e : Int} {f : Option Int} {x : Nd} {i2 : Int} {f2 : Option Int} (hq : (q = 43 ∧ nk = 8) ∨ (q = 38 ∧ nk = 9)) (hk : kindOf (rest l i) f = q) (h : Step (boundR q nk d) l i e f x i2 f2) : Step (labelR (d + 1)) l i e f x i2 f2 := by
  obtain ⟨rfl, y, r, hr, hy⟩ := kind_head hk (by omega)
  refine h.of_eq ?_
  rw [hr]
  unfold boundR
  rw [takeR_hit hy]
  simp only [labelR]
  rcases hq with ⟨rfl, rfl⟩ | ⟨rfl, rfl⟩
  · rw [if_pos hy]; rfl
  · rw [if_neg (by omega), if_pos hy]; rfl
theorem label_atom {d : Nat} {l : List Tr} {i e : Int} {f : Option Int} {x : Nd} {i2 : Int} {f2 : Option Int} (h1 : kindOf (rest l i) f ≠ 43) (h2 : kindOf (rest l i) f ≠ 38) (h : Step (atomR (d + 1)) l i e f x i2 f2) : Step (labelR (d + 1)) l i e f x i2 f2 := by
  cases f with
  | some p =>
    obtain rfl := h.2.1 p rfl
    exact Step.bad h.1
  | none =>
    refine h.of_eq ?_
    cases hr : rest l i with
    | nil => rfl
    | cons y r =>
      rw [hr] at h1 h2
      have q1 : ¬ y.t.k = 43 := h1
      have q2 : ¬ y.t.k = 38 := h2
      simp only [labelR]
      rw [if_neg q1, if_neg q2]
set_option maxRecDepth 100000 in
set_option maxHeartbeats 3200000 in
theorem label_step (d : Nat) (hd : d ≤ 4294967296) (ih : ∀ d', d = d' + 1 → Reads 60 NodeV (labelR d) d') : Reads 60 NodeV (labelR (d + 1)) d := by
  intro w b A c l i e f h hN
  have hbw := h.lt
  have HM0 : Hid (Mv b w (w.alloc (.cells #[.int .i64 0, .int .i64 0, .string ⟨#[]⟩, .slice none 0 0, .slice none 0 0] 32))) := (Mv.refl b w).alloc hbw _
  have HG0 := Lib.hid (RowAt.new w 32 #[.int .i64 0, .int .i64 0, .string ⟨#[]⟩, .slice none 0 0, .slice none 0 0])
  have HS0 := Lib.hid (h.mv HM0.out (h.at_.alloc _))
  clear h
  refine calls_hid fun Q' hQ => ?_
  have HQ := Lib.hid hQ; clear hQ
  have HK0 := Lib.hid (kind_any HS0.out)
  have HIH := Lib.hid ih; clear ih
  by_cases h43 : kindOf (rest l i) f = 43
  · rw [h43] at HK0
    have HKK := Lib.hid h43; clear h43
    go_enter Try.func60, Try.ntmps60
    go_wp2_with fail
    refine HK0.out.mono ?_
    rintro e' w0 ⟨rfl, hd1⟩
    have HG := Lib.hid (HG0.out.below hd1.below HG0.out.lt)
    have HM := Lib.hid (HM0.out.dr hbw hd1)
    have HC := Lib.hid (bound_any d 43 8 hd (by decide) HIH.out _ b A c l i e f (HS0.out.dr hd1) hN HKK.out)
    clear hd1
    go_wp2_with fail
    refine HC.out.mono ?_
    rintro e' w1 ⟨v, x, i2, f2, rfl, ⟨⟨zk, zp, zs, zA, zc, zw, zB, zd, zz⟩, rfl, hz, hdz⟩, hs1, hm1, hst⟩
    have HG1 := Lib.hid (HG.out.mv hm1 (by have := HG.out.lt; omega))
    have HS1 := Lib.hid hs1
    have HMM := Lib.hid (HM.out.trans hm1)
    have HZ := Lib.hid hz
    have HDZ := Lib.hid hdz
    have HZW := Lib.hid HG.out.lt
    have HST1 := Lib.hid hst
    obtain ⟨g0, g1, g2, g3, g4, u0, u1, u2, u3, u4⟩ := row5 HG1.out
    clear hs1 hm1 hst hz hdz
    unfold nv
    simp only [Nd.k, Nd.p, Nd.s, Nd.A, Nd.c, Nd.ws, Nd.B, Nd.d, Nd.ks]
    go_wp2_with fail
    have HRF : Hid (RowAt (set5 (w1) (w.heap.size) (.int .i64 zk) (.int .i64 zp) (.string zs) (.slice zA zw.length zc) (.slice zB zz.length zd)) (w.heap.size) 32 #[.int .i64 zk, .int .i64 zp, .string zs, (.slice zA zw.length zc), (.slice zB zz.length zd)]) := set5_row (HG1.out)
    have HSF : Hid (Rs (set5 (w1) (w.heap.size) (.int .i64 zk) (.int .i64 zp) (.string zs) (.slice zA zw.length zc) (.slice zB zz.length zd)) b A c l _ e _) := set5_rs (HS1.out) (by omega)
    have HMF : Hid (Mv b w (set5 (w1) (w.heap.size) (.int .i64 zk) (.int .i64 zp) (.string zs) (.slice zA zw.length zc) (.slice zB zz.length zd))) := set5_mv (HMM.out) (by omega) hbw
    have HNF : Hid (NodeV (set5 (w1) (w.heap.size) (.int .i64 zk) (.int .i64 zp) (.string zs) (.slice zA zw.length zc) (.slice zB zz.length zd)) w.heap.size (x) (.agg #[.int .i64 zk, .int .i64 zp, .string zs, (.slice zA zw.length zc), (.slice zB zz.length zd)])) := ⟨.mk zk zp zs zA zc zw zB zd zz, rfl, HZ.out, set5_deep HDZ.out fun k _ hk => ⟨by have := HZW.out; omega, by have := HZW.out; omega⟩⟩
    change bodyPost _ _ _ _ _ (set5 (w1) (w.heap.size) (.int .i64 zk) (.int .i64 zp) (.string zs) (.slice zA zw.length zc) (.slice zB zz.length zd))
    exact bodyPost_ret (ret_cell rfl _ _ (w.heap.size) _ _ (0, 0) _ rfl HRF.out Try.underlying32 rfl (node_info _ _ _ _ _)) rfl (HQ.out _ _ ⟨_, (x), _, _, rfl, HNF.out, HSF.out, HMF.out, label_step_eq (by omega) HKK.out HST1.out⟩)
  · by_cases h38 : kindOf (rest l i) f = 38
    · rw [h38] at HK0
      have HKK := Lib.hid h38; clear h38
      go_enter Try.func60, Try.ntmps60
      go_wp2_with fail
      refine HK0.out.mono ?_
      rintro e' w0 ⟨rfl, hd1⟩
      have HG := Lib.hid (HG0.out.below hd1.below HG0.out.lt)
      have HM := Lib.hid (HM0.out.dr hbw hd1)
      have HC := Lib.hid (bound_any d 38 9 hd (by decide) HIH.out _ b A c l i e f (HS0.out.dr hd1) hN HKK.out)
      clear hd1
      go_wp2_with fail
      refine HC.out.mono ?_
      rintro e' w1 ⟨v, x, i2, f2, rfl, ⟨⟨zk, zp, zs, zA, zc, zw, zB, zd, zz⟩, rfl, hz, hdz⟩, hs1, hm1, hst⟩
      have HG1 := Lib.hid (HG.out.mv hm1 (by have := HG.out.lt; omega))
      have HS1 := Lib.hid hs1
      have HMM := Lib.hid (HM.out.trans hm1)
      have HZ := Lib.hid hz
      have HDZ := Lib.hid hdz
      have HZW := Lib.hid HG.out.lt
      have HST1 := Lib.hid hst
      obtain ⟨g0, g1, g2, g3, g4, u0, u1, u2, u3, u4⟩ := row5 HG1.out
      clear hs1 hm1 hst hz hdz
      unfold nv
      simp only [Nd.k, Nd.p, Nd.s, Nd.A, Nd.c, Nd.ws, Nd.B, Nd.d, Nd.ks]
      go_wp2_with fail
      have HRF : Hid (RowAt (set5 (w1) (w.heap.size) (.int .i64 zk) (.int .i64 zp) (.string zs) (.slice zA zw.length zc) (.slice zB zz.length zd)) (w.heap.size) 32 #[.int .i64 zk, .int .i64 zp, .string zs, (.slice zA zw.length zc), (.slice zB zz.length zd)]) := set5_row (HG1.out)
      have HSF : Hid (Rs (set5 (w1) (w.heap.size) (.int .i64 zk) (.int .i64 zp) (.string zs) (.slice zA zw.length zc) (.slice zB zz.length zd)) b A c l _ e _) := set5_rs (HS1.out) (by omega)
      have HMF : Hid (Mv b w (set5 (w1) (w.heap.size) (.int .i64 zk) (.int .i64 zp) (.string zs) (.slice zA zw.length zc) (.slice zB zz.length zd))) := set5_mv (HMM.out) (by omega) hbw
      have HNF : Hid (NodeV (set5 (w1) (w.heap.size) (.int .i64 zk) (.int .i64 zp) (.string zs) (.slice zA zw.length zc) (.slice zB zz.length zd)) w.heap.size (x) (.agg #[.int .i64 zk, .int .i64 zp, .string zs, (.slice zA zw.length zc), (.slice zB zz.length zd)])) := ⟨.mk zk zp zs zA zc zw zB zd zz, rfl, HZ.out, set5_deep HDZ.out fun k _ hk => ⟨by have := HZW.out; omega, by have := HZW.out; omega⟩⟩
      change bodyPost _ _ _ _ _ (set5 (w1) (w.heap.size) (.int .i64 zk) (.int .i64 zp) (.string zs) (.slice zA zw.length zc) (.slice zB zz.length zd))
      exact bodyPost_ret (ret_cell rfl _ _ (w.heap.size) _ _ (0, 0) _ rfl HRF.out Try.underlying32 rfl (node_info _ _ _ _ _)) rfl (HQ.out _ _ ⟨_, (x), _, _, rfl, HNF.out, HSF.out, HMF.out, label_step_eq (by omega) HKK.out HST1.out⟩)
    · have q1 : ((kindOf (rest l i) f : Int) == 43) = false := by rw [beq_eq_false_iff_ne]; omega
      have q2 : ((kindOf (rest l i) f : Int) == 38) = false := by rw [beq_eq_false_iff_ne]; omega
      have HAV := Lib.hid (fun x i2 f2 (h : Step (atomR (d + 1)) l i e f x i2 f2) => label_atom (d := d) h43 h38 h)
      clear h43 h38
      generalize kindOf (rest l i) f = q at *
      go_enter Try.func60, Try.ntmps60
      go_wp2_with fail
      refine HK0.out.mono ?_
      rintro e' w0 ⟨rfl, hd1⟩
      have HG := Lib.hid (HG0.out.below hd1.below HG0.out.lt)
      have HM := Lib.hid (HM0.out.dr hbw hd1)
      have HC := Lib.hid (atom_any d hd _ b A c l i e f (HS0.out.dr hd1) hN)
      clear hd1
      go_wp2_with fail
      refine HC.out.mono ?_
      rintro e' w1 ⟨v, x, i2, f2, rfl, ⟨⟨zk, zp, zs, zA, zc, zw, zB, zd, zz⟩, rfl, hz, hdz⟩, hs1, hm1, hst⟩
      have HG1 := Lib.hid (HG.out.mv hm1 (by have := HG.out.lt; omega))
      have HS1 := Lib.hid hs1
      have HMM := Lib.hid (HM.out.trans hm1)
      have HZ := Lib.hid hz
      have HDZ := Lib.hid hdz
      have HZW := Lib.hid HG.out.lt
      have HST1 := Lib.hid hst
      obtain ⟨g0, g1, g2, g3, g4, u0, u1, u2, u3, u4⟩ := row5 HG1.out
      clear hs1 hm1 hst hz hdz
      unfold nv
      simp only [Nd.k, Nd.p, Nd.s, Nd.A, Nd.c, Nd.ws, Nd.B, Nd.d, Nd.ks]
      go_wp2_with fail
      have HRF : Hid (RowAt (set5 (w1) (w.heap.size) (.int .i64 zk) (.int .i64 zp) (.string zs) (.slice zA zw.length zc) (.slice zB zz.length zd)) (w.heap.size) 32 #[.int .i64 zk, .int .i64 zp, .string zs, (.slice zA zw.length zc), (.slice zB zz.length zd)]) := set5_row (HG1.out)
      have HSF : Hid (Rs (set5 (w1) (w.heap.size) (.int .i64 zk) (.int .i64 zp) (.string zs) (.slice zA zw.length zc) (.slice zB zz.length zd)) b A c l _ e _) := set5_rs (HS1.out) (by omega)
      have HMF : Hid (Mv b w (set5 (w1) (w.heap.size) (.int .i64 zk) (.int .i64 zp) (.string zs) (.slice zA zw.length zc) (.slice zB zz.length zd))) := set5_mv (HMM.out) (by omega) hbw
      have HNF : Hid (NodeV (set5 (w1) (w.heap.size) (.int .i64 zk) (.int .i64 zp) (.string zs) (.slice zA zw.length zc) (.slice zB zz.length zd)) w.heap.size (x) (.agg #[.int .i64 zk, .int .i64 zp, .string zs, (.slice zA zw.length zc), (.slice zB zz.length zd)])) := ⟨.mk zk zp zs zA zc zw zB zd zz, rfl, HZ.out, set5_deep HDZ.out fun k _ hk => ⟨by have := HZW.out; omega, by have := HZW.out; omega⟩⟩
      change bodyPost _ _ _ _ _ (set5 (w1) (w.heap.size) (.int .i64 zk) (.int .i64 zp) (.string zs) (.slice zA zw.length zc) (.slice zB zz.length zd))
      exact bodyPost_ret (ret_cell rfl _ _ (w.heap.size) _ _ (0, 0) _ rfl HRF.out Try.underlying32 rfl (node_info _ _ _ _ _)) rfl (HQ.out _ _ ⟨_, (x), _, _, rfl, HNF.out, HSF.out, HMF.out, HAV.out _ _ _ HST1.out⟩)
theorem label_any : ∀ d, d ≤ 4294967296 → Reads 60 NodeV (labelR (d + 1)) d := by
  intro d
  induction d with
  | zero => intro h; exact label_step 0 h fun d' hd => by omega
  | succ d ih =>
    intro h
    refine label_step (d + 1) h fun d' hd => ?_
    obtain rfl : d = d' := by omega
    exact ih (by omega)
end Go.Proofs.Ytapnefhmonpgdaa
