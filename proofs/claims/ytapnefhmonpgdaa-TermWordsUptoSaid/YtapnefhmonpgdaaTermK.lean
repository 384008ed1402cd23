/-
  The program's reader: fields, rows. Conditions: at most 2^32 trees.
-/
import Derived.Test.YtapnefhmonpgdaaTermJ
namespace Go.Proofs.Ytapnefhmonpgdaa
open Go.RowKit LX TR TM

theorem field_step {d : Nat} {l : List Tr} {i e : Int} {f : Option Int} {x : Wd} {t : Tk} {n : Nd} {i2 i3 i4 : Int} {f2 f3 f4 : Option Int} (h : Step nameR l i e f x i2 f2) (h2 : Step (takeR 61) l i2 e f2 t i3 f3) (h3 : Step (atomR d) l i3 e f3 n i4 f4) :
    Step (fieldR d) l i e f (nd 11 x.p x.s [] [n]) i4 f4 := by
  have e1 := h3.map (fun n => nd 11 x.p x.s [] [n])
  have e2 := Step.bind (rd2 := fun _ ts e => bnd (atomR d ts e) fun n r3 => .ok (nd 11 x.p x.s [] [n], r3)) h2 e1
  exact Step.bind (rd2 := fun w ts e => bnd (takeR 61 ts e) fun _ r2 => bnd (atomR d r2 e) fun n r3 => .ok (nd 11 w.p w.s [] [n], r3)) h e2

set_option maxRecDepth 100000 in
set_option maxHeartbeats 3200000 in
theorem field_any (d : Nat) (hd : d ≤ 4294967296) : Reads 96 NodeV (fieldR (d + 1)) d := by
  intro w b A c l i e f h hN
  have hbw := h.lt
  have HM0 : Hid (Mv b w (w.alloc (.cells #[.int .i64 0, .int .i64 0, .string ⟨#[]⟩, .slice none 0 0, .slice none 0 0] 32))) := (Mv.refl b w).alloc hbw _
  have HG := Lib.hid (RowAt.new w 32 #[.int .i64 0, .int .i64 0, .string ⟨#[]⟩, .slice none 0 0, .slice none 0 0])
  have HT := Lib.hid (name_any (nodes (rest l i)).length _ b A c l i e f (h.mv HM0.out (h.at_.alloc _)) (Nat.le_refl _))
  clear h
  refine calls_hid fun Q' hQ => ?_
  have HQ := Lib.hid hQ; clear hQ
  go_enter Try.func96, Try.ntmps96
  go_wp2_with fail
  refine HT.out.mono ?_
  rintro e' w1 ⟨v, ⟨s, p⟩, i2, f2, rfl, rfl, hs, hm, hst⟩
  have HG1 := HG.out.mv hm (Nat.ne_of_gt hbw)
  have hsz := HG1.lt
  have HS1 := Lib.hid (hs.alloc (.cells #[.string s, .int .i64 p] 69))
  have HM1 := Lib.hid ((HM0.out.trans hm).alloc hbw (.cells #[.string s, .int .i64 p] 69))
  have HK1 : Hid (KeepR w1.heap.size w.heap.size w b s p (w1.alloc (.cells #[.string s, .int .i64 p] 69))) := ⟨RowAt.new w1 _ _, HG1.alloc _, HM1.out, Nat.le_refl _, Nat.le_of_lt hsz⟩
  have HST := Lib.hid hst
  have HTK := Lib.hid (take_any HS1.out 61 (by decide))
  have hn5 := RowAt.new w1 69 #[.string s, .int .i64 p]
  obtain ⟨m0, m1, _, _⟩ := row2 hn5
  have HSZ := Lib.hid hsz
  clear hs hm hst HG1 hn5 HM1 HS1
  unfold wv
  go_wp2_with fail
  refine HTK.out.mono ?_
  rintro e' w2 ⟨t, i3, f3, rfl, hs2, hm2, hst2⟩
  have HK2 := Lib.hid (HK1.out.mv hbw hm2)
  have HS2 := Lib.hid hs2
  have HST2 := Lib.hid hst2
  clear hs2 hm2 hst2 m0 m1 HK1 HTK
  go_upto_region 3 with fail
  obtain ⟨S, hSe⟩ : ∃ S : World → Prop, S = fun w' => RowAt w' w1.heap.size 69 #[.string s, .int .i64 p] := ⟨_, rfl⟩
  have HS : Hid (S w2.drew) := by rw [hSe]; exact Lib.hid HK2.out.1.drew
  have C0 : ∀ w', S w' → w'.cell? ⟨w1.heap.size, 0, none⟩ = some (.string s) := fun w' h => by rw [hSe] at h; exact (RowAt.cell h 0).trans rfl
  have C1 : ∀ w', S w' → w'.cell? ⟨w1.heap.size, 1, none⟩ = some (.int .i64 p) := fun w' h => by rw [hSe] at h; exact (RowAt.cell h 1).trans rfl
  have HC := Lib.hid (atom_any d hd w2.drew b A c l i3 e f3 (HS2.out.dr (w' := w2.drew) ⟨1, rfl⟩) (Nat.le_trans (HST.out.1.trans HST2.out.1).nodes hN))
  refine wp_region_ord S [(0, true), (1, true), (2, true), (3, true), (4, true), (5, false), (6, false), (7, true), (8, false)] (by kernel_rfl) (by kernel_rfl) rfl (by kernel_rfl) HS.out ?_
  iterate 5
    (refine wpOrd_step (o := ?_) ?_ ?_; rotate_left 1; (simp only [List.getElem?_toArray, List.getElem?_cons_succ, List.getElem?_cons_zero]; with_reducible rfl))
    (first
        | (refine wpOrd_skip (by rfl) ?_)
        | (refine wpOrd_take (v := ?_) (by rfl) ?_ ?_; rotate_left 1; (intro wx hSx; have hc_0 := C0 wx hSx; have hc_1 := C1 wx hSx; go_simp; try with_reducible rfl)))
    (try simp only [Act.put, List.setIfInBounds_toArray, List.set_cons_zero, List.set_cons_succ])
  (refine wpOrd_solo (o := ?_) ?_ ?_; rotate_left 1; (simp only [List.getElem?_toArray, List.getElem?_cons_succ, List.getElem?_cons_zero]; with_reducible rfl))
  intro K hK
  go_simp
  go_at_call 93
  refine HC.out.mono ?_
  rintro e' w3 ⟨v, x, i4, f4, rfl, ⟨z, rfl, rfl, hdz⟩, hs3, hm3, hst3⟩
  have HK3 := Lib.hid (HK2.out.mv hbw (((Mv.refl b w2).drew).trans hm3))
  have hS3 : S w3 := by rw [hSe]; exact HK3.out.1
  refine hK.out _ _ hS3 ?_
  clear HS hK K
  have HS := Lib.hid hS3
  have HS4 := Lib.hid hs3
  have HZ3 : Hid (w.heap.size < w2.heap.size) := HK2.out.2.1.lt
  have HSS := Lib.hid (field_step HST.out HST2.out hst3)
  have HDZ := Lib.hid hdz
  clear hs3 hm3 hst3 hS3 hdz
  (refine wpOrd_solo (o := ?_) ?_ ?_; rotate_left 1; (simp only [List.getElem?_toArray, List.getElem?_cons_succ, List.getElem?_cons_zero]; with_reducible rfl))
  intro K hK
  obtain ⟨zk, zp, zs, zA, zc, zw, zB, zd, zz⟩ := z
  unfold nv
  simp only [Nd.k, Nd.p, Nd.s, Nd.A, Nd.c, Nd.ws, Nd.B, Nd.d, Nd.ks]
  go_simp
  have hS4 : S (w3.alloc (.cells #[.int .i64 zk, .int .i64 zp, .string zs, .slice zA zw.length zc, .slice zB zz.length zd] 32)) := by
    have h := HS.out
    rw [hSe] at h ⊢
    exact RowAt.alloc h _
  refine hK.out _ _ hS4 ?_
  clear HS hK K
  have HS := Lib.hid hS4; clear hS4
  have HRZ := Lib.hid (RowAt.new w3 32 #[.int .i64 zk, .int .i64 zp, .string zs, .slice zA zw.length zc, .slice zB zz.length zd])
  have HG4 := Lib.hid (HK3.out.2.1.alloc (.cells #[.int .i64 zk, .int .i64 zp, .string zs, .slice zA zw.length zc, .slice zB zz.length zd] 32))
  have HM4 := Lib.hid (HK3.out.2.2.1.alloc hbw (.cells #[.int .i64 zk, .int .i64 zp, .string zs, .slice zA zw.length zc, .slice zB zz.length zd] 32))
  have HS5 := Lib.hid (HS4.out.alloc (.cells #[.int .i64 zk, .int .i64 zp, .string zs, .slice zA zw.length zc, .slice zB zz.length zd] 32))
  have HDZ4 : Hid (DeepN (w3.alloc (.cells #[.int .i64 zk, .int .i64 zp, .string zs, .slice zA zw.length zc, .slice zB zz.length zd] 32)) (fun k => w2.drew.heap.size ≤ k) [Nd.mk zk zp zs zA zc zw zB zd zz]) := HDZ.out.keep (by simp) (fun k hk _ => heap_alloc_old _ _ hk) fun _ _ h => h
  have hz33 : w.heap.size < w3.heap.size := HK3.out.2.1.lt
  have HZZ : Hid (w.heap.size < w3.heap.size) := hz33
  have HZ1 : Hid (w.heap.size < w1.heap.size) := HSZ.out
  clear HK3 HDZ HS4
  iterate 1
    (refine wpOrd_step (o := ?_) ?_ ?_; rotate_left 1; (simp only [List.getElem?_toArray, List.getElem?_cons_succ, List.getElem?_cons_zero]; with_reducible rfl))
    (first
        | (refine wpOrd_skip (by rfl) ?_)
        | (refine wpOrd_take (v := ?_) (by rfl) ?_ ?_; rotate_left 1; (intro wx hSx; have hc_0 := C0 wx hSx; have hc_1 := C1 wx hSx; go_simp; try with_reducible rfl)))
    (try simp only [Act.put, List.setIfInBounds_toArray, List.set_cons_zero, List.set_cons_succ])
  (refine wpOrd_solo (o := ?_) ?_ ?_; rotate_left 1; (simp only [List.getElem?_toArray, List.getElem?_cons_succ, List.getElem?_cons_zero]; with_reducible rfl))
  intro K hK
  rw [if_pos (by rfl)]
  refine wp_store_row _ _ _ rfl w.heap.size #[.int .i64 11, .int .i64 p, .string s, .slice none 0 0, .slice (some ⟨w3.heap.size, 0, none⟩) 1 1] rfl rfl _ _ HG4.out (node_info _ _ _ _ _) rfl (by simp [Value.oneCell']) ?_
  have hrow := HG4.out.setRow #[.int .i64 11, .int .i64 p, .string s, .slice none 0 0, .slice (some ⟨w3.heap.size, 0, none⟩) 1 1]
  have hS4 : S ((w3.alloc (.cells #[.int .i64 zk, .int .i64 zp, .string zs, .slice zA zw.length zc, .slice zB zz.length zd] 32)).setRow w.heap.size #[.int .i64 11, .int .i64 p, .string s, .slice none 0 0, .slice (some ⟨w3.heap.size, 0, none⟩) 1 1]) := by
    have h := HS.out
    rw [hSe] at h ⊢
    exact (setRow_other _ w.heap.size w1.heap.size _ (Nat.ne_of_gt HZ1.out)).trans h
  refine hK.out _ _ hS4 ?_
  clear hK K
  simp only [Act.put]
  refine wpOrd_done ?_
  go_wp2
  have hnv : NodeV ((w3.alloc (.cells #[.int .i64 zk, .int .i64 zp, .string zs, .slice zA zw.length zc, .slice zB zz.length zd] 32)).setRow w.heap.size #[.int .i64 11, .int .i64 p, .string s, .slice none 0 0, .slice (some ⟨w3.heap.size, 0, none⟩) 1 1]) w.heap.size (nd 11 p s [] [er1 (.mk zk zp zs zA zc zw zB zd zz)]) (.agg #[.int .i64 11, .int .i64 p, .string s, .slice none 0 0, .slice (some ⟨w3.heap.size, 0, none⟩) 1 1]) :=
    nodeV_one (Nat.le_of_lt HZZ.out) ((setRow_other _ w.heap.size w3.heap.size _ (Nat.ne_of_gt HZZ.out)).trans HRZ.out) (setRow_deep HDZ4.out _ fun k _ hk => ⟨by have h1 := HZ3.out; have h2 : w2.heap.size ≤ k := hk; omega, by have h1 := HZ3.out; have h2 : w2.heap.size ≤ k := hk; omega⟩)
  exact bodyPost_ret (ret_cell rfl _ _ w.heap.size _ _ (0, 0) _ rfl hrow Try.underlying32 rfl (node_info _ _ _ _ _)) rfl (HQ.out _ _ ⟨_, nd 11 p s [] [er1 (.mk zk zp zs zA zc zw zB zd zz)], i4, f4, rfl, hnv, setRow_rs HS5.out hbw _, setRow_mv HM4.out hbw (Nat.le_refl _) _, HSS.out⟩)
end Go.Proofs.Ytapnefhmonpgdaa
