/- Texts that all the claims need. Conditions: those that each states. -/

import Derived.Test.YtmobcncgfbfmcaaGreatDoorCa14
set_option linter.unusedSimpArgs false
set_option linter.unusedVariables false
set_option maxRecDepth 100000
set_option maxHeartbeats 40000000
namespace Go.Proofs.YtmobcncgfbfmcaaGreatDoor
section
open Go.RowKit LX TR TM DT CM
theorem QaX {ok : Nat → Prop} {D op : Nat} {p : Int} {s : Cs} (x : Cm) (A : Option Addr) (c : Nat) (l : List Tr) (i : Nat) (e : Int) (w : World) (hok : ∀ k, w.heap.size ≤ k → ok k) (hT : Trs w w.heap.size A l) (hF : Fw l) (hH : HoldD op p x s) (hD : DeepC w (fun k => k < w.heap.size ∧ ok k) x) :
 Calls Tryz.prog 26 #[.agg (cv x), .int .u8 119, .slice A l.length c, .int .i64 (i : Int), .int .i64 e] w fun e' w' => ∃ y n bad, e' = .returned (.tuple #[.agg (cv y), .int .i64 n, .int .i64 bad]) ∧ Gq ok D 119 op p s l i e y n bad w' ∧ Below w.heap.size w w' := by
 have hl := hF.1
 have hg0 := (RowAt.new w 31 (cv x)).alloc (.cells (cv c0) 31)
 have hr0 := RowAt.new (w.alloc (.cells (cv x) 31)) 31 (cv c0)
 rw [show (w.alloc (.cells (cv x) 31)).heap.size = w.heap.size + 1 by simp] at hr0
 have hb0 : Below w.heap.size w ((w.alloc (.cells (cv x) 31)).alloc (.cells (cv c0) 31)) := ((zB _ _).alloc (zL _) _).alloc (by simp) _
 have HG0 := zh hg0
 have HR0 := zh hr0
 have HB0 := zh hb0
 have HNM := zh (Q9E A c l (i : Int) e _ ((hT.below hb0).mono hb0.size) hF (by omega))
 have hrs : ∀ j : Nat, rest l (j : Int) = l.drop j := fun j => by unfold rest; rw [if_neg (by omega), Int.toNat_natCast]
 have HRS := zh hrs
 refine Q0e fun Q' hQ => ?_
 have HQ := zh hQ
 clear hg0 hr0 hb0 hT hQ hrs
 generalize hn : l.length = n at *
 have HN := zh hn; clear hn
 go_enter Tryz.func26, Tryz.ntmps26
 go_upto_region 1 with fail
 change Code.wp _ _ _ _ ((w.alloc (.cells (cv x) 31)).alloc (.cells (cv c0) 31))
 generalize (w.alloc (.cells (cv x) 31)).alloc (.cells (cv c0) 31) = W0 at *
 go_wp2_with fail
 refine HNM.out.mono ?_
 rintro e' w5 ⟨out, z, nx, f, rfl, hgn, hb5⟩
 have hz0 : w.heap.size + 1 < W0.heap.size := HR0.out.lt
 have hz5 : W0.heap.size ≤ w5.heap.size := hb5.size
 have HN0 := zh (RowAt.new w5 103 #[.int .i64 0, .int .i64 0, .string ⟨#[]⟩, .slice none 0 0, .slice none 0 0, .int .i64 0, .bool false, .int .i64 0])
 have hb6 : Below w5.heap.size w5 ((w5.alloc (.cells #[.int .i64 0, .int .i64 0, .string ⟨#[]⟩, .slice none 0 0, .slice none 0 0, .int .i64 0, .bool false, .int .i64 0] 103)).setRow w5.heap.size (gv z nx f)) := ((zB _ _).alloc (zL _) _).trans (below_setRow (zL _) _)
 have HV2 := zh (HN0.out.setRow (gv z nx f))
 have HG2 := zh ((HG0.out.below hb5 (by omega)).below hb6 (by omega))
 have HR2 := zh ((HR0.out.below hb5 (by omega)).below hb6 (by omega))
 have HB2 := zh ((HB0.out.trans (hb5.mono (by omega))).trans (hb6.mono (by omega)))
 have HGN : Hid (Gn W0.heap.size l (i : Int) e out f ((w5.alloc (.cells #[.int .i64 0, .int .i64 0, .string ⟨#[]⟩, .slice none 0 0, .slice none 0 0, .int .i64 0, .bool false, .int .i64 0] 103)).setRow w5.heap.size (gv z nx f))) := by
  rcases hgn with h | ⟨h1, ws, Y, dd, h2, h3, h4, h5⟩
  ·exact zh (.inl h)
  ·exact zh (.inr ⟨h1, ws, Y, dd, h2, h3, h4, h5.keep9 fun k hk _ => hb6.block k hk⟩)
 clear hb5 hb6 hgn HG0 HR0 HB0
 go_upto_region 11 with (first | (refine wpList_store_row rfl _ _ _ rfl w5.heap.size (gv z nx f) rfl rfl _ _ HN0.out (Q0I z nx f) rfl (by simp [gv, Value.oneCell']) ?_))
 clear HN0
 change Code.wp _ _ _ _ ((w5.alloc (.cells #[.int .i64 0, .int .i64 0, .string ⟨#[]⟩, .slice none 0 0, .slice none 0 0, .int .i64 0, .bool false, .int .i64 0] 103)).setRow w5.heap.size (gv z nx f))
 generalize (w5.alloc (.cells #[.int .i64 0, .int .i64 0, .string ⟨#[]⟩, .slice none 0 0, .slice none 0 0, .int .i64 0, .bool false, .int .i64 0] 103)).setRow w5.heap.size (gv z nx f) = W2 at *
 generalize w5.heap.size = g9 at *
 have d6 : W2.cell? ⟨g9, 6, none⟩ = some (.bool f.isSome) := (HV2.out.cell 6).trans rfl
 rcases HGN.out with ⟨q, rfl, her⟩ | ⟨rfl, ws, Z, dd, rfl, hdd, hok, hsl⟩
 ·have HPO : Hid (∀ W : World, Gq ok D 119 op p s l i e x (i : Int) q W) := zh fun W => by
   rw [HRS.out] at her
   unfold Gq Q0b
   rw [if_neg (by omega), if_neg (by omega), if_pos rfl, her]
   rfl
  simp only [Option.isSome_some] at d6
  clear her
  go_upto_region 12 with fail
  clear d6
  have C0 : ∀ W, (RowAt W w.heap.size 31 (cv x) ∧ RowAt W g9 103 (gv z nx (some q))) → W.cell? ⟨g9, 7, none⟩ = some (.int .i64 q) := fun W h => (h.2.cell 7).trans rfl
  refine Q0y (fun W => RowAt W w.heap.size 31 (cv x) ∧ RowAt W g9 103 (gv z nx (some q))) ((.take 0 (.take 1 (.take 2 (.take 3 (.solo 4 (.take 5 (.take 6 .nil)))))))) (by kernel_rfl) (by kernel_rfl) rfl (by kernel_rfl) ⟨HG2.out.drew, HV2.out.drew⟩ ?_
  iterate 4
   (refine Q07 (zO rfl) ?_)
   (first
    | (refine Q08 (by rfl) ?_)
    | (refine Q03 (by rfl) (Q0R _ _ rfl w.heap.size rfl _ (cv x) _ (fun W h => h.1) Tryz.underlying31 rfl (Q01 x)) ?_)
    | (refine Q03 (v := ?_) (by rfl) ?_ ?_; rotate_left 1; (intro wx hSx; have hc_0 := C0 wx hSx; go_simp; try with_reducible rfl)))
   (try simp only [Act.put, zA4, zA5, zA6])
  (refine Q02 (zO rfl) ?_)
  intro K hK
  rw [if_pos (by rfl)]
  refine wp_store_row _ _ _ rfl (w.heap.size + 1) (cv x) rfl rfl _ _ HR2.out.drew (Q01 x) rfl (by simp [cv, Value.oneCell']) ?_
  have HB3 : Hid (Below w.heap.size w (W2.drew.setRow (w.heap.size + 1) (cv x))) := zh (HB2.out.drew.trans (below_setRow (by omega) _))
  have HR3 : Hid (RowAt (W2.drew.setRow (w.heap.size + 1) (cv x)) (w.heap.size + 1) 31 (cv x)) := zh (HR2.out.drew.setRow (cv x))
  refine hK.out _ _ ⟨(setRow_other _ _ _ _ (by omega)).trans HG2.out.drew, (setRow_other _ _ _ _ (by omega)).trans HV2.out.drew⟩ ?_
  clear hK K
  (try simp only [Act.put, zA4, zA5, zA6])
  iterate 2
   (refine Q07 (zO rfl) ?_)
   (first
    | (refine Q08 (by rfl) ?_)
    | (refine Q03 (by rfl) (Q0R _ _ rfl w.heap.size rfl _ (cv x) _ (fun W h => h.1) Tryz.underlying31 rfl (Q01 x)) ?_)
    | (refine Q03 (v := ?_) (by rfl) ?_ ?_; rotate_left 1; (intro wx hSx; have hc_0 := C0 wx hSx; go_simp; try with_reducible rfl)))
   (try simp only [Act.put, zA4, zA5, zA6])
  refine Q0s ?_
  go_wp2
  exact bodyPost_ret (Q1F rfl _ _ _ _ (w.heap.size + 1) _ _ _ rfl rfl rfl HR3.out Tryz.underlying31 rfl (Q01 x)) rfl (HQ.out _ _ ⟨x, _, _, rfl, HPO.out _, HB3.out⟩)
 ·have hin : i < l.length := by
   rcases Nat.lt_or_ge i l.length with h | h
   ·exact h
   ·rw [HRS.out, List.drop_eq_nil_of_le h] at hok
    cases hok
  have hin2 : i < n := by have := HN.out; omega
  have HPO : Hid (∀ W : World, Below w.heap.size w W → SlC W ok Z (wcs ws) → Gq ok D 119 op p s l i e (Cm.mk x.op x.p x.n Z dd ws x.B x.d x.ps x.pp x.l x.r) ((i : Int) + 1) (-1) W) := zh fun W hW hs => by
   rw [HRS.out, show ((i : Int) + 1) = ((i + 1 : Nat) : Int) by omega, HRS.out] at hok
   unfold Gq Q0b
   rw [if_neg (by omega), if_neg (by omega), if_pos rfl, hok]
   refine ⟨rfl, ⟨i + 1, by omega, by omega, rfl⟩, ⟨hH.op_, hH.p_, hH.n_, rfl, hH.ps_, hH.pp_, hH.l_, hH.r_, hH.k_⟩, ?_⟩
   have h9 := (hD.keep9 (w' := W) fun k hk _ => hW.block k hk).weak (ok' := ok) fun k _ h => h.2
   exact ⟨hs, hdd, h9.ps, h9.pc, h9.l, h9.r⟩
  simp only [Option.isSome_none] at d6
  have d4 : W2.cell? ⟨w.heap.size, 4, none⟩ = some (.slice x.A x.ws.length x.c) := (HG2.out.cell 4).trans rfl
  have f4 := HG2.out.free 4
  have HSL := zh hsl
  clear hok hin hsl
  go_upto_region 14 with fail
  clear d6 d4 f4
  have hg7 := HG2.out.put 4 (.slice Z ws.length dd)
  have HG7 : Hid (RowAt (W2.setCell ⟨w.heap.size, 4, none⟩ (.slice Z ws.length dd)) w.heap.size 31 (cv (Cm.mk x.op x.p x.n Z dd ws x.B x.d x.ps x.pp x.l x.r))) := zh hg7
  have HR7 : Hid (RowAt (W2.setCell ⟨w.heap.size, 4, none⟩ (.slice Z ws.length dd)) (w.heap.size + 1) 31 (cv c0)) := zh (HR2.out.far (p := ⟨w.heap.size, 4, none⟩) (by show w.heap.size ≠ w.heap.size + 1; omega) _)
  have HB7 : Hid (Below w.heap.size w (W2.setCell ⟨w.heap.size, 4, none⟩ (.slice Z ws.length dd))) := zh (HB2.out.setCell (p := ⟨w.heap.size, 4, none⟩) (by show w.heap.size ≤ w.heap.size; omega) _)
  have HS7 : Hid (SlC (W2.setCell ⟨w.heap.size, 4, none⟩ (.slice Z ws.length dd)) (fun k => W0.heap.size ≤ k) Z (wcs ws)) := zh (HSL.out.setCell9 (fun k hk => by show k ≠ w.heap.size; omega) _)
  change Code.wp _ _ _ _ (W2.setCell ⟨w.heap.size, 4, none⟩ (.slice Z ws.length dd))
  clear hg7 HG2 HR2 HB2 HV2 HSL HGN
  generalize W2.setCell ⟨w.heap.size, 4, none⟩ (.slice Z ws.length dd) = W7 at *
  have HB8 : Hid (Below w.heap.size w (W7.setRow (w.heap.size + 1) (cv (Cm.mk x.op x.p x.n Z dd ws x.B x.d x.ps x.pp x.l x.r)))) := zh (HB7.out.trans (below_setRow (by omega) _))
  have HR8 : Hid (RowAt (W7.setRow (w.heap.size + 1) (cv (Cm.mk x.op x.p x.n Z dd ws x.B x.d x.ps x.pp x.l x.r))) (w.heap.size + 1) 31 (cv (Cm.mk x.op x.p x.n Z dd ws x.B x.d x.ps x.pp x.l x.r))) := zh (HR7.out.setRow (cv (Cm.mk x.op x.p x.n Z dd ws x.B x.d x.ps x.pp x.l x.r)))
  have HS8 := zh (HS7.out.keep9 (wb := W7.setRow (w.heap.size + 1) (cv (Cm.mk x.op x.p x.n Z dd ws x.B x.d x.ps x.pp x.l x.r))) fun k _ h => setRow_other _ _ k _ (by omega))
  go_wp2_with (first | (refine wpList_load_row rfl _ _ rfl w.heap.size rfl _ _ (0, 0) _ HG7.out Tryz.underlying31 rfl (Q01 _) ?_) | (refine wpList_store_row rfl _ _ _ rfl (w.heap.size + 1) (cv (Cm.mk x.op x.p x.n Z dd ws x.B x.d x.ps x.pp x.l x.r)) rfl rfl _ _ HR7.out (Q01 _) rfl (by simp [cv, Value.oneCell']) ?_))
  exact bodyPost_ret (Q1F rfl _ _ _ _ (w.heap.size + 1) _ _ _ rfl rfl rfl HR8.out Tryz.underlying31 rfl (Q01 _)) rfl (HQ.out _ _ ⟨(Cm.mk x.op x.p x.n Z dd ws x.B x.d x.ps x.pp x.l x.r), _, _, rfl, HPO.out _ HB8.out (HS8.out.weak fun k _ h => hok k (by omega)), HB8.out⟩)
end
section
open Go.RowKit LX TR TM DT CM
theorem QaY {ok : Nat → Prop} {D op : Nat} {p : Int} {s : Cs} (x : Cm) (A : Option Addr) (c : Nat) (l : List Tr) (i : Nat) (e : Int) (w : World) (hok : ∀ k, w.heap.size ≤ k → ok k) (hT : Trs w w.heap.size A l) (hF : Fw l) (hH : HoldD op p x s) (hD : DeepC w (fun k => k < w.heap.size ∧ ok k) x) :
 Calls Tryz.prog 26 #[.agg (cv x), .int .u8 112, .slice A l.length c, .int .i64 (i : Int), .int .i64 e] w fun e' w' => ∃ y n bad, e' = .returned (.tuple #[.agg (cv y), .int .i64 n, .int .i64 bad]) ∧ Gq ok D 112 op p s l i e y n bad w' ∧ Below w.heap.size w w' := by
 have hl := hF.1
 have hg0 := (RowAt.new w 31 (cv x)).alloc (.cells (cv c0) 31)
 have hr0 := RowAt.new (w.alloc (.cells (cv x) 31)) 31 (cv c0)
 rw [show (w.alloc (.cells (cv x) 31)).heap.size = w.heap.size + 1 by simp] at hr0
 have hb0 : Below w.heap.size w ((w.alloc (.cells (cv x) 31)).alloc (.cells (cv c0) 31)) := ((zB _ _).alloc (zL _) _).alloc (by simp) _
 have HG0 := zh hg0
 have HR0' := zh hr0
 have HB0 := zh hb0
 have HT := zh hT
 have HPL : Hid (∀ W, Below w.heap.size w W → Calls Tryz.prog 73 #[.slice A l.length c, .int .i64 (i : Int), .int .i64 e] W fun e' w' => e' = .returned (.int .i64 (Q00 (l.drop i) e)) ∧ w' = W) := zh fun W hW => Q4c A c l i e W ((HT.out.below hW).mono hW.size)
 refine Q0e fun Q' hQ => ?_
 have HQ := zh hQ
 clear hg0 hr0 hT hQ
 by_cases hk : kindOf (l.drop i) none = 123
 ·obtain ⟨hi, hd, hx0⟩ := Q2M hk (by omega)
  have hFk : (l.getD i r0).ks.length ≤ 1048576 := (hF.kid (Q1K hi)).1
  have HPR := zh (Q9T (l.getD i r0) _ (((HT.out.below hb0).mono hb0.size).kidAt hi) hFk)
  have hrl := Q9R (r := l.drop (i + 1)) (e := e) hx0
  rw [← hd] at hrl
  have HRL := zh hrl
  have HOF : Hid (Q00 (l.drop i) e = (l.getD i r0).t.p) := zh (by rw [hd]; rfl)
  obtain ⟨bb, o, rfl, hbb, hc⟩ := HT.out.at (k := i) hi
  obtain ⟨b0, b1, b2, b3, b4⟩ := hc i hi
  have B0 : ∀ W, Below w.heap.size w W → W.cell? ⟨bb, o + i * 5, none⟩ = _ := fun W hW => (hW.cell (p := ⟨bb, o + i * 5, none⟩) hbb).trans b0
  have B1 : ∀ W, Below w.heap.size w W → W.cell? ⟨bb, o + i * 5 + 1, none⟩ = _ := fun W hW => (hW.cell (p := ⟨bb, o + i * 5 + 1, none⟩) hbb).trans b1
  have B2 : ∀ W, Below w.heap.size w W → W.cell? ⟨bb, o + i * 5 + 2, none⟩ = _ := fun W hW => (hW.cell (p := ⟨bb, o + i * 5 + 2, none⟩) hbb).trans b2
  have B3 : ∀ W, Below w.heap.size w W → W.cell? ⟨bb, o + i * 5 + 3, none⟩ = _ := fun W hW => (hW.cell (p := ⟨bb, o + i * 5 + 3, none⟩) hbb).trans b3
  have B4 : ∀ W, Below w.heap.size w W → W.cell? ⟨bb, o + i * 5 + 4, none⟩ = _ := fun W hW => (hW.cell (p := ⟨bb, o + i * 5 + 4, none⟩) hbb).trans b4
  have a0 := B0 _ hb0
  have a1 := B1 _ hb0
  have a2 := B2 _ hb0
  have a3 := B3 _ hb0
  have a4 := B4 _ hb0
  have C2 := zh B2
  have hjn : (i : Int) < (l.length : Int) := by omega
  have e_ : decide (l.length ≤ i) = false := zF (by omega)
  have hq : (((l.getD i r0).t.k : Int) != 123) = false := by rw [hx0]; rfl
  have hli : i < l.length := hi
  clear hc b0 b1 b2 b3 b4 hd hx0 hk hb0 B0 B1 B2 B3 B4 HPL hrl hi hFk
  generalize l.getD i r0 = y at *
  obtain ⟨⟨yq, ys, yp⟩, YA, yc, ks, ye⟩ := y
  simp only [Tr.t, Tr.A, Tr.c, Tr.ks, Tr.e] at *
  unfold trv at HPR
  simp only [Tr.t, Tr.A, Tr.c, Tr.ks, Tr.e] at HPR
  generalize hkn : ks.length = kn at *
  clear hkn
  have HLI := zh hli; clear hli
  generalize hn : l.length = n at *
  have HN := zh hn; clear hn
  go_enter Tryz.func26, Tryz.ntmps26
  go_upto_region 1 with fail
  change Code.wp _ _ _ _ ((w.alloc (.cells (cv x) 31)).alloc (.cells (cv c0) 31))
  generalize (w.alloc (.cells (cv x) 31)).alloc (.cells (cv c0) 31) = W0 at *
  go_wp2_with fail
  refine HPR.out.mono ?_
  rintro e' w5 ⟨out, bad, rfl, hgp, hb5⟩
  have hz0 : w.heap.size + 1 < W0.heap.size := HR0'.out.lt
  obtain ⟨ps, X, d, rfl, hsl, hpo⟩ : ∃ ps X d, out = .slice X (ps : List Pw).length d ∧ SlC w5 (fun k => W0.heap.size < k) X (pwcs ps) ∧ ∀ W : World, Below w.heap.size w W → SlC W ok X (pwcs ps) → Gq ok D 112 op p s l i e (Cm.mk x.op x.p x.n x.A x.c x.ws X d ps yp x.l x.r) ((i : Int) + 1) bad W := by
   unfold Gp at hgp
   cases hE : prsD ks ye with
   | error q =>
     rw [hE] at hgp
     obtain ⟨rfl, rfl⟩ := hgp
     refine ⟨[], none, 0, rfl, SlC.nil _ _ _, fun W _ _ => ?_⟩
     unfold Gq Q0b
     rw [if_neg (by omega), if_neg (by omega), if_neg (by omega), if_pos rfl, HRL.out, hE]
     rfl
   | ok ps =>
     rw [hE] at hgp
     obtain ⟨rfl, X, d, rfl, hdd, hs⟩ := hgp
     refine ⟨ps, X, d, rfl, hs.weak fun k _ h => by omega, fun W hW hs2 => ?_⟩
     unfold Gq Q0b
     rw [if_neg (by omega), if_neg (by omega), if_neg (by omega), if_pos rfl, HRL.out, hE]
     refine ⟨rfl, ⟨i + 1, by omega, by have := HLI.out; have := HN.out; omega, rfl⟩, ⟨hH.op_, hH.p_, hH.n_, hH.ws_, rfl, HOF.out.symm, hH.l_, hH.r_, hH.k_⟩, ?_⟩
     have h9 := (hD.keep9 (w' := W) fun k hk _ => hW.block k hk).weak (ok' := ok) fun k _ h => h.2
     exact ⟨h9.ws, h9.wc, hs2, hdd, h9.l, h9.r⟩
  have HPO := zh hpo
  have HG5 := zh (HG0.out.below hb5 (by omega))
  have HR5 := zh (HR0'.out.below hb5 HR0'.out.lt)
  have HB5 := zh (HB0.out.trans (hb5.mono (by omega)))
  have HS5 := zh hsl
  clear hgp hb5 hsl hpo HG0 HR0' HB0 a0 a1 a2 a3 a4 HPR
  have d5 : w5.cell? ⟨w.heap.size, 5, none⟩ = some (.slice x.B x.ps.length x.d) := (HG5.out.cell 5).trans rfl
  have f5 := HG5.out.free 5
  go_upto_region 20 with fail
  clear d5 f5
  have hg6 := HG5.out.put 5 (.slice X ps.length d)
  have HG6 : Hid (RowAt (w5.setCell ⟨w.heap.size, 5, none⟩ (.slice X ps.length d)) w.heap.size 31 (cv (Cm.mk x.op x.p x.n x.A x.c x.ws X d ps x.pp x.l x.r))) := zh hg6
  have HR6 : Hid (RowAt (w5.setCell ⟨w.heap.size, 5, none⟩ (.slice X ps.length d)) (w.heap.size + 1) 31 (cv c0)) := zh (HR5.out.far (p := ⟨w.heap.size, 5, none⟩) (by show w.heap.size ≠ w.heap.size + 1; omega) _)
  have HB6 : Hid (Below w.heap.size w (w5.setCell ⟨w.heap.size, 5, none⟩ (.slice X ps.length d))) := zh (HB5.out.setCell (p := ⟨w.heap.size, 5, none⟩) (by show w.heap.size ≤ w.heap.size; omega) _)
  have HS6 : Hid (SlC (w5.setCell ⟨w.heap.size, 5, none⟩ (.slice X ps.length d)) (fun k => W0.heap.size < k) X (pwcs ps)) := zh (HS5.out.setCell9 (fun k hk => by show k ≠ w.heap.size; omega) _)
  change Code.wp _ _ _ _ (w5.setCell ⟨w.heap.size, 5, none⟩ (.slice X ps.length d))
  clear hg6 HG5 HR5 HB5 HS5
  generalize (w5.setCell ⟨w.heap.size, 5, none⟩ (.slice X ps.length d)) = W6 at *
  have a2 := C2.out _ HB6.out
  have d6 : W6.cell? ⟨w.heap.size, 6, none⟩ = some (.int .i64 x.pp) := (HG6.out.cell 6).trans rfl
  have f6 := HG6.out.free 6
  go_upto_region 21 with fail
  clear d6 f6 a2
  have hg7 := HG6.out.put 6 (.int .i64 yp)
  have HG7 : Hid (RowAt (W6.setCell ⟨w.heap.size, 6, none⟩ (.int .i64 yp)) w.heap.size 31 (cv (Cm.mk x.op x.p x.n x.A x.c x.ws X d ps yp x.l x.r))) := zh hg7
  have HR7 : Hid (RowAt (W6.setCell ⟨w.heap.size, 6, none⟩ (.int .i64 yp)) (w.heap.size + 1) 31 (cv c0)) := zh (HR6.out.far (p := ⟨w.heap.size, 6, none⟩) (by show w.heap.size ≠ w.heap.size + 1; omega) _)
  have HB7 : Hid (Below w.heap.size w (W6.setCell ⟨w.heap.size, 6, none⟩ (.int .i64 yp))) := zh (HB6.out.setCell (p := ⟨w.heap.size, 6, none⟩) (by show w.heap.size ≤ w.heap.size; omega) _)
  have HS7 : Hid (SlC (W6.setCell ⟨w.heap.size, 6, none⟩ (.int .i64 yp)) (fun k => W0.heap.size < k) X (pwcs ps)) := zh (HS6.out.setCell9 (fun k hk => by show k ≠ w.heap.size; omega) _)
  change Code.wp _ _ _ _ (W6.setCell ⟨w.heap.size, 6, none⟩ (.int .i64 yp))
  clear hg7 HG6 HR6 HB6 HS6
  generalize (W6.setCell ⟨w.heap.size, 6, none⟩ (.int .i64 yp)) = W7 at *
  have HB8 : Hid (Below w.heap.size w (W7.setRow (w.heap.size + 1) (cv (Cm.mk x.op x.p x.n x.A x.c x.ws X d ps yp x.l x.r)))) := zh (HB7.out.trans (below_setRow (by omega) _))
  have HR8 : Hid (RowAt (W7.setRow (w.heap.size + 1) (cv (Cm.mk x.op x.p x.n x.A x.c x.ws X d ps yp x.l x.r))) (w.heap.size + 1) 31 (cv (Cm.mk x.op x.p x.n x.A x.c x.ws X d ps yp x.l x.r))) := zh (HR7.out.setRow (cv (Cm.mk x.op x.p x.n x.A x.c x.ws X d ps yp x.l x.r)))
  have HS8 := zh (HS7.out.keep9 (wb := W7.setRow (w.heap.size + 1) (cv (Cm.mk x.op x.p x.n x.A x.c x.ws X d ps yp x.l x.r))) fun k _ h => setRow_other _ _ k _ (by omega))
  go_wp2_with (first | (refine wpList_load_row rfl _ _ rfl w.heap.size rfl _ _ (0, 0) _ HG7.out Tryz.underlying31 rfl (Q01 _) ?_) | (refine wpList_store_row rfl _ _ _ rfl (w.heap.size + 1) (cv (Cm.mk x.op x.p x.n x.A x.c x.ws X d ps yp x.l x.r)) rfl rfl _ _ HR7.out (Q01 _) rfl (by simp [cv, Value.oneCell']) ?_))
  exact bodyPost_ret (Q1F rfl _ _ _ _ (w.heap.size + 1) _ _ _ rfl rfl rfl HR8.out Tryz.underlying31 rfl (Q01 _)) rfl (HQ.out _ _ ⟨(Cm.mk x.op x.p x.n x.A x.c x.ws X d ps yp x.l x.r), _, _, rfl, HPO.out _ HB8.out (HS8.out.weak fun k _ h => hok k (by omega)), HB8.out⟩)
 ·have HG : Hid (∀ W : World, Gq ok D 112 op p s l i e x (i : Int) (Q00 (l.drop i) e) W) := zh fun W => by
   unfold Gq Q0b
   rw [if_neg (by omega), if_neg (by omega), if_neg (by omega), if_pos rfl, Q9S hk]
   rfl
  rcases Q41 (by omega) hk with h | ⟨h, h2⟩
  rotate_left 1
  obtain ⟨bb, o, rfl, hbb, hc⟩ := HT.out.at (k := i) h
  have a0 := (hb0.cell (p := ⟨bb, o + i * 5, none⟩) hbb).trans (hc i h).1
  have hjn : (i : Int) < (l.length : Int) := by omega
  have e_ : decide (l.length ≤ i) = false := zF (by omega)
  have hq : (((l.getD i r0).t.k : Int) != 123) = true := by rw [bne_iff_ne]; omega
  clear hc h2
  rotate_left 1
  have e_ : decide (l.length ≤ i) = true := zE (by omega)
  all_goals (
   clear hk h hb0
   try generalize (l.getD i r0).t.k = yq at *
   generalize Q00 (l.drop i) e = q at *
   generalize l.length = n at *
   go_enter Tryz.func26, Tryz.ntmps26
   go_upto_region 1 with fail
   change Code.wp _ _ _ _ ((w.alloc (.cells (cv x) 31)).alloc (.cells (cv c0) 31))
   generalize (w.alloc (.cells (cv x) 31)).alloc (.cells (cv c0) 31) = W0 at *
   go_upto_region 17 with fail
   have HSB := zh HB0.out.drew
   have HS0 : Hid (RowAt W0.drew w.heap.size 31 (cv x) ∧ Below w.heap.size w W0.drew) := zh ⟨HG0.out.drew, HSB.out⟩
   have HR0 : Hid (RowAt W0.drew (w.heap.size + 1) 31 (cv c0)) := zh HR0'.out.drew
   have HB1 : Hid (Below w.heap.size w (W0.drew.setRow (w.heap.size + 1) (cv x))) := zh (HSB.out.trans (below_setRow (by omega) _))
   have HS1 : Hid (RowAt (W0.drew.setRow (w.heap.size + 1) (cv x)) w.heap.size 31 (cv x) ∧ Below w.heap.size w (W0.drew.setRow (w.heap.size + 1) (cv x))) := zh ⟨(setRow_other _ _ _ _ (by omega)).trans HS0.out.1, HB1.out⟩
   have HR1 : Hid (RowAt (W0.drew.setRow (w.heap.size + 1) (cv x)) (w.heap.size + 1) 31 (cv x)) := zh (HR0.out.setRow (cv x))
   refine Q0y (fun W => RowAt W w.heap.size 31 (cv x) ∧ Below w.heap.size w W) ((.take 0 (.take 1 (.take 2 (.take 3 (.take 4 (.solo 5 (.solo 6 (.take 7 (.take 8 .nil)))))))))) (by kernel_rfl) (by kernel_rfl) rfl (by kernel_rfl) HS0.out ?_
   iterate 5
        (refine Q07 (zO rfl) ?_)
        (first
          | (refine Q08 (by rfl) ?_)
          | (refine Q03 (by rfl) (Q0R _ _ rfl w.heap.size rfl _ (cv x) _ (fun W h => h.1) Tryz.underlying31 rfl (Q01 x)) ?_)
          | (refine Q03 (v := ?_) (by rfl) ?_ ?_; rotate_left 1; (intro wx hSx; go_simp; try with_reducible rfl)))
        (try simp only [Act.put, zA4, zA5, zA6])
   (refine Q02 (zO rfl) ?_)
   intro K hK
   go_simp
   refine (HPL.out W0.drew HSB.out).mono ?_
   rintro e' w' ⟨rfl, hww⟩
   have hww := hww.symm
   subst hww
   refine hK.out _ _ HS0.out ?_
   clear hK K
   (try simp only [Act.put, zA4, zA5, zA6])
   (refine Q02 (zO rfl) ?_)
   intro K hK
   rw [if_pos (by rfl)]
   refine wp_store_row _ _ _ rfl (w.heap.size + 1) (cv x) rfl rfl _ _ HR0.out (Q01 x) rfl (by simp [cv, Value.oneCell']) ?_
   refine hK.out _ _ HS1.out ?_
   clear hK K
   (try simp only [Act.put, zA4, zA5, zA6])
   iterate 2
        (refine Q07 (zO rfl) ?_)
        (first
          | (refine Q08 (by rfl) ?_)
          | (refine Q03 (by rfl) (Q0R _ _ rfl w.heap.size rfl _ (cv x) _ (fun W h => h.1) Tryz.underlying31 rfl (Q01 x)) ?_)
          | (refine Q03 (v := ?_) (by rfl) ?_ ?_; rotate_left 1; (intro wx hSx; go_simp; try with_reducible rfl)))
        (try simp only [Act.put, zA4, zA5, zA6])
   refine Q0s ?_
   go_wp2
   exact bodyPost_ret (Q1F rfl _ _ _ _ (w.heap.size + 1) _ _ _ rfl rfl rfl HR1.out Tryz.underlying31 rfl (Q01 x)) rfl (HQ.out _ _ ⟨x, _, _, rfl, HG.out _, HB1.out⟩))
end
section
open LX TR TM CM
namespace FP
theorem Q3u {α : Type} {x : Res α} {f : α → Nd} {z : Nd} {r : List Tr} (hf : ∀ a, (f a).k ≠ 0) (h : bnd x (fun a r => .ok (f a, r)) = .ok (z, r)) : z.k ≠ 0 := by
 cases x with
 | error p => cases h
 | ok yr =>
   obtain ⟨y, q⟩ := yr
   simp only [bnd, Except.ok.injEq, Prod.mk.injEq] at h
   rw [← h.1]; exact hf y
theorem Q71 {ts : List Tr} {e : Int} {z : Nd} {r : List Tr} (h : varR ts e = .ok (z, r)) : z.k ≠ 0 := Q3u (f := fun w : Wd => nd 1 w.p w.s [] []) (fun a => by simp [nd, Nd.k]) h
theorem QaZ {d : Nat} {ts : List Tr} {e : Int} {z : Nd} {r : List Tr} (h : Q0n d ts e = .ok (z, r)) : z.k ≠ 0 := by
 cases ts with
 | nil => cases h
 | cons x s =>
   simp only [Q0n] at h
   split at h
   ·exact Q3u (f := fun n => nd 7 x.t.p e0 [] [n]) (fun a => by simp [nd, Nd.k]) h
   ·exact Q71 h
theorem Qb0 {d : Nat} {ts : List Tr} {e : Int} {z : Nd} {r : List Tr} (h : Q09 d ts e = .ok (z, r)) : z.k ≠ 0 := by
 cases d with
 | zero => cases h
 | succ d =>
   cases ts with
   | nil => cases h
   | cons x s =>
     simp only [Q09] at h
     split at h
     ·exact Q3u (f := fun ks => nd 8 x.t.p e0 [] ks) (fun a => by simp [nd, Nd.k]) h
     ·split at h
      ·exact Q3u (f := fun ks => nd 9 x.t.p e0 [] ks) (fun a => by simp [nd, Nd.k]) h
      ·exact QaZ h
theorem Qb1 {d : Nat} {ts : List Tr} {e : Int} {z : Nd} {r : List Tr} (h : rowR d ts e = .ok (z, r)) : z.k ≠ 0 := by
 cases ts with
 | nil => cases h
 | cons x s =>
   simp only [rowR] at h
   split at h
   ·exact Q3u (f := fun kw : List Nd × List Wd => nd 10 x.t.p e0 kw.2 kw.1) (fun a => by simp [nd, Nd.k]) h
   ·exact Q71 h
end FP
end
section
open Go.RowKit LX TR TM DT CM
theorem Q72 {ok : Nat → Prop} {d op k : Nat} (hk : k = 116 ∨ k = 114) {p : Int} {s : Cs} (x : Cm) (A : Option Addr) (c : Nat) (l : List Tr) (i : Nat) (e : Int) (w : World) (hok : ∀ k, w.heap.size ≤ k → ok k) (hT : Trs w w.heap.size A l) (hF : Fw l) (hi : i ≤ l.length) (hN : (nodes (l.drop i)).length ≤ d) (hts : s.ts.length ≤ 1) (hH : HoldD op p x s) (hD : DeepC w (fun k => k < w.heap.size ∧ ok k) x) :
 Calls Tryz.prog 26 #[.agg (cv x), .int .u8 (k : Int), .slice A l.length c, .int .i64 (i : Int), .int .i64 e] w fun e' w' => ∃ y n bad, e' = .returned (.tuple #[.agg (cv y), .int .i64 n, .int .i64 bad]) ∧ Gq ok (d + 1) k op p s l i e y n bad w' ∧ Below w.heap.size w w' := by
 have hl := hF.1
 have hg0 := (RowAt.new w 31 (cv x)).alloc (.cells (cv c0) 31)
 have hr0 := RowAt.new (w.alloc (.cells (cv x) 31)) 31 (cv c0)
 rw [show (w.alloc (.cells (cv x) 31)).heap.size = w.heap.size + 1 by simp] at hr0
 have hb0 : Below w.heap.size w ((w.alloc (.cells (cv x) 31)).alloc (.cells (cv c0) 31)) := ((zB _ _).alloc (zL _) _).alloc (by simp) _
 have HG0 := zh hg0
 have HR0 := zh hr0
 have HB0 := zh hb0
 have hrs : ∀ j : Nat, rest l (j : Int) = l.drop j := fun j => by unfold rest; rw [if_neg (by omega), Int.toNat_natCast]
 have HRS := zh hrs
 have hN' : (nodes (rest l (i : Int))).length ≤ d := by rw [hrs]; exact hN
 have HLB := zh (Q43 d A c l (i : Int) e _ ((hT.below hb0).mono hb0.size) hF (by omega) (by omega) hN')
 have HRW : Hid (∀ W, Below w.heap.size w W → Calls Tryz.prog 77 #[.slice A l.length c, .int .i64 (i : Int), .int .i64 e] W fun e' w' => ∃ z n f, e' = .returned (.agg (gv z n f)) ∧ Gt W.heap.size (rowR (d + 1)) l i e z n f w' ∧ Below W.heap.size W w') := zh fun W hW => Qan d A c l (i : Int) e W ((hT.below hW).mono hW.size) hF (by omega) (by omega) hN'
 obtain ⟨rd, hrd, hrk, hrf⟩ : ∃ rd : Rdr Nd, (∀ ts e, Q0b (d + 1) k s ts e = bnd (rd ts e) fun z r => .ok (⟨s.n, s.ws, s.ps, s.pp, s.ts ++ [z]⟩, r)) ∧ (∀ ts e z r, rd ts e = .ok (z, r) → z.k ≠ 0) ∧ (rd = if k = 114 then rowR (d + 1) else Q09 (d + 1)) := by
  rcases hk with rfl | rfl
  ·exact ⟨Q09 (d + 1), fun ts e => by unfold Q0b; rw [if_neg (by omega), if_neg (by omega), if_neg (by omega), if_neg (by omega), if_neg (by omega)], fun ts e z r h => FP.Qb0 h, by rw [if_neg (by omega)]⟩
  ·exact ⟨rowR (d + 1), fun ts e => by unfold Q0b; rw [if_neg (by omega), if_neg (by omega), if_neg (by omega), if_neg (by omega), if_pos rfl], fun ts e z r h => FP.Qb1 h, by rw [if_pos rfl]⟩
 have HRD := zh hrd
 have HRK := zh hrk
 have HRF := zh hrf
 refine Q0e fun Q' hQ => ?_
 have HQ := zh hQ
 clear hg0 hr0 hb0 hT hQ hrs hN' hN hrd hrk hrf
 generalize hn : l.length = n at *
 have HN := zh hn; clear hn
 rcases hk with rfl | rfl
 all_goals (
  go_enter Tryz.func26, Tryz.ntmps26
  go_upto_region 1 with fail
  change Code.wp _ _ _ _ ((w.alloc (.cells (cv x) 31)).alloc (.cells (cv c0) 31))
  generalize (w.alloc (.cells (cv x) 31)).alloc (.cells (cv c0) 31) = W0 at *
  go_wp2_with fail
  refine HLB.out.mono ?_
  rintro e' w5 ⟨z, nx, f, rfl, hgt, hb5⟩
  have hz0 : w.heap.size + 1 < W0.heap.size := HR0.out.lt
  have hz5 : W0.heap.size ≤ w5.heap.size := hb5.size
  have HN0 := zh (RowAt.new w5 103 #[.int .i64 0, .int .i64 0, .string ⟨#[]⟩, .slice none 0 0, .slice none 0 0, .int .i64 0, .bool false, .int .i64 0])
  have hb6 : Below w5.heap.size w5 ((w5.alloc (.cells #[.int .i64 0, .int .i64 0, .string ⟨#[]⟩, .slice none 0 0, .slice none 0 0, .int .i64 0, .bool false, .int .i64 0] 103)).setRow w5.heap.size (gv z nx f)) := ((zB _ _).alloc (zL _) _).trans (below_setRow (zL _) _)
  have HV1 := zh (HN0.out.setRow (gv z nx f))
  have HG1 := zh ((HG0.out.below hb5 (by omega)).below hb6 (by omega))
  have HR1 := zh ((HR0.out.below hb5 (by omega)).below hb6 (by omega))
  have HB1 := zh ((HB0.out.trans (hb5.mono (by omega))).trans (hb6.mono (by omega)))
  have HD1 : Hid (∀ ok, DeepN w5 ok [z] → DeepN ((w5.alloc (.cells #[.int .i64 0, .int .i64 0, .string ⟨#[]⟩, .slice none 0 0, .slice none 0 0, .int .i64 0, .bool false, .int .i64 0] 103)).setRow w5.heap.size (gv z nx f)) ok [z]) := zh fun ok h => h.keep9 fun k hk _ => hb6.block k hk
  clear hb5 hb6 HG0 HR0 HB0 HLB)
 focus
  have hgt' : Gt W0.heap.size rd l (i : Int) e z nx f ((w5.alloc (.cells #[.int .i64 0, .int .i64 0, .string ⟨#[]⟩, .slice none 0 0, .slice none 0 0, .int .i64 0, .bool false, .int .i64 0] 103)).setRow w5.heap.size (gv z nx f)) := by
   rw [HRF.out, if_neg (by omega)]
   rcases hgt with h | ⟨h1, h2, h3⟩
   ·exact .inl h
   ·exact .inr ⟨h1, h2, HD1.out _ h3⟩
  have HGT := zh hgt'
  clear hgt hgt' HD1
  go_upto_region 23 with (first | (refine wpList_store_row rfl _ _ _ rfl w5.heap.size (gv z nx f) rfl rfl _ _ HN0.out (Q0I z nx f) rfl (by simp [gv, Value.oneCell']) ?_))
  change Code.wp _ _ _ _ ((w5.alloc (.cells #[.int .i64 0, .int .i64 0, .string ⟨#[]⟩, .slice none 0 0, .slice none 0 0, .int .i64 0, .bool false, .int .i64 0] 103)).setRow w5.heap.size (gv z nx f))
  generalize w5.alloc (.cells #[.int .i64 0, .int .i64 0, .string ⟨#[]⟩, .slice none 0 0, .slice none 0 0, .int .i64 0, .bool false, .int .i64 0] 103) = w6 at *
  generalize w5.heap.size = g9 at *
  have HV6 := HN0
  have HV2 := HV1; have HG2 := HG1; have HR2 := HR1; have HB2 := HB1
  clear HV1 HG1 HR1 HB1 HN0
 rotate_left 1
 focus
  clear hgt HD1
  go_upto_region 24 with (first | (refine wpList_store_row rfl _ _ _ rfl w5.heap.size (gv z nx f) rfl rfl _ _ HN0.out (Q0I z nx f) rfl (by simp [gv, Value.oneCell']) ?_))
  clear HN0
  have h91 := HV1.out.lt
  generalize (w5.alloc (.cells #[.int .i64 0, .int .i64 0, .string ⟨#[]⟩, .slice none 0 0, .slice none 0 0, .int .i64 0, .bool false, .int .i64 0] 103)).setRow w5.heap.size (gv z nx f) = W1 at *
  generalize w5.heap.size = g9 at *
  go_wp2_with fail
  refine (HRW.out W1 HB1.out).mono ?_
  rintro e' w6 ⟨z, nx, f, rfl, hgt, hb6⟩
  have HV6 := zh (HV1.out.below hb6 h91)
  have HV2 := zh (HV6.out.setRow (gv z nx f))
  have HG2 : Hid (RowAt (w6.setRow g9 (gv z nx f)) w.heap.size 31 (cv x)) := zh ((setRow_other _ _ _ _ (by omega)).trans (HG1.out.below hb6 (by omega)))
  have HR2 : Hid (RowAt (w6.setRow g9 (gv z nx f)) (w.heap.size + 1) 31 (cv c0)) := zh ((setRow_other _ _ _ _ (by omega)).trans (HR1.out.below hb6 (by omega)))
  have HB2 : Hid (Below w.heap.size w (w6.setRow g9 (gv z nx f))) := zh ((HB1.out.trans (hb6.mono (by omega))).trans (below_setRow (by omega) _))
  have hgt' : Gt W0.heap.size rd l (i : Int) e z nx f (w6.setRow g9 (gv z nx f)) := by
   rw [HRF.out, if_pos trivial]
   rcases hgt with h | ⟨h1, h2, h3⟩
   ·exact .inl h
   ·exact .inr ⟨h1, h2, (h3.keep9 (wb := w6.setRow g9 (gv z nx f)) fun k _ h => setRow_other _ _ k _ (by omega)).weak fun k _ h => by omega⟩
  have HGT := zh hgt'
  clear hgt hgt' HRF hb6
  clear HV1 HG1 HR1 HB1 HRW
 rotate_left 1
 all_goals (
  have d6 : (w6.setRow g9 (gv z nx f)).cell? ⟨g9, 6, none⟩ = some (.bool f.isSome) := (HV2.out.cell 6).trans rfl
  rcases HGT.out with ⟨q, rfl, her⟩ | ⟨rfl, hst, hdz⟩
  ·have HPO : Hid (∀ W : World, Gq ok (d + 1) _ op p s l i e x (i : Int) q W) := zh fun W => by
        rw [HRS.out] at her
        unfold Gq
        rw [HRD.out, her]
        rfl
   simp only [Option.isSome_some] at d6
   clear her
   go_upto_region 26 with (first | (refine wpList_store_row rfl _ _ _ rfl g9 (gv z nx (some q)) rfl rfl _ _ HV6.out (Q0I z nx (some q)) rfl (by simp [gv, Value.oneCell']) ?_))
   clear d6
   change Code.wp _ _ _ _ (w6.setRow g9 (gv z nx (some q)))
   generalize w6.setRow g9 (gv z nx (some q)) = W2 at *
   have C0 : ∀ W, (RowAt W w.heap.size 31 (cv x) ∧ RowAt W g9 103 (gv z nx (some q))) → W.cell? ⟨g9, 7, none⟩ = some (.int .i64 q) := fun W h => (h.2.cell 7).trans rfl
   refine Q0y (fun W => RowAt W w.heap.size 31 (cv x) ∧ RowAt W g9 103 (gv z nx (some q))) ((.take 0 (.take 1 (.take 2 (.take 3 (.solo 4 (.take 5 (.take 6 .nil)))))))) (by kernel_rfl) (by kernel_rfl) rfl (by kernel_rfl) ⟨HG2.out.drew, HV2.out.drew⟩ ?_
   iterate 4
        (refine Q07 (zO rfl) ?_)
        (first
           | (refine Q08 (by rfl) ?_)
           | (refine Q03 (by rfl) (Q0R _ _ rfl w.heap.size rfl _ (cv x) _ (fun W h => h.1) Tryz.underlying31 rfl (Q01 _)) ?_)
           | (refine Q03 (v := ?_) (by rfl) ?_ ?_; rotate_left 1; (intro wx hSx; have hc_0 := C0 wx hSx; go_simp; try with_reducible rfl)))
        (try simp only [Act.put, zA4, zA5, zA6])
   (refine Q02 (zO rfl) ?_)
   intro K hK
   rw [if_pos (by rfl)]
   refine wp_store_row _ _ _ rfl (w.heap.size + 1) (cv x) rfl rfl _ _ HR2.out.drew (Q01 _) rfl (by simp [cv, Value.oneCell']) ?_
   have HB9 : Hid (Below w.heap.size w (W2.drew.setRow (w.heap.size + 1) (cv x))) := zh (HB2.out.drew.trans (below_setRow (by omega) _))
   have HR9 : Hid (RowAt (W2.drew.setRow (w.heap.size + 1) (cv x)) (w.heap.size + 1) 31 (cv x)) := zh (HR2.out.drew.setRow (cv x))
   refine hK.out _ _ ⟨(setRow_other _ _ _ _ (by omega)).trans HG2.out.drew, (setRow_other _ _ _ _ (by omega)).trans HV2.out.drew⟩ ?_
   clear hK K
   (try simp only [Act.put, zA4, zA5, zA6])
   iterate 2
        (refine Q07 (zO rfl) ?_)
        (first
           | (refine Q08 (by rfl) ?_)
           | (refine Q03 (by rfl) (Q0R _ _ rfl w.heap.size rfl _ (cv x) _ (fun W h => h.1) Tryz.underlying31 rfl (Q01 _)) ?_)
           | (refine Q03 (v := ?_) (by rfl) ?_ ?_; rotate_left 1; (intro wx hSx; have hc_0 := C0 wx hSx; go_simp; try with_reducible rfl)))
        (try simp only [Act.put, zA4, zA5, zA6])
   refine Q0s ?_
   go_wp2
   exact bodyPost_ret (Q1F rfl _ _ _ _ (w.heap.size + 1) _ _ _ rfl rfl rfl HR9.out Tryz.underlying31 rfl (Q01 _)) rfl (HQ.out _ _ ⟨x, _, _, rfl, HPO.out _, HB9.out⟩)
  ·obtain ⟨m, hnx, hm, hdr⟩ := hst.1.drop
   rcases hst.cases with ⟨_, h, _⟩ | ⟨_, _, hok⟩
   ·cases h
   rw [hdr, HRS.out, List.drop_drop] at hok
   rw [HRS.out, List.length_drop, HN.out] at hm
   have hzk := HRK.out _ _ _ _ hok
   have HDZ := zh hdz
   have h9c : ∀ W : World, Below w.heap.size w W → DeepC W ok x := fun W hW => (hD.keep9 (w' := W) fun k hk _ => hW.block k hk).weak fun k _ h => h.2
   have H9C := zh h9c
   have d7 : (w6.setRow g9 (gv z nx none)).cell? ⟨w.heap.size, 7, none⟩ = some (.int .i64 x.l.k) := (HG2.out.cell 7).trans rfl
   simp only [Option.isSome_none] at d6
   rcases hsT : s.ts with _ | ⟨z0, zt⟩
   ·have ek : (x.l.k == 0) = true := by
     have h1 := congrArg Nd.k hH.l_
     rw [hsT] at h1
     rw [beq_iff_eq]
     exact h1
    have HPO : Hid (∀ W : World, Below w.heap.size w W → DeepN W ok [z] → Gq ok (d + 1) _ op p s l i e (Cm.mk x.op x.p x.n x.A x.c x.ws x.B x.d x.ps x.pp z x.r) nx (-1) W) := zh fun W hW hz => by
     unfold Gq
     rw [HRD.out, hok]
     have h9 := H9C.out W hW
     have hr1 := hH.r_
     rw [hsT] at hr1
     refine ⟨rfl, ⟨i + m, by rw [hnx]; omega, by rw [HN.out]; omega, rfl⟩, ⟨hH.op_, hH.p_, hH.n_, hH.ws_, hH.ps_, hH.pp_, by rw [hsT]; rfl, by rw [hsT]; exact hr1, fun y hy => ?_⟩, ⟨h9.ws, h9.wc, h9.ps, h9.pc, hz, h9.r⟩⟩
     rw [hsT] at hy
     rcases List.mem_append.1 hy with h | h
     ·cases h
     ·rw [List.mem_singleton.1 h]; exact hzk
    clear hok hst hdr hm h9c hdz hnx
    go_upto_region 28 with (first | (refine wpList_store_row rfl _ _ _ rfl g9 (gv z nx none) rfl rfl _ _ HV6.out (Q0I z nx none) rfl (by simp [gv, Value.oneCell']) ?_))
    clear d6 d7 ek
    change Code.wp _ _ _ _ (w6.setRow g9 (gv z nx none))
    generalize w6.setRow g9 (gv z nx none) = W2 at *
    have hg3 := RowAt.putsD HG2.out (nv z).toList 7
    have HG3 : Hid (RowAt (W2.setCells w.heap.size 7 (nv z).toList) w.heap.size 31 (cv (Cm.mk x.op x.p x.n x.A x.c x.ws x.B x.d x.ps x.pp z x.r))) := zh hg3
    have HR3 : Hid (RowAt (W2.setCells w.heap.size 7 (nv z).toList) (w.heap.size + 1) 31 (cv c0)) := zh ((Q0j _ _ _ _ _ (by omega)).trans HR2.out)
    have HV3 : Hid (RowAt (W2.setCells w.heap.size 7 (nv z).toList) g9 103 (gv z nx none)) := zh ((Q0j _ _ _ _ _ (by omega)).trans HV2.out)
    have HB3 : Hid (Below w.heap.size w (W2.setCells w.heap.size 7 (nv z).toList)) := zh (HB2.out.trans (Q1i (zL _) 7 _))
    have HD3 := zh (HDZ.out.keep9 (wb := (W2.setCells w.heap.size 7 (nv z).toList)) fun k _ h => Q0j _ _ _ _ k (by omega))
    clear hg3
    go_upto_region 30 with (first | (refine wpList_load_mid rfl _ _ rfl g9 0 rfl (Q0g z) _ (RowAt.range HV2.out 0 (Q0g z) (by intro j u hu; match j, hu with | 0, hu => exact hu | 1, hu => exact hu | 2, hu => exact hu | 3, hu => exact hu | 4, hu => exact hu)) Tryz.underlying29 rfl (by rw [show (Q0g z).length = 5 from rfl]; kernel_rfl) ?_) | (refine wpList_store_mid rfl _ _ _ rfl w.heap.size 7 (nv z) rfl rfl (RowAt.thereD HG2.out (by show 7 + 5 ≤ 17; omega)) (Q0h _ _ _ _ _) (by simp [nv, Value.oneCell']) ?_))
    change Code.wp _ _ _ _ (W2.setCells w.heap.size 7 (nv z).toList)
    clear HG2 HR2 HV2 HB2 HDZ
    generalize (W2.setCells w.heap.size 7 (nv z).toList) = W3 at *
    have C0 : ∀ W, (RowAt W w.heap.size 31 (cv (Cm.mk x.op x.p x.n x.A x.c x.ws x.B x.d x.ps x.pp z x.r)) ∧ RowAt W g9 103 (gv z nx none)) → W.cell? ⟨g9, 5, none⟩ = some (.int .i64 nx) := fun W h => (h.2.cell 5).trans rfl
    refine Q0y (fun W => RowAt W w.heap.size 31 (cv (Cm.mk x.op x.p x.n x.A x.c x.ws x.B x.d x.ps x.pp z x.r)) ∧ RowAt W g9 103 (gv z nx none)) ((.take 0 (.take 1 (.take 2 (.solo 3 (.take 4 (.take 5 .nil))))))) (by kernel_rfl) (by kernel_rfl) rfl (by kernel_rfl) ⟨HG3.out.drew, HV3.out.drew⟩ ?_
    iterate 3
     (refine Q07 (zO rfl) ?_)
     (first
           | (refine Q08 (by rfl) ?_)
           | (refine Q03 (by rfl) (Q0R _ _ rfl w.heap.size rfl _ (cv (Cm.mk x.op x.p x.n x.A x.c x.ws x.B x.d x.ps x.pp z x.r)) _ (fun W h => h.1) Tryz.underlying31 rfl (Q01 _)) ?_)
           | (refine Q03 (v := ?_) (by rfl) ?_ ?_; rotate_left 1; (intro wx hSx; have hc_0 := C0 wx hSx; go_simp; try with_reducible rfl)))
     (try simp only [Act.put, zA4, zA5, zA6])
    (refine Q02 (zO rfl) ?_)
    intro K hK
    rw [if_pos (by rfl)]
    refine wp_store_row _ _ _ rfl (w.heap.size + 1) (cv (Cm.mk x.op x.p x.n x.A x.c x.ws x.B x.d x.ps x.pp z x.r)) rfl rfl _ _ HR3.out.drew (Q01 _) rfl (by simp [cv, Value.oneCell']) ?_
    have HB9 : Hid (Below w.heap.size w (W3.drew.setRow (w.heap.size + 1) (cv (Cm.mk x.op x.p x.n x.A x.c x.ws x.B x.d x.ps x.pp z x.r)))) := zh (HB3.out.drew.trans (below_setRow (by omega) _))
    have HR9 : Hid (RowAt (W3.drew.setRow (w.heap.size + 1) (cv (Cm.mk x.op x.p x.n x.A x.c x.ws x.B x.d x.ps x.pp z x.r))) (w.heap.size + 1) 31 (cv (Cm.mk x.op x.p x.n x.A x.c x.ws x.B x.d x.ps x.pp z x.r))) := zh (HR3.out.drew.setRow (cv (Cm.mk x.op x.p x.n x.A x.c x.ws x.B x.d x.ps x.pp z x.r)))
    have HD9 := zh (HD3.out.keep9 (wb := W3.drew.setRow (w.heap.size + 1) (cv (Cm.mk x.op x.p x.n x.A x.c x.ws x.B x.d x.ps x.pp z x.r))) fun k _ h => setRow_other _ _ k _ (by omega))
    refine hK.out _ _ ⟨(setRow_other _ _ _ _ (by omega)).trans HG3.out.drew, (setRow_other _ _ _ _ (by omega)).trans HV3.out.drew⟩ ?_
    clear hK K
    (try simp only [Act.put, zA4, zA5, zA6])
    iterate 2
     (refine Q07 (zO rfl) ?_)
     (first
           | (refine Q08 (by rfl) ?_)
           | (refine Q03 (by rfl) (Q0R _ _ rfl w.heap.size rfl _ (cv (Cm.mk x.op x.p x.n x.A x.c x.ws x.B x.d x.ps x.pp z x.r)) _ (fun W h => h.1) Tryz.underlying31 rfl (Q01 _)) ?_)
           | (refine Q03 (v := ?_) (by rfl) ?_ ?_; rotate_left 1; (intro wx hSx; have hc_0 := C0 wx hSx; go_simp; try with_reducible rfl)))
     (try simp only [Act.put, zA4, zA5, zA6])
    refine Q0s ?_
    go_wp2
    exact bodyPost_ret (Q1F rfl _ _ _ _ (w.heap.size + 1) _ _ _ rfl rfl rfl HR9.out Tryz.underlying31 rfl (Q01 _)) rfl (HQ.out _ _ ⟨(Cm.mk x.op x.p x.n x.A x.c x.ws x.B x.d x.ps x.pp z x.r), _, _, rfl, HPO.out _ HB9.out (HD9.out.weak fun k _ h => hok k (by omega)), HB9.out⟩)
   ·obtain rfl : zt = [] := List.eq_nil_of_length_eq_zero (by rw [hsT] at hts; simp only [zA8] at hts; omega)
    have ek : (x.l.k == 0) = false := by
     have h1 := congrArg Nd.k hH.l_
     rw [hsT] at h1
     have h2 := hH.k_ z0 (by rw [hsT]; exact List.mem_singleton.2 rfl)
     rw [beq_eq_false_iff_ne]
     intro h3
     have h4 : x.l.k = z0.k := h1
     exact h2 (by rw [← h4]; exact h3)
    have HPO : Hid (∀ W : World, Below w.heap.size w W → DeepN W ok [z] → Gq ok (d + 1) _ op p s l i e (Cm.mk x.op x.p x.n x.A x.c x.ws x.B x.d x.ps x.pp x.l z) nx (-1) W) := zh fun W hW hz => by
     unfold Gq
     rw [HRD.out, hok]
     have h9 := H9C.out W hW
     have hl1 := hH.l_
     have hk1 := hH.k_
     rw [hsT] at hl1 hk1
     refine ⟨rfl, ⟨i + m, by rw [hnx]; omega, by rw [HN.out]; omega, rfl⟩, ⟨hH.op_, hH.p_, hH.n_, hH.ws_, hH.ps_, hH.pp_, by rw [hsT]; exact hl1, by rw [hsT]; rfl, fun y hy => ?_⟩, ⟨h9.ws, h9.wc, h9.ps, h9.pc, h9.l, hz⟩⟩
     rw [hsT] at hy
     rcases List.mem_append.1 hy with h | h
     ·exact hk1 y h
     ·rw [List.mem_singleton.1 h]; exact hzk
    clear hok hst hdr hm h9c hdz hnx
    go_upto_region 29 with (first | (refine wpList_store_row rfl _ _ _ rfl g9 (gv z nx none) rfl rfl _ _ HV6.out (Q0I z nx none) rfl (by simp [gv, Value.oneCell']) ?_))
    clear d6 d7 ek
    change Code.wp _ _ _ _ (w6.setRow g9 (gv z nx none))
    generalize w6.setRow g9 (gv z nx none) = W2 at *
    have hg3 := RowAt.putsD HG2.out (nv z).toList 12
    have HG3 : Hid (RowAt (W2.setCells w.heap.size 12 (nv z).toList) w.heap.size 31 (cv (Cm.mk x.op x.p x.n x.A x.c x.ws x.B x.d x.ps x.pp x.l z))) := zh hg3
    have HR3 : Hid (RowAt (W2.setCells w.heap.size 12 (nv z).toList) (w.heap.size + 1) 31 (cv c0)) := zh ((Q0j _ _ _ _ _ (by omega)).trans HR2.out)
    have HV3 : Hid (RowAt (W2.setCells w.heap.size 12 (nv z).toList) g9 103 (gv z nx none)) := zh ((Q0j _ _ _ _ _ (by omega)).trans HV2.out)
    have HB3 : Hid (Below w.heap.size w (W2.setCells w.heap.size 12 (nv z).toList)) := zh (HB2.out.trans (Q1i (zL _) 12 _))
    have HD3 := zh (HDZ.out.keep9 (wb := (W2.setCells w.heap.size 12 (nv z).toList)) fun k _ h => Q0j _ _ _ _ k (by omega))
    clear hg3
    go_upto_region 30 with (first | (refine wpList_load_mid rfl _ _ rfl g9 0 rfl (Q0g z) _ (RowAt.range HV2.out 0 (Q0g z) (by intro j u hu; match j, hu with | 0, hu => exact hu | 1, hu => exact hu | 2, hu => exact hu | 3, hu => exact hu | 4, hu => exact hu)) Tryz.underlying29 rfl (by rw [show (Q0g z).length = 5 from rfl]; kernel_rfl) ?_) | (refine wpList_store_mid rfl _ _ _ rfl w.heap.size 12 (nv z) rfl rfl (RowAt.thereD HG2.out (by show 12 + 5 ≤ 17; omega)) (Q0h _ _ _ _ _) (by simp [nv, Value.oneCell']) ?_))
    change Code.wp _ _ _ _ (W2.setCells w.heap.size 12 (nv z).toList)
    clear HG2 HR2 HV2 HB2 HDZ
    generalize (W2.setCells w.heap.size 12 (nv z).toList) = W3 at *
    have C0 : ∀ W, (RowAt W w.heap.size 31 (cv (Cm.mk x.op x.p x.n x.A x.c x.ws x.B x.d x.ps x.pp x.l z)) ∧ RowAt W g9 103 (gv z nx none)) → W.cell? ⟨g9, 5, none⟩ = some (.int .i64 nx) := fun W h => (h.2.cell 5).trans rfl
    refine Q0y (fun W => RowAt W w.heap.size 31 (cv (Cm.mk x.op x.p x.n x.A x.c x.ws x.B x.d x.ps x.pp x.l z)) ∧ RowAt W g9 103 (gv z nx none)) ((.take 0 (.take 1 (.take 2 (.solo 3 (.take 4 (.take 5 .nil))))))) (by kernel_rfl) (by kernel_rfl) rfl (by kernel_rfl) ⟨HG3.out.drew, HV3.out.drew⟩ ?_
    iterate 3
     (refine Q07 (zO rfl) ?_)
     (first
           | (refine Q08 (by rfl) ?_)
           | (refine Q03 (by rfl) (Q0R _ _ rfl w.heap.size rfl _ (cv (Cm.mk x.op x.p x.n x.A x.c x.ws x.B x.d x.ps x.pp x.l z)) _ (fun W h => h.1) Tryz.underlying31 rfl (Q01 _)) ?_)
           | (refine Q03 (v := ?_) (by rfl) ?_ ?_; rotate_left 1; (intro wx hSx; have hc_0 := C0 wx hSx; go_simp; try with_reducible rfl)))
     (try simp only [Act.put, zA4, zA5, zA6])
    (refine Q02 (zO rfl) ?_)
    intro K hK
    rw [if_pos (by rfl)]
    refine wp_store_row _ _ _ rfl (w.heap.size + 1) (cv (Cm.mk x.op x.p x.n x.A x.c x.ws x.B x.d x.ps x.pp x.l z)) rfl rfl _ _ HR3.out.drew (Q01 _) rfl (by simp [cv, Value.oneCell']) ?_
    have HB9 : Hid (Below w.heap.size w (W3.drew.setRow (w.heap.size + 1) (cv (Cm.mk x.op x.p x.n x.A x.c x.ws x.B x.d x.ps x.pp x.l z)))) := zh (HB3.out.drew.trans (below_setRow (by omega) _))
    have HR9 : Hid (RowAt (W3.drew.setRow (w.heap.size + 1) (cv (Cm.mk x.op x.p x.n x.A x.c x.ws x.B x.d x.ps x.pp x.l z))) (w.heap.size + 1) 31 (cv (Cm.mk x.op x.p x.n x.A x.c x.ws x.B x.d x.ps x.pp x.l z))) := zh (HR3.out.drew.setRow (cv (Cm.mk x.op x.p x.n x.A x.c x.ws x.B x.d x.ps x.pp x.l z)))
    have HD9 := zh (HD3.out.keep9 (wb := W3.drew.setRow (w.heap.size + 1) (cv (Cm.mk x.op x.p x.n x.A x.c x.ws x.B x.d x.ps x.pp x.l z))) fun k _ h => setRow_other _ _ k _ (by omega))
    refine hK.out _ _ ⟨(setRow_other _ _ _ _ (by omega)).trans HG3.out.drew, (setRow_other _ _ _ _ (by omega)).trans HV3.out.drew⟩ ?_
    clear hK K
    (try simp only [Act.put, zA4, zA5, zA6])
    iterate 2
     (refine Q07 (zO rfl) ?_)
     (first
           | (refine Q08 (by rfl) ?_)
           | (refine Q03 (by rfl) (Q0R _ _ rfl w.heap.size rfl _ (cv (Cm.mk x.op x.p x.n x.A x.c x.ws x.B x.d x.ps x.pp x.l z)) _ (fun W h => h.1) Tryz.underlying31 rfl (Q01 _)) ?_)
           | (refine Q03 (v := ?_) (by rfl) ?_ ?_; rotate_left 1; (intro wx hSx; have hc_0 := C0 wx hSx; go_simp; try with_reducible rfl)))
     (try simp only [Act.put, zA4, zA5, zA6])
    refine Q0s ?_
    go_wp2
    exact bodyPost_ret (Q1F rfl _ _ _ _ (w.heap.size + 1) _ _ _ rfl rfl rfl HR9.out Tryz.underlying31 rfl (Q01 _)) rfl (HQ.out _ _ ⟨(Cm.mk x.op x.p x.n x.A x.c x.ws x.B x.d x.ps x.pp x.l z), _, _, rfl, HPO.out _ HB9.out (HD9.out.weak fun k _ h => hok k (by omega)), HB9.out⟩))
end
end Go.Proofs.YtmobcncgfbfmcaaGreatDoor
