/- Texts that all the claims need. Conditions: those that each states. -/

import Derived.Test.YtkgonoejnochjaaGreatDoorY24
set_option linter.unusedSimpArgs false
set_option linter.unusedVariables false
set_option maxRecDepth 8000
namespace Go.Proofs.YtkgonoejnochjaaGreatDoor
open Go.RowKit LX TR TM SP RM
def SP.GotN (gn : Nat) (W1 : World) (l : List Nd) (W : World) : Prop :=
 ∃ zs X d, RowAt W gn 28 #[.int .i64 5, .int .i64 0, .string ⟨#[]⟩, .slice none 0 0, .slice X zs.length d] ∧ TM.er zs = l ∧ W.ownsRow W1.heap.size 28 5 (.slice X zs.length d) zs.length (ncs zs) ∧ DeepN W (fun k => W1.heap.size ≤ k ∧ (Value.slice X zs.length d).ownBlock ≠ some k) zs ∧ Mv gn W1 W
theorem SP.fin_b {gn g4 n d5 i : Nat} {W1 w6 : World} {f : Fac} {zs : List Nd} {s : ByteArray} {Y : Option Addr} {dd rr : Nat} {names : List ByteArray} (hlt : gn < W1.heap.size) (hne : g4 ≠ gn) (hg4 : W1.heap.size ≤ g4) (hn : RowAt w6 gn 28 #[.int .i64 5, .int .i64 0, .string ⟨#[]⟩, .slice none 0 0, .slice (some ⟨g4, 0, none⟩) (n + 1 : Nat) d5])
 (ho : (w6.setCells g4 (n * 5) [.int .i64 6, .int .i64 0, .string s, .slice Y (nmd names rr).length dd, .slice none 0 0]).ownsRow W1.heap.size 28 5 (.slice (some ⟨g4, 0, none⟩) (n + 1) d5) (n + 1) (ncs zs ++ [.int .i64 6, .int .i64 0, .string s, .slice Y (nmd names rr).length dd, .slice none 0 0]))
 (hd : DeepN w6 (fun k => W1.heap.size ≤ k ∧ (Value.slice (some ⟨g4, 0, none⟩) (n + 1) d5).ownBlock ≠ some k) (zs ++ [(Nd.mk 6 0 s Y dd (nmd names rr) none 0 [])])) (hm : Mv gn W1 w6) (hz : zs.length = n) :
 Mv gn W1 (w6.setCells g4 (n * 5) [.int .i64 6, .int .i64 0, .string s, .slice Y (nmd names rr).length dd, .slice none 0 0]) ∧ GotN gn W1 (TM.er (zs ++ [(Nd.mk 6 0 s Y dd (nmd names rr) none 0 [])])) (w6.setCells g4 (n * 5) [.int .i64 6, .int .i64 0, .string s, .slice Y (nmd names rr).length dd, .slice none 0 0]) := by
 have hm2 : Mv gn W1 (w6.setCells g4 (n * 5) [.int .i64 6, .int .i64 0, .string s, .slice Y (nmd names rr).length dd, .slice none 0 0]) := hm.onBelow hlt (setCells_below (B := W1.heap.size) hg4 _ _) (Nat.le_refl _)
 have hl : (zs ++ [(Nd.mk 6 0 s Y dd (nmd names rr) none 0 [])]).length = n + 1 := by rw [List.length_append, hz]; rfl
 refine ⟨hm2, zs ++ [(Nd.mk 6 0 s Y dd (nmd names rr) none 0 [])], some ⟨g4, 0, none⟩, d5, ?_, rfl, ?_, ?_, hm2⟩
 ·rw [hl]
  exact (setCells_other _ _ _ _ _ hne.symm).trans hn
 ·rw [hl, ncs_append, ncs_one]
  exact ho
 ·rw [hl]
  exact hd.keep (Nat.le_of_eq (setCells_size _ _ _ _).symm) (fun k _ h => setCells_other _ _ _ _ _ (fun e => h.2 (by rw [e]; rfl))) (fun _ _ h => h)
theorem SP.fin_a {gn g4 n d d5 i : Nat} {X : Option Addr} {u : Value} {W1 w6 : World} {f : Fac} {zs : List Nd} {s : ByteArray} {Y : Option Addr} {dd rr : Nat} {names : List ByteArray} (hlt : gn < W1.heap.size) (hne : g4 ≠ gn) (hg4 : W1.heap.size ≤ g4) (hn : RowAt w6 gn 28 #[.int .i64 5, .int .i64 0, .string ⟨#[]⟩, .slice none 0 0, .slice X n d])
 (ho : w6.ownsRow W1.heap.size 28 5 (.slice (some ⟨g4, 0, none⟩) (n + 1) d5) (n + 1) (ncs zs ++ [.int .i64 6, .int .i64 0, .string s, .slice Y (nmd names rr).length dd, .slice none 0 0]))
 (hd : DeepN w6 (fun k => W1.heap.size ≤ k ∧ (Value.slice (some ⟨g4, 0, none⟩) (n + 1) d5).ownBlock ≠ some k) (zs ++ [(Nd.mk 6 0 s Y dd (nmd names rr) none 0 [])])) (hm : Mv gn W1 w6) (hu : u = .slice (some ⟨g4, 0, none⟩) (n + 1) d5) (hz : zs.length = n) :
 Mv gn W1 (w6.setCell ⟨gn, 4, none⟩ u) ∧ GotN gn W1 (TM.er (zs ++ [(Nd.mk 6 0 s Y dd (nmd names rr) none 0 [])])) (w6.setCell ⟨gn, 4, none⟩ u) := by
 subst hu
 have hm2 := hm.setCell (p := ⟨gn, 4, none⟩) (.inl rfl) hlt (.slice (some ⟨g4, 0, none⟩) (n + 1) d5)
 have hl : (zs ++ [(Nd.mk 6 0 s Y dd (nmd names rr) none 0 [])]).length = n + 1 := by rw [List.length_append, hz]; rfl
 have he := Else.setCell w6 ⟨gn, 4, none⟩ (.slice (some ⟨g4, 0, none⟩) (n + 1) d5)
 refine ⟨hm2, zs ++ [(Nd.mk 6 0 s Y dd (nmd names rr) none 0 [])], some ⟨g4, 0, none⟩, d5, ?_, rfl, ?_, ?_, hm2⟩
 ·rw [hl]
  exact hn.put 4 (.slice (some ⟨g4, 0, none⟩) (n + 1) d5)
 ·rw [hl, ncs_append, ncs_one]
  exact own_like9 ho (fun k hk e => he.block k (by have h1 := ho.lt k e; show k ≠ gn; omega))
 ·rw [hl]
  exact hd.keep (Nat.le_of_eq he.size.symm) (fun k hk h => he.block k (by have h3 := h.1; show k ≠ gn; omega)) (fun _ _ h => h)
set_option maxRecDepth 100000 in
set_option maxHeartbeats 3200000 in
theorem sconstant1_any (gn gf gv : Nat) (W1 : World) (f : Fac) (v : Nat) (hv : v < 18446744073709551616) (hf : RowAt W1 gf 51 (fv f)) (hbv : Box W1 gv 32 (.int .u64 (v : Int))) (h1 : gf ≠ gn) (h2 : gv ≠ gn) (hg : gn < W1.heap.size)
 (bb o : Nat) (hA : f.A = some ⟨bb, o, none⟩) (hbg : bb ≠ gn) (hbw : bb < W1.heap.size) (hok : ∀ W, Mv gn W1 W → Tab W ∧ FacOk W f) (hpt : pts f.n = f.names.length) (h64 : f.names.length ≤ 64)
 (l : List Nd) (hl : l.length ≤ 4294967296) (i : Nat) (hi : i < f.names.length) (hci : W1.cell? ⟨bb, o + i, none⟩ = some (.string (f.names.getD i ⟨#[]⟩))) (W : World) (h : GotN gn W1 l W) :
 Calls Tryz.prog 60 #[.int .i64 i, .pointer (some ⟨gf, 0, none⟩), .pointer (some ⟨gv, 0, none⟩), .pointer (some ⟨gn, 0, none⟩)] W fun e W' => e = .returned (.bool true) ∧ GotN gn W1 (l ++ [rulN f.names f.n f.l v i]) W' := by
 obtain ⟨zs, X, d, hrow, her, hown, hdeep, hm⟩ := h
 have hzl : zs.length ≤ 4294967296 := by rw [← TM.er_length, her]; exact hl
 have hrw : RW f.l := (hok W hm).2.rows
 obtain ⟨S, hSe⟩ : ∃ S : World → Prop, S = fun w' => Mv gn W1 w' := ⟨_, rfl⟩
 have SI : Hid (∀ w', Mv gn W1 w' → S w') := fun w' h => by rw [hSe]; exact h
 have SO : Hid (∀ w', S w' → Mv gn W1 w') := fun w' h => by rw [hSe] at h; exact h
 have pF : ∀ w', S w' → RowAt w' gf 51 (fv f) := fun w' h => hf.mv (SO.out w' h) h1
 have pL : ∀ w', S w' → w'.rangeAt gf 2 (rvl f.n f.l) := fun w' h => (fac_cells (hf.mv (SO.out w' h) h1)).2.2.2
 have K1 : ∀ w', S w' → w'.cell? ⟨gf, 1, none⟩ = some (.slice (some ⟨bb, o, none⟩) f.names.length f.c) := fun w' h => by
  rw [← hA]
  exact (fac_cells (hf.mv (SO.out w' h) h1)).2.1
 have K2 : ∀ w', S w' → w'.cell? ⟨bb, o + i, none⟩ = some (.string (f.names.getD i ⟨#[]⟩)) := fun w' h => (World.cell?_of_block (w := W1) ((SO.out w' h).block bb hbw hbg)).trans hci
 have K3 : ∀ w', S w' → w'.cell? ⟨gv, 0, none⟩ = some (.int .u64 (v : Int)) := fun w' h => Box.cell (t := 32) (((SO.out w' h).block gv hbv.lt h2).trans hbv)
 have HRD : Hid (∀ W, Calls Tryz.prog 61 #[.agg (rv f.n f.l), .int .u64 (v : Int), .int .i64 (i : Int)] W fun e w' => e = .returned (.int .u64 ((gReaders f.n f.l v (i : Int) : Nat) : Int)) ∧ Below W.heap.size W w') := fun W => greaders_any f.n f.l hrw v hv (i : Int) W
 have HND : Hid (∀ W, Mv gn W1 W → Calls Tryz.prog 57 #[.agg (fv f), .int .u64 ((gReaders f.n f.l v (i : Int) : Nat) : Int)] W fun e w' => ∃ Y dd, e = .returned (.slice Y (nmd f.names (gReaders f.n f.l v (i : Int))).length dd) ∧ (nmd f.names (gReaders f.n f.l v (i : Int))).length ≤ dd ∧ SlC w' (fun k => W.heap.size ≤ k) Y (wcs (nmd f.names (gReaders f.n f.l v (i : Int)))) ∧ Below W.heap.size W w') := fun W hm =>
  snamed_any f _ (gReaders_lt _ _ _ _) (fun i hi => by rw [← hpt]; exact rd_bits hi) h64 W (hok W hm).1 (hok W hm).2
 have HER := Lib.hid her
 have HO := Lib.hid hown
 have HD := Lib.hid hdeep
 have HM := Lib.hid hm
 have HRW := Lib.hid hrow
 have HLT := Lib.hid hg
 have HNCS : Hid ((ncs zs).length = zs.length * 5) := ncs_length zs
 have hin : (i : Int) < (f.names.length : Int) := by omega
 clear hown hdeep hm hrow hSe hf hbv hok hci hpt her hA hl
 rw [show rulN f.names f.n f.l v i = nd 6 0 (f.names.getD i ⟨#[]⟩) (nmd f.names (gReaders f.n f.l v (i : Int))) [] from rfl]
 obtain ⟨L2, hL2⟩ : ∃ L2, L2 = l ++ [nd 6 0 (f.names.getD i ⟨#[]⟩) (nmd f.names (gReaders f.n f.l v (i : Int))) []] := ⟨_, rfl⟩
 rw [← hL2]
 have HL2 := Lib.hid hL2; clear hL2
 generalize hNM : f.names = names at *
 generalize gReaders f.n f.l v (i : Int) = rr at *
 generalize hs : names.getD i ⟨#[]⟩ = s at *
 clear hs hNM
 generalize names.length = nn at *
 generalize hln : zs.length = n at *
 have HN := Lib.hid hln; clear hln
 go_enter Tryz.func60, Tryz.ntmps60
 go_upto_region 1 with fail
 refine wp_region_ord S [(0, true), (1, true), (2, true), (3, true), (4, true), (5, false), (6, false), (7, true)] (by kernel_rfl) (by kernel_rfl) rfl (by kernel_rfl) (SI.out _ HM.out.drew) ?_
 have HM0 : Hid (Mv gn W1 W.drew) := HM.out.drew
 have HVV : Hid (Below W.heap.size W W.drew) := (Below.refl _ _).drew
 generalize W.drew = V at HM0 HVV ⊢
 iterate 5
  (refine wpOrd_step (o := ?_) ?_ ?_; rotate_left 1; (simp only [zA1, zA2, zA3]; with_reducible rfl))
  (first
        | (refine wpOrd_skip (by rfl) ?_)
        | (refine wpOrd_take (by rfl) (take_loadFac _ rfl _ rfl _ hrw pF) ?_)
        | (refine wpOrd_take (by rfl) (take_loadRelIn _ rfl _ _ rfl _ _ hrw pL) ?_)
        | (refine wpOrd_take (v := ?_) (by rfl) ?_ ?_; rotate_left 1; (intro wx hSx; have hc_0 := K3 wx hSx; go_simp; try with_reducible rfl)))
  (try simp only [Act.put, zA4, zA5, zA6])
 (refine wpOrd_solo (o := ?_) ?_ ?_; rotate_left 1; (simp only [zA1, zA2, zA3]; with_reducible rfl))
 intro K hK
 go_simp
 go_at_call 61
 refine (HRD.out V).mono ?_
 rintro e wq ⟨rfl, hb⟩
 have HMq := Lib.hid (HM0.out.onBelow HLT.out hb HM0.out.size)
 have HVq := Lib.hid (HVV.out.trans (hb.mono HVV.out.size))
 clear hb HM0 HVV
 refine hK.out _ _ (SI.out _ HMq.out) ?_
 clear hK K
 (try simp only [Act.put, zA4, zA5, zA6])
 (refine wpOrd_solo (o := ?_) ?_ ?_; rotate_left 1; (simp only [zA1, zA2, zA3]; with_reducible rfl))
 intro K hK
 go_simp
 go_at_call 57
 refine (HND.out wq HMq.out).mono ?_
 rintro e wn ⟨Y, dd, rfl, hd, hsl, hb⟩
 have HMn := Lib.hid (HMq.out.onBelow HLT.out hb HMq.out.size)
 have HVn := Lib.hid (HVq.out.trans (hb.mono HVq.out.size))
 have HY := Lib.hid (And.intro hd hsl)
 clear hb hd hsl
 refine hK.out _ _ (SI.out _ HMn.out) ?_
 clear hK K
 (try simp only [Act.put, zA4, zA5, zA6])
 iterate 1
  (refine wpOrd_step (o := ?_) ?_ ?_; rotate_left 1; (simp only [zA1, zA2, zA3]; with_reducible rfl))
  (first
        | (refine wpOrd_skip (by rfl) ?_)
        | (refine wpOrd_take (v := ?_) (by rfl) ?_ ?_; rotate_left 1; (intro wx hSx; go_simp; try with_reducible rfl)))
  (try simp only [Act.put, zA4, zA5, zA6])
 refine wpOrd_done ?_
 have hszW : W1.heap.size ≤ W.heap.size := HM.out.size
 have hgW : gn < W.heap.size := by omega
 have HL3 : Hid (TM.er (zs ++ [(Nd.mk 6 0 s Y dd (nmd names rr) none 0 [])]) = L2) := by
  show TM.er (zs ++ [(Nd.mk 6 0 s Y dd (nmd names rr) none 0 [])]) = L2
  rw [HL2.out, TM.er_append, HER.out, er_one]
  congr 1
  show [nd 6 0 s (nmd names rr) (TM.er [])] = _
  rw [TM.er]
 have HNn := Lib.hid (HRW.out.below HVn.out hgW)
 have HOn := Lib.hid (own_below HO.out HVn.out (Nat.le_refl _))
 go_upto_region 2 with fail
 have HMV : Hid (Mv gn W1 wn.drew) := HMn.out.drew
 have HNV : Hid (RowAt wn.drew gn 28 #[.int .i64 5, .int .i64 0, .string ⟨#[]⟩, .slice none 0 0, .slice X n d]) := HNn.out.drew
 have HOV : Hid (wn.drew.ownsRow W1.heap.size 28 5 (.slice X n d) n (ncs zs)) := own_below HO.out HVn.out.drew (Nat.le_refl _)
 have hzz : DeepN wn.drew (fun k => wq.heap.size ≤ k) [(Nd.mk 6 0 s Y dd (nmd names rr) none 0 [])] := DeepN.drew9 (DeepN.one ⟨⟨HY.out.2, HY.out.1⟩, SlC.nil _ _ _, Nat.le_refl _⟩ (DeepN.nil _ _))
 have HDG0 := Lib.hid (deep_more (w := W1) HD.out (Mv.below (b := gn) hgW HVn.out.drew) hzz HO.out HVq.out.size HLT.out hszW (.cells #[.int .i64 0, .int .i64 0, .string ⟨#[]⟩, .slice none 0 0, .slice none 0 0] 28))
 clear hzz HY HVn HVq HNn HOn HD HRW HO HM HMn HMq HRD HND HER HL2
 refine wp_region_ot S (.take 0 (.take 2 (.take 3 (.take 4 (.take 5 (.take 6 (.take 7 (.take 8 (.two 1 (.take 9 (.solo 10 (.solo 11 (.take 12 (.take 14 (.two 13 (.solo 15 .nil) 15 (.solo 13 .nil))))))) 10 (.solo 1 (.take 9 (.solo 11 (.take 12 (.take 14 (.two 13 (.solo 15 .nil) 15 (.solo 13 .nil)))))))))))))))) (by kernel_rfl) (by kernel_rfl) rfl (by kernel_rfl) (SI.out _ HMV.out) ?_
 generalize wn.drew = V at HMV HNV HOV HDG0 ⊢
 have HMB0 := Lib.hid (HMV.out.alloc HLT.out (.cells #[.int .i64 0, .int .i64 0, .string ⟨#[]⟩, .slice none 0 0, .slice none 0 0] 28))
 have HNB0 := Lib.hid (HNV.out.alloc (.cells #[.int .i64 0, .int .i64 0, .string ⟨#[]⟩, .slice none 0 0, .slice none 0 0] 28))
 have HOG0 := Lib.hid (HOV.out.alloc (.cells #[.int .i64 0, .int .i64 0, .string ⟨#[]⟩, .slice none 0 0, .slice none 0 0] 28))
 have HRG0 := Lib.hid (RowAt.new V 28 #[.int .i64 0, .int .i64 0, .string ⟨#[]⟩, .slice none 0 0, .slice none 0 0])
 have hnn : (n : Int) < (n : Int) + 1 := by omega
 iterate 8
  (refine wpOT_step (o := ?_) ?_ ?_; rotate_left 1; (simp only [zA1, zA2, zA3]; with_reducible rfl))
  (first
        | (refine wpOT_skip (by rfl) ?_)
        | (refine wpOT_take (v := ?_) (by rfl) ?_ ?_; rotate_left 1; (intro wx hSx; have hc_0 := K1 wx hSx; have hc_1 := K2 wx hSx; go_simp; try with_reducible rfl)))
  (try simp only [Act.put, zA4, zA5, zA6])
 clear K1 K2 K3 pF pL
 refine wpOT_two ?_ ?_
 ·have k4 : V.cell? ⟨gn, 4, none⟩ = some (.slice X n d) := (RowAt.cell HNV.out 4).trans rfl
  (refine wpOT_solo (o := ?_) ?_ ?_; rotate_left 1; (simp only [zA1, zA2, zA3]; with_reducible rfl))
  intro K hK
  go_simp
  refine hK.out _ _ (SI.out _ HMV.out) ?_
  clear hK K
  (try simp only [Act.put, zA4, zA5, zA6])
  clear k4
  iterate 1
   (refine wpOT_step (o := ?_) ?_ ?_; rotate_left 1; (simp only [zA1, zA2, zA3]; with_reducible rfl))
   (first
    | (refine wpOT_skip (by rfl) ?_)
    | (refine wpOT_take (v := ?_) (by rfl) ?_ ?_; rotate_left 1; (intro wx hSx; go_simp; try with_reducible rfl)))
   (try simp only [Act.put, zA4, zA5, zA6])
  (refine wpOT_solo (o := ?_) ?_ ?_; rotate_left 1; (simp only [zA1, zA2, zA3]; with_reducible rfl))
  intro K hK
  go_simp
  refine hK.out _ _ (SI.out _ HMB0.out) ?_
  clear hK K
  (try simp only [Act.put, zA4, zA5, zA6])
  generalize (V.alloc (.cells #[.int .i64 0, .int .i64 0, .string ⟨#[]⟩, .slice none 0 0, .slice none 0 0] 28)) = wb at *
  generalize V.heap.size = g9 at *
  have HMwb := HMB0
  have HNB := HNB0
  (refine wpOT_solo (o := ?_) ?_ ?_; rotate_left 1; (simp only [zA1, zA2, zA3]; with_reducible rfl))
  intro K hK
  rw [if_pos (by rfl)]
  refine wp_moreB _ _ 26 rfl 28 (.agg #[.int .i64 0, .int .i64 0, .string ⟨#[]⟩, .slice none 0 0, .slice none 0 0]) 5 80 Tryz.underlying26 infoNode rfl (by decide) W1.heap.size X n d (ncs zs) rfl HOG0.out g9 [.int .i64 0, .int .i64 0, .string ⟨#[]⟩, .slice none 0 0, .slice none 0 0] rfl rfl ?c2_1 (by simp [Value.oneCell']) ?c3_1 ?c4_1 ?c5_1 ?_
  case c2_1 => intro j u hu; exact (HRG0.out.cell j).trans (by show (([.int .i64 0, .int .i64 0, .string ⟨#[]⟩, .slice none 0 0, .slice none 0 0] : List Value).toArray)[j]? = some u; rw [zA1]; exact hu)
  case c3_1 => simp only [maxLen]; omega
  case c4_1 => omega
  case c5_1 => exact HMwb.out.size
  intro X5 d5 w5 hown5 hb5 hg5 hat5
  obtain ⟨g4, rfl, hg4B, hg4lt, hg4f, _⟩ := own_at hown5 (by intro e; have := congrArg List.length e; rw [List.length_append] at this; simp at this)
  have HN5 := Lib.hid (HNB.out.below hb5 HLT.out)
  have HM5 := Lib.hid (HMwb.out.onBelow HLT.out hb5 (Nat.le_refl _))
  have HD5 := Lib.hid (deep_grown (n := n) (m := n + 1) HDG0.out hg5 hat5)
  have HO5 := Lib.hid hown5
  have hne4 : g4 ≠ gn := by have := HLT.out; omega
  refine hK.out _ _ (SI.out _ HM5.out) ?_
  clear hK K
  (try simp only [Act.put, zA4, zA5, zA6])
  clear hown5 hb5 hg5 hat5 HNB HMwb HDG0 HOG0 HRG0
  iterate 2
   (refine wpOT_step (o := ?_) ?_ ?_; rotate_left 1; (simp only [zA1, zA2, zA3]; with_reducible rfl))
   (first
    | (refine wpOT_skip (by rfl) ?_)
    | (refine wpOT_take (v := ?_) (by rfl) ?_ ?_; rotate_left 1; (intro wx hSx; go_simp; try with_reducible rfl)))
   (try simp only [Act.put, zA4, zA5, zA6])
  obtain ⟨own5, there5⟩ := own_fill HO5.out HNCS.out (ys := [.int .i64 6, .int .i64 0, .string s, .slice Y (nmd names rr).length dd, .slice none 0 0]) rfl
  refine wpOT_two ?_ ?_
  ·(refine wpOT_solo (o := ?_) ?_ ?_; rotate_left 1; (simp only [zA1, zA2, zA3]; with_reducible rfl))
   intro K hK
   rw [if_pos (by rfl)]
   refine wp_store_mid 28 _ _ rfl g4 (n * 5) #[.int .i64 6, .int .i64 0, .string s, .slice Y (nmd names rr).length dd, .slice none 0 0] rfl rfl there5 (node_info _ _ _ _ _) (by simp [Value.oneCell']) ?_
   have HM6 : Hid (Mv gn W1 (w5.setCells g4 (n * 5) [.int .i64 6, .int .i64 0, .string s, .slice Y (nmd names rr).length dd, .slice none 0 0])) := HM5.out.onBelow HLT.out (setCells_below (B := W1.heap.size) hg4B _ _) (Nat.le_refl _)
   have HN6 : Hid (RowAt (w5.setCells g4 (n * 5) [.int .i64 6, .int .i64 0, .string s, .slice Y (nmd names rr).length dd, .slice none 0 0]) gn 28 #[.int .i64 5, .int .i64 0, .string ⟨#[]⟩, .slice none 0 0, .slice X n d]) := (setCells_other _ _ _ _ _ hne4.symm).trans HN5.out
   have k4 : (w5.setCells g4 (n * 5) [.int .i64 6, .int .i64 0, .string s, .slice Y (nmd names rr).length dd, .slice none 0 0]).cell? ⟨gn, 4, none⟩ = some (.slice X n d) := (RowAt.cell HN6.out 4).trans rfl
   have f4 := HN6.out.free 4
   have HF := Lib.hid (SP.fin_a (f := f) (i := i) (u := .slice (some ⟨g4, 0, none⟩) (n + 1) d5) HLT.out hne4 hg4B HN6.out own5 (HD5.out.keep (Nat.le_of_eq (setCells_size _ _ _ _).symm) (fun k _ h => setCells_other _ _ _ _ _ (fun e => h.2 (by rw [e]; rfl))) (fun _ _ h => h)) HM6.out rfl HN.out)
   refine hK.out _ _ (SI.out _ HM6.out) ?_
   clear hK K own5 there5
   (try simp only [Act.put, zA4, zA5, zA6])
   generalize (w5.setCells g4 (n * 5) [.int .i64 6, .int .i64 0, .string s, .slice Y (nmd names rr).length dd, .slice none 0 0]) = w6 at *
   (refine wpOT_solo (o := ?_) ?_ ?_; rotate_left 1; (simp only [zA1, zA2, zA3]; with_reducible rfl))
   intro K hK
   go_simp
   refine hK.out _ _ (SI.out _ HF.out.1) ?_
   clear hK K
   (try simp only [Act.put, zA4, zA5, zA6])
   refine wpOT_done ?_
   go_wp2_with fail
   go_ret
   exact ⟨rfl, by rw [← HL3.out]; exact HF.out.2⟩
  ·have k4 : w5.cell? ⟨gn, 4, none⟩ = some (.slice X n d) := (RowAt.cell HN5.out 4).trans rfl
   have f4 := HN5.out.free 4
   (refine wpOT_solo (o := ?_) ?_ ?_; rotate_left 1; (simp only [zA1, zA2, zA3]; with_reducible rfl))
   intro K hK
   go_simp
   have HM6 : Hid (Mv gn W1 (w5.setCell ⟨gn, 4, none⟩ (.slice (some ⟨g4, 0, none⟩) (n + 1) d5))) := HM5.out.setCell (p := ⟨gn, 4, none⟩) (.inl rfl) HLT.out _
   have HN6 : Hid (RowAt (w5.setCell ⟨gn, 4, none⟩ (.slice (some ⟨g4, 0, none⟩) (n + 1) d5)) gn 28 #[.int .i64 5, .int .i64 0, .string ⟨#[]⟩, .slice none 0 0, .slice (some ⟨g4, 0, none⟩) (n + 1) d5]) := HN5.out.put 4 (.slice (some ⟨g4, 0, none⟩) (n + 1) d5)
   have HO6 := Lib.hid (own_like9 (w' := (w5.setCell ⟨gn, 4, none⟩ (.slice (some ⟨g4, 0, none⟩) (n + 1) d5))) HO5.out (fun k hk e => (Else.setCell w5 ⟨gn, 4, none⟩ (.slice (some ⟨g4, 0, none⟩) (n + 1) d5)).block k (by have h1 := HO5.out.lt k e; have h2 := HLT.out; show k ≠ gn; omega)))
   have HD6 := Lib.hid (HD5.out.keep (w' := (w5.setCell ⟨gn, 4, none⟩ (.slice (some ⟨g4, 0, none⟩) (n + 1) d5))) (ok' := fun k => W1.heap.size ≤ k ∧ (Value.slice (some ⟨g4, 0, none⟩) (n + 1) d5).ownBlock ≠ some k) (Nat.le_of_eq (Else.setCell w5 ⟨gn, 4, none⟩ (.slice (some ⟨g4, 0, none⟩) (n + 1) d5)).size.symm) (fun k hk h => (Else.setCell w5 ⟨gn, 4, none⟩ (.slice (some ⟨g4, 0, none⟩) (n + 1) d5)).block k (by have h2 := HLT.out; have h3 := h.1; show k ≠ gn; omega)) (fun _ _ h => h))
   refine hK.out _ _ (SI.out _ HM6.out) ?_
   clear hK K own5 there5 k4 f4
   (try simp only [Act.put, zA4, zA5, zA6])
   generalize (w5.setCell ⟨gn, 4, none⟩ (.slice (some ⟨g4, 0, none⟩) (n + 1) d5)) = w6 at *
   obtain ⟨own6, there6⟩ := own_fill HO6.out HNCS.out (ys := [.int .i64 6, .int .i64 0, .string s, .slice Y (nmd names rr).length dd, .slice none 0 0]) rfl
   (refine wpOT_solo (o := ?_) ?_ ?_; rotate_left 1; (simp only [zA1, zA2, zA3]; with_reducible rfl))
   intro K hK
   rw [if_pos (by rfl)]
   refine wp_store_mid 28 _ _ rfl g4 (n * 5) #[.int .i64 6, .int .i64 0, .string s, .slice Y (nmd names rr).length dd, .slice none 0 0] rfl rfl there6 (node_info _ _ _ _ _) (by simp [Value.oneCell']) ?_
   have HF := Lib.hid (SP.fin_b (f := f) (i := i) HLT.out hne4 hg4B HN6.out own6 HD6.out HM6.out HN.out)
   refine hK.out _ _ (SI.out _ HF.out.1) ?_
   clear hK K own6 there6
   (try simp only [Act.put, zA4, zA5, zA6])
   refine wpOT_done ?_
   go_wp2_with fail
   go_ret
   exact ⟨rfl, by rw [← HL3.out]; exact HF.out.2⟩
 ·(refine wpOT_solo (o := ?_) ?_ ?_; rotate_left 1; (simp only [zA1, zA2, zA3]; with_reducible rfl))
  intro K hK
  go_simp
  refine hK.out _ _ (SI.out _ HMB0.out) ?_
  clear hK K
  (try simp only [Act.put, zA4, zA5, zA6])
  generalize (V.alloc (.cells #[.int .i64 0, .int .i64 0, .string ⟨#[]⟩, .slice none 0 0, .slice none 0 0] 28)) = wb at *
  generalize V.heap.size = g9 at *
  have HMwb := HMB0
  have HNB := HNB0
  have k4 : wb.cell? ⟨gn, 4, none⟩ = some (.slice X n d) := (RowAt.cell HNB.out 4).trans rfl
  (refine wpOT_solo (o := ?_) ?_ ?_; rotate_left 1; (simp only [zA1, zA2, zA3]; with_reducible rfl))
  intro K hK
  go_simp
  refine hK.out _ _ (SI.out _ HMwb.out) ?_
  clear hK K
  (try simp only [Act.put, zA4, zA5, zA6])
  clear k4
  iterate 1
   (refine wpOT_step (o := ?_) ?_ ?_; rotate_left 1; (simp only [zA1, zA2, zA3]; with_reducible rfl))
   (first
    | (refine wpOT_skip (by rfl) ?_)
    | (refine wpOT_take (v := ?_) (by rfl) ?_ ?_; rotate_left 1; (intro wx hSx; go_simp; try with_reducible rfl)))
   (try simp only [Act.put, zA4, zA5, zA6])
  (refine wpOT_solo (o := ?_) ?_ ?_; rotate_left 1; (simp only [zA1, zA2, zA3]; with_reducible rfl))
  intro K hK
  rw [if_pos (by rfl)]
  refine wp_moreB _ _ 26 rfl 28 (.agg #[.int .i64 0, .int .i64 0, .string ⟨#[]⟩, .slice none 0 0, .slice none 0 0]) 5 80 Tryz.underlying26 infoNode rfl (by decide) W1.heap.size X n d (ncs zs) rfl HOG0.out g9 [.int .i64 0, .int .i64 0, .string ⟨#[]⟩, .slice none 0 0, .slice none 0 0] rfl rfl ?c2_2 (by simp [Value.oneCell']) ?c3_2 ?c4_2 ?c5_2 ?_
  case c2_2 => intro j u hu; exact (HRG0.out.cell j).trans (by show (([.int .i64 0, .int .i64 0, .string ⟨#[]⟩, .slice none 0 0, .slice none 0 0] : List Value).toArray)[j]? = some u; rw [zA1]; exact hu)
  case c3_2 => simp only [maxLen]; omega
  case c4_2 => omega
  case c5_2 => exact HMwb.out.size
  intro X5 d5 w5 hown5 hb5 hg5 hat5
  obtain ⟨g4, rfl, hg4B, hg4lt, hg4f, _⟩ := own_at hown5 (by intro e; have := congrArg List.length e; rw [List.length_append] at this; simp at this)
  have HN5 := Lib.hid (HNB.out.below hb5 HLT.out)
  have HM5 := Lib.hid (HMwb.out.onBelow HLT.out hb5 (Nat.le_refl _))
  have HD5 := Lib.hid (deep_grown (n := n) (m := n + 1) HDG0.out hg5 hat5)
  have HO5 := Lib.hid hown5
  have hne4 : g4 ≠ gn := by have := HLT.out; omega
  refine hK.out _ _ (SI.out _ HM5.out) ?_
  clear hK K
  (try simp only [Act.put, zA4, zA5, zA6])
  clear hown5 hb5 hg5 hat5 HNB HMwb HDG0 HOG0 HRG0
  iterate 2
   (refine wpOT_step (o := ?_) ?_ ?_; rotate_left 1; (simp only [zA1, zA2, zA3]; with_reducible rfl))
   (first
    | (refine wpOT_skip (by rfl) ?_)
    | (refine wpOT_take (v := ?_) (by rfl) ?_ ?_; rotate_left 1; (intro wx hSx; go_simp; try with_reducible rfl)))
   (try simp only [Act.put, zA4, zA5, zA6])
  obtain ⟨own5, there5⟩ := own_fill HO5.out HNCS.out (ys := [.int .i64 6, .int .i64 0, .string s, .slice Y (nmd names rr).length dd, .slice none 0 0]) rfl
  refine wpOT_two ?_ ?_
  ·(refine wpOT_solo (o := ?_) ?_ ?_; rotate_left 1; (simp only [zA1, zA2, zA3]; with_reducible rfl))
   intro K hK
   rw [if_pos (by rfl)]
   refine wp_store_mid 28 _ _ rfl g4 (n * 5) #[.int .i64 6, .int .i64 0, .string s, .slice Y (nmd names rr).length dd, .slice none 0 0] rfl rfl there5 (node_info _ _ _ _ _) (by simp [Value.oneCell']) ?_
   have HM6 : Hid (Mv gn W1 (w5.setCells g4 (n * 5) [.int .i64 6, .int .i64 0, .string s, .slice Y (nmd names rr).length dd, .slice none 0 0])) := HM5.out.onBelow HLT.out (setCells_below (B := W1.heap.size) hg4B _ _) (Nat.le_refl _)
   have HN6 : Hid (RowAt (w5.setCells g4 (n * 5) [.int .i64 6, .int .i64 0, .string s, .slice Y (nmd names rr).length dd, .slice none 0 0]) gn 28 #[.int .i64 5, .int .i64 0, .string ⟨#[]⟩, .slice none 0 0, .slice X n d]) := (setCells_other _ _ _ _ _ hne4.symm).trans HN5.out
   have k4 : (w5.setCells g4 (n * 5) [.int .i64 6, .int .i64 0, .string s, .slice Y (nmd names rr).length dd, .slice none 0 0]).cell? ⟨gn, 4, none⟩ = some (.slice X n d) := (RowAt.cell HN6.out 4).trans rfl
   have f4 := HN6.out.free 4
   have HF := Lib.hid (SP.fin_a (f := f) (i := i) (u := .slice (some ⟨g4, 0, none⟩) (n + 1) d5) HLT.out hne4 hg4B HN6.out own5 (HD5.out.keep (Nat.le_of_eq (setCells_size _ _ _ _).symm) (fun k _ h => setCells_other _ _ _ _ _ (fun e => h.2 (by rw [e]; rfl))) (fun _ _ h => h)) HM6.out rfl HN.out)
   refine hK.out _ _ (SI.out _ HM6.out) ?_
   clear hK K own5 there5
   (try simp only [Act.put, zA4, zA5, zA6])
   generalize (w5.setCells g4 (n * 5) [.int .i64 6, .int .i64 0, .string s, .slice Y (nmd names rr).length dd, .slice none 0 0]) = w6 at *
   (refine wpOT_solo (o := ?_) ?_ ?_; rotate_left 1; (simp only [zA1, zA2, zA3]; with_reducible rfl))
   intro K hK
   go_simp
   refine hK.out _ _ (SI.out _ HF.out.1) ?_
   clear hK K
   (try simp only [Act.put, zA4, zA5, zA6])
   refine wpOT_done ?_
   go_wp2_with fail
   go_ret
   exact ⟨rfl, by rw [← HL3.out]; exact HF.out.2⟩
  ·have k4 : w5.cell? ⟨gn, 4, none⟩ = some (.slice X n d) := (RowAt.cell HN5.out 4).trans rfl
   have f4 := HN5.out.free 4
   (refine wpOT_solo (o := ?_) ?_ ?_; rotate_left 1; (simp only [zA1, zA2, zA3]; with_reducible rfl))
   intro K hK
   go_simp
   have HM6 : Hid (Mv gn W1 (w5.setCell ⟨gn, 4, none⟩ (.slice (some ⟨g4, 0, none⟩) (n + 1) d5))) := HM5.out.setCell (p := ⟨gn, 4, none⟩) (.inl rfl) HLT.out _
   have HN6 : Hid (RowAt (w5.setCell ⟨gn, 4, none⟩ (.slice (some ⟨g4, 0, none⟩) (n + 1) d5)) gn 28 #[.int .i64 5, .int .i64 0, .string ⟨#[]⟩, .slice none 0 0, .slice (some ⟨g4, 0, none⟩) (n + 1) d5]) := HN5.out.put 4 (.slice (some ⟨g4, 0, none⟩) (n + 1) d5)
   have HO6 := Lib.hid (own_like9 (w' := (w5.setCell ⟨gn, 4, none⟩ (.slice (some ⟨g4, 0, none⟩) (n + 1) d5))) HO5.out (fun k hk e => (Else.setCell w5 ⟨gn, 4, none⟩ (.slice (some ⟨g4, 0, none⟩) (n + 1) d5)).block k (by have h1 := HO5.out.lt k e; have h2 := HLT.out; show k ≠ gn; omega)))
   have HD6 := Lib.hid (HD5.out.keep (w' := (w5.setCell ⟨gn, 4, none⟩ (.slice (some ⟨g4, 0, none⟩) (n + 1) d5))) (ok' := fun k => W1.heap.size ≤ k ∧ (Value.slice (some ⟨g4, 0, none⟩) (n + 1) d5).ownBlock ≠ some k) (Nat.le_of_eq (Else.setCell w5 ⟨gn, 4, none⟩ (.slice (some ⟨g4, 0, none⟩) (n + 1) d5)).size.symm) (fun k hk h => (Else.setCell w5 ⟨gn, 4, none⟩ (.slice (some ⟨g4, 0, none⟩) (n + 1) d5)).block k (by have h2 := HLT.out; have h3 := h.1; show k ≠ gn; omega)) (fun _ _ h => h))
   refine hK.out _ _ (SI.out _ HM6.out) ?_
   clear hK K own5 there5 k4 f4
   (try simp only [Act.put, zA4, zA5, zA6])
   generalize (w5.setCell ⟨gn, 4, none⟩ (.slice (some ⟨g4, 0, none⟩) (n + 1) d5)) = w6 at *
   obtain ⟨own6, there6⟩ := own_fill HO6.out HNCS.out (ys := [.int .i64 6, .int .i64 0, .string s, .slice Y (nmd names rr).length dd, .slice none 0 0]) rfl
   (refine wpOT_solo (o := ?_) ?_ ?_; rotate_left 1; (simp only [zA1, zA2, zA3]; with_reducible rfl))
   intro K hK
   rw [if_pos (by rfl)]
   refine wp_store_mid 28 _ _ rfl g4 (n * 5) #[.int .i64 6, .int .i64 0, .string s, .slice Y (nmd names rr).length dd, .slice none 0 0] rfl rfl there6 (node_info _ _ _ _ _) (by simp [Value.oneCell']) ?_
   have HF := Lib.hid (SP.fin_b (f := f) (i := i) HLT.out hne4 hg4B HN6.out own6 HD6.out HM6.out HN.out)
   refine hK.out _ _ (SI.out _ HF.out.1) ?_
   clear hK K own6 there6
   (try simp only [Act.put, zA4, zA5, zA6])
   refine wpOT_done ?_
   go_wp2_with fail
   go_ret
   exact ⟨rfl, by rw [← HL3.out]; exact HF.out.2⟩
end Go.Proofs.YtkgonoejnochjaaGreatDoor
namespace Go.Proofs.YtkgonoejnochjaaGreatDoor
open Go.RowKit LX TR TM SP RM
theorem SP.kdK_2 {f : Fac} (h : f.kind = 2) : kdK f = 3 := by unfold kdK; rw [if_pos h]
theorem SP.kdK_3 {f : Fac} (h : f.kind = 3) : kdK f = 5 := by unfold kdK; rw [if_neg (by omega), if_pos h]
theorem SP.kdK_x {f : Fac} (h : f.kind ≠ 2) (h2 : f.kind ≠ 3) : kdK f = 2 := by unfold kdK; rw [if_neg h, if_neg h2]
set_option maxRecDepth 100000 in
set_option maxHeartbeats 6400000 in
theorem scon_any (f : Fac) (v : Nat) (hv : v < 18446744073709551616) (w : World) (hT : Tab w) (hf : FacOk w f) (h1 : facB f = true) (h2 : wordB f v = true) :
 Calls Tryz.prog 27 #[.agg (fv f), .int .u64 (v : Int)] w fun e w' => ∃ x, e = .returned x ∧ NodeV w' w.heap.size (conN f v) x ∧ Below w.heap.size w w' := by
 have hn64 := (facB_len h1).2
 have hmf : ∀ (fn : Fn) (first cap : Array Value) (w : World), (Instr.makeFunc fn first cap).run Tryz.prog w = .ok (.func fn first cap) w := fun _ _ _ _ => rfl
 have HKI : Hid (∀ W, Calls Tryz.prog 43 #[.agg (fv f)] W fun e w' => e = .returned (.int .i64 (kdK f)) ∧ Below W.heap.size W w') := fun W => skind_any f W hf.rows
 have HC : Hid (∀ W, RowAt W w.heap.size 51 (fv f) → W.cell? ⟨w.heap.size, 0, none⟩ = some (.int .i64 f.kind) ∧ W.cell? ⟨w.heap.size, 1, none⟩ = some (.slice f.A f.names.length f.c) ∧ W.cell? ⟨w.heap.size, 2, none⟩ = some (.int .i64 f.n) ∧ W.rangeAt w.heap.size 2 (rvl f.n f.l)) := fun W h => fac_cells h
 have HTB : Hid (∀ W, Below w.heap.size w W → Tab W ∧ FacOk W f) := fun W h => ⟨hT.below h, hf.below h⟩
 have HST : Hid (∀ i, i < f.names.length → ∃ bb o, f.A = some ⟨bb, o, none⟩ ∧ bb < w.heap.size ∧ w.cell? ⟨bb, o + i, none⟩ = some (.string (f.names.getD i ⟨#[]⟩))) := fun i hi => by
  obtain ⟨bb, o, hA, hbb, hcs⟩ := Sl.at_ hf.strs (by
   intro h0
   have h1 := congrArg List.length h0
   unfold scells at h1
   rw [List.length_map] at h1
   simp at h1
   rw [h1] at hi
   simp at hi)
  exact ⟨bb, o, hA, hbb, hcs i _ (by
   unfold scells
   rw [List.getElem?_map, List.getD_eq_getElem?_getD, List.getElem?_eq_getElem hi]; rfl)⟩
 have hl := hf.rows
 have hkind : f.kind = 1 ∨ f.kind = 2 ∨ f.kind = 3 ∨ f.kind = 4 := by
  rcases facB_kind h1 with h | h | h | h
  ·exact .inl h
  ·exact .inr (.inl h)
  ·exact .inr (.inr (.inl h.1))
  ·exact .inr (.inr (.inr h.1))
 have HPT : Hid (f.kind ≠ 2 → f.kind ≠ 3 → ∃ k : Nat, ptK f v = (k : Int) ∧ k < f.names.length) := fun a b => pt_fits h1 h2 a b
 have HSB : Hid (f.kind = 2 → ∀ i, v.testBit i = true → i < f.names.length) := fun hk => by
  unfold wordB at h2
  rw [if_neg (by omega), if_pos hk] at h2
  exact set_bits hv h2
 have HPN : Hid (f.kind = 3 → pts f.n = f.names.length) := fun hk => by
  have hr : relB f.kind f.n f.l f.names.length = true := by
   unfold facB at h1
   exact (Bool.and_eq_true_iff.1 h1).2
  rw [hk, relB_3] at hr
  exact of_decide_eq_true (Bool.and_eq_true_iff.1 hr).1
 have HG1 : Hid (f.kind = 2 → kdK f = 3 ∧ conN f v = nd 3 0 ⟨#[]⟩ (nmd f.names v) []) := fun hk => ⟨kdK_2 hk, by unfold conN; rw [if_pos hk]⟩
 have HG2 : Hid (f.kind = 3 → kdK f = 5 ∧ conN f v = nd 5 0 ⟨#[]⟩ [] (rulTo f.names f.n f.l v f.names.length)) := fun hk => ⟨kdK_3 hk, by unfold conN; rw [if_neg (by omega), if_pos hk]⟩
 have HG3 : Hid (f.kind ≠ 2 → f.kind ≠ 3 → kdK f = 2 ∧ conN f v = nd 2 0 (f.names.getD (ptK f v).toNat ⟨#[]⟩) [] []) := fun a b => ⟨kdK_x a b, by unfold conN; rw [if_neg a, if_neg b]⟩
 have hf0 := ((RowAt.new w 51 (fv f)).alloc (.cells #[.int .u64 (v : Int)] 32)).alloc (.cells #[.int .i64 0, .int .i64 0, .string ⟨#[]⟩, .slice none 0 0, .slice none 0 0] 28)
 have hv0 := (Box.new (w.alloc (.cells (fv f) 51)) 32 (.int .u64 (v : Int))).alloc (.cells #[.int .i64 0, .int .i64 0, .string ⟨#[]⟩, .slice none 0 0, .slice none 0 0] 28)
 have hr0 := RowAt.new ((w.alloc (.cells (fv f) 51)).alloc (.cells #[.int .u64 (v : Int)] 32)) 28 #[.int .i64 0, .int .i64 0, .string ⟨#[]⟩, .slice none 0 0, .slice none 0 0]
 rw [show (w.alloc (.cells (fv f) 51)).heap.size = w.heap.size + 1 by simp] at hv0
 rw [show ((w.alloc (.cells (fv f) 51)).alloc (.cells #[.int .u64 (v : Int)] 32)).heap.size = w.heap.size + 2 by simp] at hr0
 have HFw1 := Lib.hid hf0
 have HVw1 := Lib.hid hv0
 have HRw1 := Lib.hid hr0
 have HBw1 : Hid (Below w.heap.size w (((w.alloc (.cells (fv f) 51)).alloc (.cells #[.int .u64 (v : Int)] 32)).alloc (.cells #[.int .i64 0, .int .i64 0, .string ⟨#[]⟩, .slice none 0 0, .slice none 0 0] 28))) := (((Below.refl _ _).alloc (Nat.le_refl _) _).alloc (by simp) _).alloc (by simp; omega) _
 clear hf0 hv0 hr0 hf hT h1 h2
 generalize kdK f = kq at *
 generalize conN f v = CN at *
 refine calls_hid fun Q' hQ => ?_
 have HQ := Lib.hid hQ; clear hQ
 go_enter Tryz.func27, Tryz.ntmps27
 go_upto_region 1 with fail
 generalize (((w.alloc (.cells (fv f) 51)).alloc (.cells #[.int .u64 (v : Int)] 32)).alloc (.cells #[.int .i64 0, .int .i64 0, .string ⟨#[]⟩, .slice none 0 0, .slice none 0 0] 28)) = w1 at *
 go_wp2_with (refine wpList_loadFac (by rfl) _ rfl w.heap.size rfl f hl HFw1.out ?_)
 refine (HKI.out w1).mono ?_
 rintro e w2 ⟨rfl, hb⟩
 have HF2 := Lib.hid (HFw1.out.below hb HFw1.out.lt)
 have HV2 := Lib.hid (HVw1.out.below hb HVw1.out.lt)
 have HR2 := Lib.hid (HRw1.out.below hb HRw1.out.lt)
 have HB2 := Lib.hid (HBw1.out.trans (hb.mono HBw1.out.size))
 clear hb HFw1 HVw1 HRw1 HBw1 HKI
 go_upto_region 2 with fail
 have HFw3 := Lib.hid (HF2.out.alloc (.cells #[.int .i64 kq, .int .i64 0, .string ⟨#[]⟩, .slice none 0 0, .slice none 0 0] 28))
 have HVw3 := Lib.hid (HV2.out.alloc (.cells #[.int .i64 kq, .int .i64 0, .string ⟨#[]⟩, .slice none 0 0, .slice none 0 0] 28))
 have HRw3 := Lib.hid (HR2.out.alloc (.cells #[.int .i64 kq, .int .i64 0, .string ⟨#[]⟩, .slice none 0 0, .slice none 0 0] 28))
 have HNw3 := Lib.hid (RowAt.new w2 28 #[.int .i64 kq, .int .i64 0, .string ⟨#[]⟩, .slice none 0 0, .slice none 0 0])
 have HBw3 := Lib.hid (HB2.out.alloc HB2.out.size (.cells #[.int .i64 kq, .int .i64 0, .string ⟨#[]⟩, .slice none 0 0, .slice none 0 0] 28))
 have hgn : w.heap.size + 2 < w2.heap.size := HR2.out.lt
 clear HF2 HV2 HR2 HB2
 generalize w2.alloc (.cells #[.int .i64 kq, .int .i64 0, .string ⟨#[]⟩, .slice none 0 0, .slice none 0 0] 28) = w3 at *
 generalize w2.heap.size = gn at *
 have hlt3 : gn < w3.heap.size := HNw3.out.lt
 obtain ⟨c0, c1, c2, c3⟩ := HC.out _ HFw3.out
 have cv := HVw3.out.cell
 generalize hKD : f.kind = kd at *
 have HKD := Lib.hid hKD; clear hKD
 rcases hkind with hk | hk | hk | hk
 ·have t1 : (kd == 1) = true := by simp [hk]
  obtain ⟨k, hpk, hkn⟩ := HPT.out (by omega) (by omega)
  obtain ⟨rfl, hCN⟩ := HG3.out (by omega) (by omega)
  rw [hpk, Int.toNat_natCast] at hCN
  have hp2 : RG.lv f.names.length v = (k : Int) := by
   have h5 := hpk
   unfold ptK at h5
   rw [if_neg (by rw [HKD.out]; omega)] at h5
   exact h5
  have HLV := Lib.hid (rungLevel_any (f.names.length : Int) v hv w3)
  rw [hp2] at HLV
  obtain ⟨bb, o, hA, hbb, hci⟩ := HST.out k hkn
  have hci3 := (below_cell HBw3.out hbb).trans hci
  have HCN := Lib.hid hCN
  clear hk hpk hp2 hCN hci HG1 HG2 HG3 HPT HSB HPN HST HKD
  generalize RG.lvB f.names.length v = lb at *
  generalize f.names.getD k ⟨#[]⟩ = s at *
  generalize f.names.length = nn at *
  rw [hA] at c1
  have hin : (k : Int) < (nn : Int) := by omega
  obtain ⟨g0, g1, g2, g3, g4, y0, y1, y2, y3, y4⟩ := row5 HNw3.out
  go_wp2_with fail
  refine HLV.out.mono ?_
  rintro e w4 ⟨rfl, rfl⟩
  go_upto_region 13 with fail
  have HFw4 := Lib.hid (HFw3.out.far (p := ⟨gn, 2, none⟩) (by show gn ≠ w.heap.size; omega) (.string s))
  have HRw4 := Lib.hid (HRw3.out.far (p := ⟨gn, 2, none⟩) (by show gn ≠ w.heap.size + 2; omega) (.string s))
  have HNw4 : Hid (RowAt (w3.setCell ⟨gn, 2, none⟩ (.string s)) gn 28 #[.int .i64 2, .int .i64 0, .string s, .slice none 0 0, .slice none 0 0]) := HNw3.out.put 2 (.string s)
  have HBw4 := Lib.hid (HBw3.out.setCell (p := ⟨gn, 2, none⟩) (by show w.heap.size ≤ gn; omega) (.string s))
  clear c0 c1 c2 c3 g0 g1 g2 g3 g4 y0 y1 y2 y3 y4 HFw3 HRw3 HNw3 HBw3 cv hci3
  generalize w3.setCell ⟨gn, 2, none⟩ (.string s) = w4 at *
  obtain ⟨m0, m1, m2, m3, m4, _, _, _, _, _⟩ := row5 HNw4.out
  obtain ⟨r0, r1, r2, r3, r4, u0, u1, u2, u3, u4⟩ := row5 HRw4.out
  go_wp2_with fail
  change bodyPost _ _ _ _ _ (set5 w4 (w.heap.size + 2) (.int .i64 2) (.int .i64 0) (.string s) (.slice none 0 0) (.slice none 0 0))
  have hrow := set5_row (a0 := .int .i64 2) (b0 := .int .i64 0) (c0 := .string s) (d0 := (.slice none 0 0)) (e0 := (.slice none 0 0)) HRw4.out
  have hbf := HBw4.out.trans (set5_below (a0 := .int .i64 2) (b0 := .int .i64 0) (c0 := .string s) (d0 := (.slice none 0 0)) (e0 := (.slice none 0 0)) (w := w4) (b := w.heap.size) (g := w.heap.size + 2) (by omega))
  exact bodyPost_ret (ret_cell rfl _ _ (w.heap.size + 2) _ _ (0, 0) _ rfl hrow Tryz.underlying28 rfl (node_info _ _ _ _ _)) rfl (HQ.out _ _ ⟨_, rfl, (by rw [HCN.out]; exact nodeV_leaf _ _ _ _ _), hbf⟩)
 ·have t1 : (kd == 1) = false := by simp [hk]
  have t2 : (kd == 2) = true := by simp [hk]
  obtain ⟨rfl, hCN⟩ := HG1.out hk
  have HND := Lib.hid (snamed_any f v hv (HSB.out hk) hn64 w3 (HTB.out w3 HBw3.out).1 (HTB.out w3 HBw3.out).2)
  have HCN := Lib.hid hCN
  clear hk hCN HG1 HG2 HG3 HPT HSB HPN HST HKD
  generalize nmd f.names v = NS at *
  go_wp2_with (refine wpList_loadFac (by rfl) _ rfl w.heap.size rfl f hl HFw3.out ?_)
  refine HND.out.mono ?_
  rintro e w4 ⟨Y, dd, rfl, hd, hsl, hb⟩
  have HSL := Lib.hid hsl
  have hs4 := hb.size
  clear hsl
  have HFw4 := Lib.hid (HFw3.out.below hb HFw3.out.lt)
  have HVw4 := Lib.hid (HVw3.out.below hb HVw3.out.lt)
  have HRw4 := Lib.hid (HRw3.out.below hb HRw3.out.lt)
  have HNw4 := Lib.hid (HNw3.out.below hb HNw3.out.lt)
  have HBw4 := Lib.hid (HBw3.out.trans (hb.mono HBw3.out.size))
  clear hb
  clear c0 c1 c2 c3 cv
  obtain ⟨g0, g1, g2, g3, g4, y0, y1, y2, y3, y4⟩ := row5 HNw4.out
  go_upto_region 13 with fail
  have HSL5 : Hid (SlC (w4.setCell ⟨gn, 3, none⟩ (.slice Y NS.length dd)) (fun k => w3.heap.size ≤ k) Y (wcs NS)) := HSL.out.keep (Nat.le_of_eq (Else.setCell w4 ⟨gn, 3, none⟩ (.slice Y NS.length dd)).size.symm) (fun k _ hk => (Else.setCell w4 ⟨gn, 3, none⟩ (.slice Y NS.length dd)).block k (by show k ≠ gn; omega)) (fun _ _ h => h)
  have HRw5 := Lib.hid (HRw4.out.far (p := ⟨gn, 3, none⟩) (by show gn ≠ w.heap.size + 2; omega) (.slice Y NS.length dd))
  have HNw5 : Hid (RowAt (w4.setCell ⟨gn, 3, none⟩ (.slice Y NS.length dd)) gn 28 #[.int .i64 3, .int .i64 0, .string ⟨#[]⟩, .slice Y NS.length dd, .slice none 0 0]) := HNw4.out.put 3 (.slice Y NS.length dd)
  have HBw5 := Lib.hid (HBw4.out.setCell (p := ⟨gn, 3, none⟩) (by show w.heap.size ≤ gn; omega) (.slice Y NS.length dd))
  clear g0 g1 g2 g3 g4 y0 y1 y2 y3 y4 HFw4 HRw4 HNw4 HBw4 HVw4 HSL
  generalize w4.setCell ⟨gn, 3, none⟩ (.slice Y NS.length dd) = w5 at *
  obtain ⟨m0, m1, m2, m3, m4, _, _, _, _, _⟩ := row5 HNw5.out
  obtain ⟨r0, r1, r2, r3, r4, u0, u1, u2, u3, u4⟩ := row5 HRw5.out
  go_wp2_with fail
  change bodyPost _ _ _ _ _ (set5 w5 (w.heap.size + 2) (.int .i64 3) (.int .i64 0) (.string ⟨#[]⟩) (.slice Y NS.length dd) (.slice none 0 0))
  have hrow := set5_row (a0 := .int .i64 3) (b0 := .int .i64 0) (c0 := .string ⟨#[]⟩) (d0 := (.slice Y NS.length dd)) (e0 := (.slice none 0 0)) HRw5.out
  have hbf := HBw5.out.trans (set5_below (a0 := .int .i64 3) (b0 := .int .i64 0) (c0 := .string ⟨#[]⟩) (d0 := (.slice Y NS.length dd)) (e0 := (.slice none 0 0)) (w := w5) (b := w.heap.size) (g := w.heap.size + 2) (by omega))
  exact bodyPost_ret (ret_cell rfl _ _ (w.heap.size + 2) _ _ (0, 0) _ rfl hrow Tryz.underlying28 rfl (node_info _ _ _ _ _)) rfl (HQ.out _ _ ⟨_, rfl, (by rw [HCN.out]; exact nodeV_names trivial hd (set5_slc HSL5.out fun k _ h8 => ⟨by omega, by omega⟩)), hbf⟩)
 ·have t1 : (kd == 1) = false := by simp [hk]
  have t2 : (kd == 2) = false := by simp [hk]
  have t3 : (kd == 3) = true := by simp [hk]
  obtain ⟨rfl, hCN⟩ := HG2.out hk
  have hpt := HPN.out hk
  rw [rul_els hpt hn64] at hCN
  have HCN := Lib.hid hCN
  have HOW := Lib.hid (gowners_any f.n f.l hl v hv w3)
  have howl := gOwners_lt f.n f.l v
  have h64e := MM.els_length (gOwners f.n f.l v)
  have HBI : Hid (∀ j, j < (MM.els (gOwners f.n f.l v)).length → (MM.els (gOwners f.n f.l v)).getD j 0 < f.names.length) := fun j hj => by
   show _ < _
   rw [← hpt]
   exact (ow_bits (els_bit hj).1).1
  clear hk hCN HG1 HG2 HG3 HPT HSB HPN HKD
  go_wp2_with (refine wpList_loadRelIn (by rfl) _ rfl w.heap.size 2 rfl f.n f.l hl c3 ?_)
  refine HOW.out.mono ?_
  rintro e w4 ⟨rfl, hb⟩
  have hs4 := hb.size
  have HFw4 := Lib.hid (HFw3.out.below hb HFw3.out.lt)
  have HVw4 := Lib.hid (HVw3.out.below hb HVw3.out.lt)
  have HRw4 := Lib.hid (HRw3.out.below hb HRw3.out.lt)
  have HNw4 := Lib.hid (HNw3.out.below hb HNw3.out.lt)
  have HBw4 := Lib.hid (HBw3.out.trans (hb.mono HBw3.out.size))
  clear hb
  clear c0 c1 c2 c3 cv
  generalize gOwners f.n f.l v = OW at *
  go_wp2_with fail
  refine (each_any OW howl 60 #[.pointer (some ⟨w.heap.size, 0, none⟩), .pointer (some ⟨w.heap.size + 1, 0, none⟩), .pointer (some ⟨gn, 0, none⟩)] w4 (fun _ _ => by kernel_rfl) (fun j W => GotN gn w4 (((MM.els OW).take j).map (rulN f.names f.n f.l v)) W) (fun W => GotN gn w4 ((MM.els OW).map (rulN f.names f.n f.l v)) W)
   (fun j W h => (HTB.out W (by obtain ⟨_, _, _, _, _, _, _, h⟩ := h; exact HBw4.out.trans (h.low.mono (by omega)))).1) ⟨[], none, 0, HNw4.out, by rw [List.take_zero, TM.er]; rfl, World.ownsRow_nil _ _ _ _, DeepN.nil _ _, Mv.refl _ _⟩ (fun W h => by rw [List.take_length] at h; exact h) ?_).mono ?_
  ·intro j W hj h
   obtain ⟨bb, o, hA, hbb, hci⟩ := HST.out _ (HBI.out j hj)
   refine (sconstant1_any gn w.heap.size (w.heap.size + 1) w4 f v hv HFw4.out HVw4.out (by omega) (by omega) HNw4.out.lt bb o hA (by omega) (by omega) (fun W hm => HTB.out W (HBw4.out.trans (hm.low.mono (by omega)))) hpt hn64 _ ?_ ((MM.els OW).getD j 0) (HBI.out j hj) ((below_cell HBw4.out hbb).trans hci) W h).mono ?_
   ·rw [List.length_map, List.length_take]; omega
   ·rintro e W' ⟨rfl, hG⟩
    exact .inl ⟨rfl, by rw [map_take _ _ _ hj]; exact hG⟩
  ·rintro e w5 ⟨rfl, zs, X, d, hrow, her, hown, hdeep, hm⟩
   have HRw5 := Lib.hid (HRw4.out.mv hm (by omega))
   have HNw5 := Lib.hid hrow
   have HBw5 := Lib.hid (HBw4.out.trans (hm.low.mono (by omega)))
   have HER := Lib.hid her
   have HO := Lib.hid hown
   have HD := Lib.hid hdeep
   have hlt4 : gn < w4.heap.size := HNw4.out.lt
   clear hrow her hown hdeep hm HFw4 HVw4 HRw4 HNw4 HBw4
   obtain ⟨m0, m1, m2, m3, m4, _, _, _, _, _⟩ := row5 HNw5.out
   obtain ⟨r0, r1, r2, r3, r4, u0, u1, u2, u3, u4⟩ := row5 HRw5.out
   go_wp2_with fail
   change bodyPost _ _ _ _ _ (set5 w5 (w.heap.size + 2) (.int .i64 5) (.int .i64 0) (.string ⟨#[]⟩) (.slice none 0 0) (.slice X zs.length d))
   have hrow := set5_row (a0 := .int .i64 5) (b0 := .int .i64 0) (c0 := .string ⟨#[]⟩) (d0 := (.slice none 0 0)) (e0 := (.slice X zs.length d)) HRw5.out
   have hbf := HBw5.out.trans (set5_below (a0 := .int .i64 5) (b0 := .int .i64 0) (c0 := .string ⟨#[]⟩) (d0 := (.slice none 0 0)) (e0 := (.slice X zs.length d)) (w := w5) (b := w.heap.size) (g := w.heap.size + 2) (by omega))
   exact bodyPost_ret (ret_cell rfl _ _ (w.heap.size + 2) _ _ (0, 0) _ rfl hrow Tryz.underlying28 rfl (node_info _ _ _ _ _)) rfl (HQ.out _ _ ⟨_, rfl, (by rw [HCN.out, ← HER.out]; exact nodeV_kids (own_cap_le HO.out) (set5_slc (SlC.of_own HO.out (ok := fun k => w4.heap.size ≤ k) fun k h _ => h) fun k _ h8 => ⟨by omega, by omega⟩) (set5_deep HD.out fun k _ h8 => ⟨by have := h8.1; omega, by have := h8.1; omega⟩)), hbf⟩)
 ·have t1 : (kd == 1) = false := by simp [hk]
  have t2 : (kd == 2) = false := by simp [hk]
  have t3 : (kd == 3) = false := by simp [hk]
  have t4 : (kd == 4) = true := by simp [hk]
  obtain ⟨k, hpk, hkn⟩ := HPT.out (by omega) (by omega)
  obtain ⟨rfl, hCN⟩ := HG3.out (by omega) (by omega)
  rw [hpk, Int.toNat_natCast] at hCN
  have hp2 : (((ptO f.n f.l v).getD 0 : Nat) : Int) = (k : Int) := by
   have h5 := hpk
   unfold ptK at h5
   rw [if_pos (by rw [HKD.out]; omega)] at h5
   exact h5
  have HLV := Lib.hid (hpoint_any f.n f.l hl v w3)
  obtain ⟨bb, o, hA, hbb, hci⟩ := HST.out k hkn
  have HCN := Lib.hid hCN
  have HP2 := Lib.hid hp2
  clear hk hpk hp2 hCN HG1 HG2 HG3 HPT HSB HPN HST HKD
  generalize ptO f.n f.l v = po at *
  generalize hnk : f.names.getD k ⟨#[]⟩ = s at *
  clear hnk
  go_wp2_with (refine wpList_loadRelIn (by rfl) _ rfl w.heap.size 2 rfl f.n f.l hl c3 ?_)
  refine HLV.out.mono ?_
  rintro e w4 ⟨rfl, hb⟩
  have HFw4 := Lib.hid (HFw3.out.below hb HFw3.out.lt)
  have HVw4 := Lib.hid (HVw3.out.below hb HVw3.out.lt)
  have HRw4 := Lib.hid (HRw3.out.below hb HRw3.out.lt)
  have HNw4 := Lib.hid (HNw3.out.below hb HNw3.out.lt)
  have HBw4 := Lib.hid (HBw3.out.trans (hb.mono HBw3.out.size))
  clear hb
  clear c0 c1 c2 c3 cv
  obtain ⟨c0, c1, c2, c3⟩ := HC.out _ HFw4.out
  have hci3 := (below_cell HBw4.out hbb).trans hci
  clear hci
  unfold optV
  rw [HP2.out]
  generalize po.isSome = pb
  generalize f.names.length = nn at *
  rw [hA] at c1
  have hin : (k : Int) < (nn : Int) := by omega
  obtain ⟨g0, g1, g2, g3, g4, y0, y1, y2, y3, y4⟩ := row5 HNw4.out
  go_upto_region 13 with fail
  have HRw5 := Lib.hid (HRw4.out.far (p := ⟨gn, 2, none⟩) (by show gn ≠ w.heap.size + 2; omega) (.string s))
  have HNw5 : Hid (RowAt (w4.setCell ⟨gn, 2, none⟩ (.string s)) gn 28 #[.int .i64 2, .int .i64 0, .string s, .slice none 0 0, .slice none 0 0]) := HNw4.out.put 2 (.string s)
  have HBw5 := Lib.hid (HBw4.out.setCell (p := ⟨gn, 2, none⟩) (by show w.heap.size ≤ gn; omega) (.string s))
  clear c0 c1 c2 c3 g0 g1 g2 g3 g4 y0 y1 y2 y3 y4 HFw4 HRw4 HNw4 HBw4 HVw4 hci3
  generalize w4.setCell ⟨gn, 2, none⟩ (.string s) = w5 at *
  obtain ⟨m0, m1, m2, m3, m4, _, _, _, _, _⟩ := row5 HNw5.out
  obtain ⟨r0, r1, r2, r3, r4, u0, u1, u2, u3, u4⟩ := row5 HRw5.out
  go_wp2_with fail
  change bodyPost _ _ _ _ _ (set5 w5 (w.heap.size + 2) (.int .i64 2) (.int .i64 0) (.string s) (.slice none 0 0) (.slice none 0 0))
  have hrow := set5_row (a0 := .int .i64 2) (b0 := .int .i64 0) (c0 := .string s) (d0 := (.slice none 0 0)) (e0 := (.slice none 0 0)) HRw5.out
  have hbf := HBw5.out.trans (set5_below (a0 := .int .i64 2) (b0 := .int .i64 0) (c0 := .string s) (d0 := (.slice none 0 0)) (e0 := (.slice none 0 0)) (w := w5) (b := w.heap.size) (g := w.heap.size + 2) (by omega))
  exact bodyPost_ret (ret_cell rfl _ _ (w.heap.size + 2) _ _ (0, 0) _ rfl hrow Tryz.underlying28 rfl (node_info _ _ _ _ _)) rfl (HQ.out _ _ ⟨_, rfl, (by rw [HCN.out]; exact nodeV_leaf _ _ _ _ _), hbf⟩)
end Go.Proofs.YtkgonoejnochjaaGreatDoor
namespace Go.Proofs.YtkgonoejnochjaaGreatDoor
open Go.RowKit LX TR TM SP RM
def SP.GotK (gn : Nat) (k : Int) (W1 : World) (l : List Nd) (W : World) : Prop :=
 ∃ zs X d, RowAt W gn 28 #[.int .i64 k, .int .i64 0, .string ⟨#[]⟩, .slice none 0 0, .slice X zs.length d] ∧ TM.er zs = l ∧ W.ownsRow W1.heap.size 28 5 (.slice X zs.length d) zs.length (ncs zs) ∧ DeepN W (fun k => W1.heap.size ≤ k ∧ (Value.slice X zs.length d).ownBlock ≠ some k) zs ∧ Mv gn W1 W
theorem SP.finK {gn n d d5 : Nat} {k : Int} {X X5 : Option Addr} {W1 w6 : World} {zs : List Nd} {z : Nd} (hlt : gn < W1.heap.size) (hn : RowAt w6 gn 28 #[.int .i64 k, .int .i64 0, .string ⟨#[]⟩, .slice none 0 0, .slice X n d])
 (ho : w6.ownsRow W1.heap.size 28 5 (.slice X5 (zs.length + 1) d5) (zs.length + 1) (ncs zs ++ ncells z))
 (hd : DeepN w6 (fun k => W1.heap.size ≤ k ∧ (Value.slice X5 (zs.length + 1) d5).ownBlock ≠ some k) (zs ++ [z])) (hm : Mv gn W1 w6) :
 Mv gn W1 (w6.setCell ⟨gn, 4, none⟩ (.slice X5 (zs.length + 1) d5)) ∧ GotK gn k W1 (TM.er (zs ++ [z])) (w6.setCell ⟨gn, 4, none⟩ (.slice X5 (zs.length + 1) d5)) := by
 have hm2 := hm.setCell (p := ⟨gn, 4, none⟩) (.inl rfl) hlt (.slice X5 (zs.length + 1) d5)
 have hl : (zs ++ [z]).length = zs.length + 1 := by rw [List.length_append]; rfl
 have he := Else.setCell w6 ⟨gn, 4, none⟩ (.slice X5 (zs.length + 1) d5)
 refine ⟨hm2, zs ++ [z], X5, d5, ?_, rfl, ?_, ?_, hm2⟩
 ·rw [hl]
  exact hn.put 4 (.slice X5 (zs.length + 1) d5)
 ·rw [hl, ncs_append, ncs_one]
  exact own_like9 ho (fun k hk e => he.block k (by have h1 := ho.lt k e; show k ≠ gn; omega))
 ·rw [hl]
  exact hd.keep (Nat.le_of_eq he.size.symm) (fun k hk h => he.block k (by have h3 := h.1; show k ≠ gn; omega)) (fun _ _ h => h)
theorem SP.one_nf {t : Bool} {fs : List Fac} {e : List Nat} (h : fitsE t fs e = true) (ht : t = false) : fs.length = 1 := by
 unfold fitsE at h
 have hr := (Bool.and_eq_true_iff.1 h).1
 unfold rightS at hr
 simp only [Bool.and_eq_true, decide_eq_true_eq, Bool.or_eq_true] at hr
 rcases hr.1.2 with h3 | h3
 ·rw [ht] at h3; cases h3
 ·exact h3
end Go.Proofs.YtkgonoejnochjaaGreatDoor

