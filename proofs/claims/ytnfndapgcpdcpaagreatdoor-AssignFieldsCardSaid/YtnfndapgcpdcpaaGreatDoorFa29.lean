/- Texts that all the claims need. Conditions: those that each states. -/

import Derived.Test.YtnfndapgcpdcpaaGreatDoorFa26
import Derived.Test.YtnfndapgcpdcpaaGreatDoorFa28
set_option linter.unusedSimpArgs false
set_option linter.unusedVariables false
set_option maxRecDepth 100000
set_option maxHeartbeats 40000000
namespace Go.Proofs.YtnfndapgcpdcpaaGreatDoor
section
namespace SP
open TM
theorem vol_nd (k p : Int) (s : ByteArray) (ws : List Wd) (ks : List Nd) : vol [nd k p s ws ks] = 1 + s.size + (ws.map fun x => x.s.size + 1).sum + vol ks := by
 unfold nd
 rw [vol, vol, Nat.add_zero]
theorem ws_le : ∀ {ws : List Wd}, (∀ x ∈ ws, x.s.size ≤ 16) → (ws.map fun x => x.s.size + 1).sum ≤ 17 * ws.length
 | [], _ => zL _
 | x :: r, h => by
   have h1 := h x (by simp)
   have h2 := ws_le (ws := r) fun y hy => h y (by simp [hy])
   rw [List.map_cons, List.sum_cons, zA8]
   omega
theorem vol_le {B : Nat} : ∀ {l : List Nd}, (∀ z ∈ l, vol [z] ≤ B) → vol l ≤ l.length * B
 | [], _ => by rw [vol]; omega
 | x :: r, h => by
   have h1 := h x (by simp)
   have h2 := vol_le (l := r) fun y hy => h y (by simp [hy])
   rw [vol_cons, zA8, Nat.add_mul]
   omega
theorem name_le {f : Fac} (h : facB f = true) (j : Nat) : (f.names.getD j ⟨#[]⟩).size ≤ 16 := by
 have hn : namedB f.names = true := by
  unfold facB at h
  exact (Bool.and_eq_true_iff.1 h).1
 unfold namedB at hn
 simp only [Bool.and_eq_true, List.all_eq_true] at hn
 rw [List.getD_eq_getElem?_getD]
 cases hg : f.names[j]? with
 | none => exact Nat.zero_le _
 | some s =>
   have h1 := hn.1.2 s (List.mem_of_getElem? hg)
   unfold NM.right at h1
   simp only [Bool.and_eq_true, decide_eq_true_eq] at h1
   exact h1.1.1.2
theorem nmd_vol {f : Fac} (h : facB f = true) (v : Nat) : ((nmd f.names v).map fun x => x.s.size + 1).sum ≤ 1088 := by
 have h1 := ws_le (ws := nmd f.names v) fun x hx => by
  unfold nmd nmdTo at hx
  obtain ⟨j, _, rfl⟩ := List.mem_map.1 hx
  exact name_le h j
 have h2 := nmd_le f.names v f.names.length
 have h3 := (facB_len h).2
 unfold nmd at h1 ⊢
 omega
theorem rul_vol {f : Fac} (h : facB f = true) (v : Nat) : vol (rulTo f.names f.n f.l v f.names.length) ≤ 70720 := by
 have h1 := vol_le (B := 1105) (l := rulTo f.names f.n f.l v f.names.length) fun z hz => by
  unfold rulTo at hz
  obtain ⟨j, _, rfl⟩ := List.mem_map.1 hz
  rw [vol_nd, vol]
  have h2 := name_le h j
  have h3 := nmd_vol h (gReaders f.n f.l v (j : Int))
  omega
 have h4 : (rulTo f.names f.n f.l v f.names.length).length ≤ f.names.length := by
  unfold rulTo
  rw [List.length_map]
  have := List.length_filter_le (fun j : Nat => MM.hasN (gOwners f.n f.l v) (j : Int)) (List.range f.names.length)
  rw [List.length_range] at this
  exact this
 have h5 := (facB_len h).2
 have h6 : (rulTo f.names f.n f.l v f.names.length).length * 1105 ≤ 64 * 1105 := Nat.mul_le_mul_right _ (by omega)
 omega
theorem con_vol {f : Fac} (h : facB f = true) (v : Nat) : vol [conN f v] ≤ 80000 := by
 unfold conN
 by_cases h2 : f.kind = 2
 ·rw [if_pos h2, vol_nd, vol]
  have := nmd_vol h v
  show 1 + 0 + _ + _ ≤ _
  omega
 ·rw [if_neg h2]
  by_cases h3 : f.kind = 3
  ·rw [if_pos h3, vol_nd]
   have := rul_vol h v
   show 1 + 0 + 0 + _ ≤ _
   omega
  ·rw [if_neg h3, vol_nd, vol]
   have := name_le h (ptK f v).toNat
   show 1 + _ + 0 + _ ≤ _
   omega
theorem node_vol (t : Bool) (fs : List Fac) (e : List Nat) : vol [nodeE t fs e] ≤ 1000000 := by
 unfold nodeE
 by_cases h : fitsE t fs e = true
 ·rw [if_pos h]
  obtain ⟨⟨h1, h8⟩, hs⟩ := fits_slot h
  by_cases h2 : t = true
  ·rw [if_pos h2, vol_nd]
   have h3 := vol_le (B := 80000) (l := (List.range fs.length).map fun i => conN (fs.getD i f0) (e.getD i 0)) fun z hz => by
        obtain ⟨j, hj, rfl⟩ := List.mem_map.1 hz
        exact con_vol (hs j (List.mem_range.1 hj)).1 _
   rw [List.length_map, List.length_range] at h3
   show 1 + 0 + 0 + _ ≤ _
   omega
  ·rw [if_neg h2]
   have := con_vol (hs 0 (by omega)).1 (e.getD 0 0)
   omega
 ·rw [if_neg h]
  unfold n0
  rw [vol_nd, vol]
  show 1 + 0 + 0 + 0 ≤ _
  omega
theorem cnt_er1 (y : Nd) : TM.cnt [er1 y] = TM.cnt [y] := by
 have h := TM.cnt_er [y]
 rw [er_one] at h
 exact h
end SP
open Go.RowKit LX TR TM SP RM
end
section
namespace SP
open TM RM
theorem tb64 {v i : Nat} (hv : v < 18446744073709551616) (h : v.testBit i = true) : i < 64 := by
 rcases Nat.lt_or_ge i 64 with hi | hi
 ·exact hi
 ·rw [Nat.testBit_lt_two_pow (zT hv (zM (by decide : 18446744073709551616 ≤ 2 ^ 64) (Nat.pow_le_pow_right (by decide) hi)))] at h
  cases h
theorem set_bits {m v : Nat} (hv : v < 18446744073709551616) (h : MM.subN v (MM.belowN (m : Int)) = true) : ∀ i, v.testBit i = true → i < m := fun i hi => by
 unfold MM.subN at h
 have h1 := List.all_eq_true.1 h i (MM.mem_els.2 ⟨tb64 hv hi, hi⟩)
 rw [belowN_bit] at h1
 simp only [Bool.and_eq_true, decide_eq_true_eq] at h1
 omega
theorem rd_bits {n : Int} {l : List Nat} {v i : Nat} {o : Int} (h : (gReaders n l v o).testBit i = true) : i < pts n := by
 unfold gReaders at h
 split at h
 ·rw [MM.ofP_bit] at h
  simp only [Bool.and_eq_true, decide_eq_true_eq] at h
  exact h.2.1
 ·simp at h
theorem ow_bits {n : Int} {l : List Nat} {v i : Nat} (h : (gOwners n l v).testBit i = true) : i < pts n ∧ i < 64 := by
 unfold gOwners at h
 split at h
 ·rw [MM.ofP_bit] at h
  simp only [Bool.and_eq_true, decide_eq_true_eq] at h
  exact ⟨h.2.1, h.1⟩
 ·simp at h
end SP
end
section
namespace SP
open TM RM
theorem flt_els {v m : Nat} (hb : ∀ i, v.testBit i = true → i < m) (h64 : m ≤ 64) : (List.range m).filter (fun j : Nat => MM.hasN v (j : Int)) = MM.els v := by
 unfold MM.els
 have h1 : List.range 64 = List.range m ++ (List.range (64 - m)).map (m + ·) := by
  rw [← List.range_add]; congr 1; omega
 rw [h1, List.filter_append]
 have h2 : ((List.range (64 - m)).map (m + ·)).filter (fun i => v.testBit i) = [] := by
  rw [List.filter_eq_nil_iff]
  intro i hi hx
  obtain ⟨k, _, rfl⟩ := List.mem_map.1 hi
  have := hb _ hx
  omega
 rw [h2, List.append_nil]
 refine List.filter_congr fun j hj => ?_
 have := List.mem_range.1 hj
 unfold MM.hasN
 rw [zE (by omega), Bool.true_and]; rfl
def nmW (names : List ByteArray) (i : Nat) : Wd := ⟨names.getD i ⟨#[]⟩, 0⟩
theorem nmd_els {names : List ByteArray} {v : Nat} (hb : ∀ i, v.testBit i = true → i < names.length) (h64 : names.length ≤ 64) : nmd names v = (MM.els v).map (nmW names) := by
 unfold nmd nmdTo
 rw [flt_els hb h64]; rfl
def rulN (names : List ByteArray) (n : Int) (l : List Nat) (v i : Nat) : Nd := nd 6 0 (names.getD i ⟨#[]⟩) (nmd names (gReaders n l v (i : Int))) []
theorem rul_els {names : List ByteArray} {n : Int} {l : List Nat} {v : Nat} (hp : pts n = names.length) (h64 : names.length ≤ 64) : rulTo names n l v names.length = (MM.els (gOwners n l v)).map (rulN names n l v) := by
 unfold rulTo
 rw [flt_els (fun i hi => by rw [← hp]; exact (ow_bits hi).1) h64]; rfl
theorem map_take {α : Type} (f : Nat → α) (l : List Nat) (j : Nat) (h : j < l.length) : (l.take (j + 1)).map f = (l.take j).map f ++ [f (l.getD j 0)] := by
 rw [List.take_succ_eq_append_getElem h, List.map_append, List.getD_eq_getElem?_getD, List.getElem?_eq_getElem h]; rfl
theorem els_bit {v j : Nat} (h : j < (MM.els v).length) : v.testBit ((MM.els v).getD j 0) = true ∧ (MM.els v).getD j 0 < 64 := by
 have hm : (MM.els v).getD j 0 ∈ MM.els v := by
  rw [List.getD_eq_getElem?_getD, List.getElem?_eq_getElem h]
  exact List.getElem_mem h
 have := MM.mem_els.1 hm
 exact ⟨this.2, this.1⟩
end SP
end
section
open Go.RowKit LX TR TM SP RM
def SP.kdK (f : Fac) : Int := if f.kind = 2 then 3 else if f.kind = 3 then 5 else 2
theorem skind_any (f : Fac) (w : World) (hl : RW f.l) :
 Calls Tryz.prog 147 #[.agg (fv f)] w fun e w' => e = .returned (.int .i64 (kdK f)) ∧ Below w.heap.size w w' := by
 have hb : Below w.heap.size w (w.alloc (.cells (fv f) 64)) := (zB _ _).alloc (zL _) _
 have HB := zh hb
 obtain ⟨c0, c1, c2, _⟩ := fac_cells (RowAt.new w 64 (fv f))
 have HK : Hid (kdK f = if f.kind = 2 then 3 else if f.kind = 3 then 5 else 2) := rfl
 generalize kdK f = k at *
 generalize f.kind = kd at *
 clear hb c1 c2
 by_cases h2 : kd = 2
 ·have e := HK.out
  rw [if_pos h2] at e
  have HE := zh e
  have ta : (kd == 2) = true := by simp [h2]
  clear h2 e HK
  go_enter Tryz.func147, Tryz.ntmps147
  go_wp2_with fail
  go_ret
  exact ⟨by rw [HE.out]; rfl, HB.out⟩
 ·have ta : (kd == 2) = false := by simp [h2]
  by_cases h3 : kd = 3
  ·have e := HK.out
   rw [if_neg h2, if_pos h3] at e
   have HE := zh e
   have tb : (kd == 3) = true := by simp [h3]
   clear h2 h3 e HK
   go_enter Tryz.func147, Tryz.ntmps147
   go_wp2_with fail
   go_ret
   exact ⟨by rw [HE.out]; rfl, HB.out⟩
  ·have e := HK.out
   rw [if_neg h2, if_neg h3] at e
   have HE := zh e
   have tb : (kd == 3) = false := by simp [h3]
   clear h2 h3 e HK
   go_enter Tryz.func147, Tryz.ntmps147
   go_wp2_with fail
   go_ret
   exact ⟨by rw [HE.out]; rfl, HB.out⟩
def SP.GotW (g : Nat) (W1 : World) (l : List Wd) (W : World) : Prop :=
 ∃ A c, Box W g 117 (.slice A l.length c) ∧ W.ownsRow W1.heap.size 177 2 (.slice A l.length c) l.length (wcs l) ∧ Mv g W1 W
theorem snamed1_any (g gf : Nat) (W1 : World) (f : Fac) (hf : RowAt W1 gf 64 (fv f)) (hne : gf ≠ g) (hg : g < W1.heap.size) (bb o : Nat) (hA : f.A = some ⟨bb, o, none⟩) (hbg : bb ≠ g) (hbw : bb < W1.heap.size)
 (l : List Wd) (hl : l.length ≤ 4294967296) (i : Nat) (hi : i < f.names.length) (hci : W1.cell? ⟨bb, o + i, none⟩ = some (.string (f.names.getD i ⟨#[]⟩))) (hn : f.names.length ≤ 4294967296) (W : World) (h : GotW g W1 l W) :
 Calls Tryz.prog 178 #[.int .i64 i, .pointer (some ⟨g, 0, none⟩), .pointer (some ⟨gf, 0, none⟩)] W fun e W' => e = .returned (.bool true) ∧ GotW g W1 (l ++ [nmW f.names i]) W' := by
 obtain ⟨A, c, hbox, hown, hm⟩ := h
 have HNM : Hid (nmW f.names i = ⟨f.names.getD i ⟨#[]⟩, 0⟩) := rfl
 obtain ⟨S, hSe⟩ : ∃ S : World → Prop, S = fun w' => Mv g W1 w' := ⟨_, rfl⟩
 have SI : Hid (∀ w', Mv g W1 w' → S w') := fun w' h => by rw [hSe]; exact h
 have C1 : ∀ w', S w' → w'.cell? ⟨gf, 1, none⟩ = some (.slice (some ⟨bb, o, none⟩) f.names.length f.c) := fun w' h => by
  rw [hSe] at h
  rw [← hA]
  exact (fac_cells (hf.mv h hne)).2.1
 have C2 : ∀ w', S w' → w'.cell? ⟨bb, o + i, none⟩ = some (.string (f.names.getD i ⟨#[]⟩)) := fun w' h => by
  rw [hSe] at h
  exact (World.cell?_of_block (w := W1) (h.block bb hbw hbg)).trans hci
 have HO := zh hown
 have HM := zh hm
 have HBX : Hid (Box W.drew g 117 (.slice A l.length c)) := hbox.drewN 1
 have HLT := zh hg
 have hin : (i : Int) < (f.names.length : Int) := by omega
 clear hown hm hbox hf hci hA hSe
 generalize nmW f.names i = nw at *
 generalize f.names.getD i ⟨#[]⟩ = s at *
 generalize f.names.length = nn at *
 generalize hln : l.length = n at *
 have HN := zh hln; clear hln
 have hsz := HM.out.size
 go_enter Tryz.func178, Tryz.ntmps178
 go_wp2_with fail
 refine wp_region_ot S (.take 1 (.take 2 (.take 3 (.take 4 (.take 5 (.take 6 (.two 0 (.solo 7 (.solo 8 (.solo 9 .nil))) 7 (.solo 0 (.solo 8 (.solo 9 .nil)))))))))) (by kernel_rfl) (by kernel_rfl) rfl (by kernel_rfl) (SI.out _ HM.out.drew) ?_
 generalize hV : W.drew = V at HBX ⊢
 have HO1 : Hid (V.ownsRow W1.heap.size 177 2 (.slice A n c) n (wcs l)) := by rw [← hV]; exact HO.out
 have HM1 : Hid (Mv g W1 V) := by rw [← hV]; exact HM.out.drew
 have hszV : W1.heap.size ≤ V.heap.size := HM1.out.size
 clear hV
 iterate 6
  (refine wpOT_step (zO rfl) ?_)
  (first
        | (refine wpOT_skip (by rfl) ?_)
        | (refine wpOT_take (v := ?_) (by rfl) ?_ ?_; rotate_left 1; (intro wx hSx; have hc_0 := C1 wx hSx; have hc_1 := C2 wx hSx; go_simp; try with_reducible rfl)))
  (try simp only [Act.put, zA4, zA5, zA6])
 have hcb := HBX.out.cell
 have HOG : Hid ((V.alloc (.cells #[.string s, .int .i64 0] 177)).ownsRow W1.heap.size 177 2 (.slice A n c) n (wcs l)) := HO1.out.alloc _
 have HRG := zh (RowAt.new V 177 #[.string s, .int .i64 0])
 have HBG := zh (HBX.out.alloc (.cells #[.string s, .int .i64 0] 177))
 have hcg := HBG.out.cell
 have HMG := zh (HM1.out.alloc hg (.cells #[.string s, .int .i64 0] 177))
 have HS1 : Hid (S (V.alloc (.cells #[.string s, .int .i64 0] 177))) := SI.out _ HMG.out
 have HS : Hid (S V) := SI.out _ HM1.out
 clear C1 C2
 refine wpOT_two ?_ ?_
 ·(refine wpOT_solo (zO rfl) ?_)
  intro K hK
  go_simp
  refine hK.out _ _ HS.out ?_
  clear hK K
  (try simp only [Act.put, zA4, zA5, zA6])
  (refine wpOT_solo (zO rfl) ?_)
  intro K hK
  go_simp
  refine hK.out _ _ HS1.out ?_
  clear hK K
  (try simp only [Act.put, zA4, zA5, zA6])
  generalize V.alloc (.cells #[.string s, .int .i64 0] 177) = wb at *
  generalize V.heap.size = g9 at *
  (refine wpOT_solo (zO rfl) ?_)
  intro K hK
  rw [if_pos (by rfl)]
  refine wp_moreB _ _ 117 rfl 177 (.agg #[.string ⟨#[]⟩, .int .i64 0]) 2 24 Tryz.underlying117 infoWord rfl (by decide) W1.heap.size A n c (wcs l) rfl HOG.out g9 (wcells ⟨s, 0⟩) rfl rfl ?c2 (wc_one _) ?c3 ?c4 ?c5 ?_
  case c2 => intro j u hu; exact (HRG.out.cell j).trans (by show ((wcells ⟨s, 0⟩).toArray)[j]? = some u; rw [zA1]; exact hu)
  case c3 => simp only [maxLen]; omega
  case c4 => omega
  case c5 => exact HMG.out.size
  intro X5 d5 w5 hown5 hb5 hg5 hat5
  have HB5 := zh (HBG.out.below hb5 HLT.out)
  have HM5 := zh (HMG.out.onBelow HLT.out hb5 (zL _))
  have HS5 : Hid (S w5) := SI.out _ HM5.out
  have HO5 := zh hown5
  refine hK.out _ _ HS5.out ?_
  clear hK K hown5 hb5 hg5 hat5 HOG HRG HMG
  (try simp only [Act.put, zA4, zA5, zA6])
  have hf5 := HB5.out.free
  have hc5 := HB5.out.cell
  have HM6 := zh (HM5.out.setCell (p := ⟨g, 0, none⟩) (.inl rfl) HLT.out (.slice X5 (n + 1) d5))
  (refine wpOT_solo (zO rfl) ?_)
  intro K hK
  go_simp
  refine hK.out _ _ (SI.out _ HM6.out) ?_
  clear hK K
  (try simp only [Act.put, zA4, zA5, zA6])
  refine wpOT_done ?_
  go_wp2_with fail
  go_ret
  refine ⟨rfl, X5, d5, ?_, ?_, HM6.out⟩
  ·rw [zA7, HN.out]
   exact HB5.out.put (.slice X5 (n + 1) d5)
  ·rw [zA7, HN.out, HNM.out, wcs_append, wcs_one]
   exact own_like9 HO5.out (fun k hk e => (Else.setCell w5 ⟨g, 0, none⟩ (.slice X5 (n + 1) d5)).block k (by have h1 := HO5.out.lt k e; have h2 := HLT.out; show k ≠ g; omega))
 ·(refine wpOT_solo (zO rfl) ?_)
  intro K hK
  go_simp
  refine hK.out _ _ HS1.out ?_
  clear hK K
  (try simp only [Act.put, zA4, zA5, zA6])
  (refine wpOT_solo (zO rfl) ?_)
  intro K hK
  go_simp
  refine hK.out _ _ HS1.out ?_
  clear hK K
  (try simp only [Act.put, zA4, zA5, zA6])
  generalize V.alloc (.cells #[.string s, .int .i64 0] 177) = wb at *
  generalize V.heap.size = g9 at *
  (refine wpOT_solo (zO rfl) ?_)
  intro K hK
  rw [if_pos (by rfl)]
  refine wp_moreB _ _ 117 rfl 177 (.agg #[.string ⟨#[]⟩, .int .i64 0]) 2 24 Tryz.underlying117 infoWord rfl (by decide) W1.heap.size A n c (wcs l) rfl HOG.out g9 (wcells ⟨s, 0⟩) rfl rfl ?c2 (wc_one _) ?c3 ?c4 ?c5 ?_
  case c2 => intro j u hu; exact (HRG.out.cell j).trans (by show ((wcells ⟨s, 0⟩).toArray)[j]? = some u; rw [zA1]; exact hu)
  case c3 => simp only [maxLen]; omega
  case c4 => omega
  case c5 => exact HMG.out.size
  intro X5 d5 w5 hown5 hb5 hg5 hat5
  have HB5 := zh (HBG.out.below hb5 HLT.out)
  have HM5 := zh (HMG.out.onBelow HLT.out hb5 (zL _))
  have HS5 : Hid (S w5) := SI.out _ HM5.out
  have HO5 := zh hown5
  refine hK.out _ _ HS5.out ?_
  clear hK K hown5 hb5 hg5 hat5 HOG HRG HMG
  (try simp only [Act.put, zA4, zA5, zA6])
  have hf5 := HB5.out.free
  have hc5 := HB5.out.cell
  have HM6 := zh (HM5.out.setCell (p := ⟨g, 0, none⟩) (.inl rfl) HLT.out (.slice X5 (n + 1) d5))
  (refine wpOT_solo (zO rfl) ?_)
  intro K hK
  go_simp
  refine hK.out _ _ (SI.out _ HM6.out) ?_
  clear hK K
  (try simp only [Act.put, zA4, zA5, zA6])
  refine wpOT_done ?_
  go_wp2_with fail
  go_ret
  refine ⟨rfl, X5, d5, ?_, ?_, HM6.out⟩
  ·rw [zA7, HN.out]
   exact HB5.out.put (.slice X5 (n + 1) d5)
  ·rw [zA7, HN.out, HNM.out, wcs_append, wcs_one]
   exact own_like9 HO5.out (fun k hk e => (Else.setCell w5 ⟨g, 0, none⟩ (.slice X5 (n + 1) d5)).block k (by have h1 := HO5.out.lt k e; have h2 := HLT.out; show k ≠ g; omega))
theorem snamed_any (f : Fac) (v : Nat) (hv : v < 18446744073709551616) (hb : ∀ i, v.testBit i = true → i < f.names.length) (h64 : f.names.length ≤ 64) (w : World) (hT : Tab w) (hf : FacOk w f) :
 Calls Tryz.prog 148 #[.agg (fv f), .int .u64 (v : Int)] w fun e w' => ∃ Y dd, e = .returned (.slice Y (nmd f.names v).length dd) ∧ (nmd f.names v).length ≤ dd ∧ SlC w' (fun k => w.heap.size ≤ k) Y (wcs (nmd f.names v)) ∧ Below w.heap.size w w' := by
 rw [nmd_els hb h64]
 have h64e := MM.els_length v
 have HBW : Hid (Below w.heap.size w ((w.alloc (.cells (fv f) 64)).alloc (.cells #[.slice none 0 0] 117))) := ((zB _ _).alloc (zL _) _).alloc (by simp) _
 have HRF := zh ((RowAt.new w 64 (fv f)).alloc (.cells #[.slice none 0 0] 117))
 have hbx := Box.new (w.alloc (.cells (fv f) 64)) 117 (.slice none 0 0)
 rw [show (w.alloc (.cells (fv f) 64)).heap.size = w.heap.size + 1 by simp] at hbx
 have HBX := zh hbx
 have HTB : Hid (∀ W, Below w.heap.size w W → Tab W) := fun W h => hT.below h
 have HST : Hid (∀ i, i < f.names.length → ∃ bb o, f.A = some ⟨bb, o, none⟩ ∧ bb < w.heap.size ∧ w.cell? ⟨bb, o + i, none⟩ = some (.string (f.names.getD i ⟨#[]⟩))) := fun i hi => by
  obtain ⟨bb, o, hA, hbb, hcs⟩ := Sl.at_ hf.strs (by
   intro h0
   have h1 := congrArg List.length h0
   unfold scells at h1
   rw [List.length_map] at h1
   simp at h1
   rw [h1] at hi
   simp at hi)
  exact ⟨bb, o, hA, hbb, hcs i _ (by
   unfold scells
   rw [List.getElem?_map, List.getD_eq_getElem?_getD, List.getElem?_eq_getElem hi]; rfl)⟩
 have HBI : Hid (∀ j, j < (MM.els v).length → (MM.els v).getD j 0 < f.names.length) := fun j hj => hb _ (els_bit hj).1
 clear hbx hf hT hb
 go_enter Tryz.func148, Tryz.ntmps148
 go_upto_region 2 with fail
 generalize hW1 : (w.alloc (.cells (fv f) 64)).alloc (.cells #[.slice none 0 0] 117) = W1 at *
 have hsz1 : w.heap.size + 1 < W1.heap.size := HBX.out.lt
 clear hW1
 go_wp2_with fail
 refine (each_any v hv 178 #[.pointer (some ⟨w.heap.size + 1, 0, none⟩), .pointer (some ⟨w.heap.size, 0, none⟩)] W1 (fun _ _ => by kernel_rfl) (fun j W => GotW (w.heap.size + 1) W1 (((MM.els v).take j).map (nmW f.names)) W) (fun W => GotW (w.heap.size + 1) W1 ((MM.els v).map (nmW f.names)) W)
  (fun j W h => HTB.out W (by obtain ⟨_, _, _, _, h⟩ := h; exact HBW.out.trans (h.low.mono (by omega)))) ⟨none, 0, HBX.out, World.ownsRow_nil _ _ _ _, Mv.refl _ _⟩ (fun W h => by rw [List.take_length] at h; exact h) ?_).mono ?_
 ·intro j W hj h
  obtain ⟨bb, o, hA, hbb, hci⟩ := HST.out _ (HBI.out j hj)
  refine (snamed1_any (w.heap.size + 1) w.heap.size W1 f HRF.out (by omega) hsz1 bb o hA (by omega) (by omega) _ ?_ ((MM.els v).getD j 0) (HBI.out j hj) ((below_cell HBW.out hbb).trans hci) (by omega) W h).mono ?_
  ·rw [List.length_map, List.length_take]; omega
  ·rintro e W' ⟨rfl, hG⟩
   exact .inl ⟨rfl, by rw [map_take _ _ _ hj]; exact hG⟩
 ·rintro e w2 ⟨rfl, A, c, hbox, hown, hm⟩
  have hcell := hbox.cell
  have HO := zh hown
  have HM := zh hm
  clear hown hm
  go_wp2_with fail
  go_ret
  exact ⟨A, c, by rw [List.length_map]; rfl, own_cap_le HO.out, SlC.of_own HO.out fun k h _ => by omega, HBW.out.trans (HM.out.low.mono (by omega))⟩
end
section
open Go.RowKit
theorem setCells_row {g : Nat} {t : TypeId} : ∀ (ys : List Value) (o : Nat) (cs : Array Value) (w : World), RowAt w g t cs → ∃ ds : Array Value, RowAt (w.setCells g o ys) g t ds ∧ ds.size = cs.size ∧ (∀ j, (j < o ∨ o + ys.length ≤ j) → ds[j]? = cs[j]?) ∧ (∀ j, j < ys.length → o + j < cs.size → ds[o + j]? = ys[j]?)
 | [], o, cs, w, h => ⟨cs, h, rfl, fun _ _ => rfl, fun j hj => by simp at hj⟩
 | y :: ys, o, cs, w, h => by
   obtain ⟨ds, h1, h2, h3, h4⟩ := setCells_row ys (o + 1) _ _ (h.put o y)
   refine ⟨ds, h1, by rw [h2, Array.size_setIfInBounds], fun j hj => ?_, fun j hj hjs => ?_⟩
   ·rw [h3 j (by simp only [zA8] at hj; omega), Array.getElem?_setIfInBounds_ne (by simp only [zA8] at hj; omega)]
   ·cases j with
    | zero =>
      rw [Nat.add_zero, h3 o (by omega), Array.getElem?_setIfInBounds_self_of_lt (by omega)]
      simp
    | succ j =>
      rw [show o + (j + 1) = o + 1 + j by omega, h4 j (by simpa using hj) (by rw [Array.size_setIfInBounds]; omega)]
      simp
theorem setCells_size (w : World) (g o : Nat) (ys : List Value) : (w.setCells g o ys).heap.size = w.heap.size := by
 induction ys generalizing w o with
 | nil => rfl
 | cons y ys ih => rw [World.setCells, ih]; simp [World.setCell]
theorem setCells_other (w : World) (g o : Nat) (ys : List Value) (k : Nat) (hk : k ≠ g) : (w.setCells g o ys).heap[k]? = w.heap[k]? := by
 induction ys generalizing w o with
 | nil => rfl
 | cons y ys ih =>
   rw [World.setCells, ih]
   simp only [World.setCell, Array.getElem?_modify, if_neg (fun e => hk (Eq.symm e))]
theorem setCells_env (w : World) (g o : Nat) (ys : List Value) : (w.setCells g o ys).os = w.os ∧ (w.setCells g o ys).tape = w.tape ∧ (w.setCells g o ys).output = w.output := by
 induction ys generalizing w o with
 | nil => exact ⟨rfl, rfl, rfl⟩
 | cons y ys ih => rw [World.setCells]; exact ih _ _
theorem setCells_below {B g : Nat} {w : World} (hB : B ≤ g) (o : Nat) (ys : List Value) : Below B w (w.setCells g o ys) :=
 ⟨(setCells_env w g o ys).1, (setCells_env w g o ys).2.1, (setCells_env w g o ys).2.2, by rw [setCells_size]; exact zL _, fun k hk => setCells_other w g o ys k (by omega)⟩
theorem own_fill {w : World} {base size n c g : Nat} {e : TypeId} {cs zs ys : List Value} (h : w.ownsRow base e size (.slice (some ⟨g, 0, none⟩) (n + 1) c) (n + 1) (cs ++ zs)) (hc : cs.length = n * size) (hy : ys.length = size) :
 (w.setCells g (n * size) ys).ownsRow base e size (.slice (some ⟨g, 0, none⟩) (n + 1) c) (n + 1) (cs ++ ys) ∧ w.there g (n * size) size := by
 have hm : (n + 1) * size = n * size + size := by rw [Nat.add_mul, Nat.one_mul]
 rcases h.2 with ⟨hv, _⟩ | ⟨g', cap, cur, hv, hg, hh, h1, h2, h3, h4⟩
 ·cases hv
 ·injection hv with e1 _ e3
  injection e1 with e1
  injection e1 with e1 _ _
  subst e1 e3
  have hcs : (n + 1) * size ≤ cur.size := by rw [h3]; exact Nat.mul_le_mul_right _ h1
  obtain ⟨ds, d1, d2, d3, d4⟩ := setCells_row ys (n * size) cur w hh
  refine ⟨⟨by rw [zA7]; omega, .inr ⟨g, c, ds, rfl, hg, d1, h1, h2, by omega, ?_⟩⟩, fun j hj => ⟨?_, RowAt.free hh _⟩⟩
  ·refine List.ext_getElem? fun j => ?_
   by_cases hj : j < (n + 1) * size
   ·rw [List.getElem?_take_of_lt hj]
    show ds.toList[j]? = _
    rw [Array.getElem?_toList]
    by_cases hj2 : j < n * size
    ·rw [d3 j (.inl hj2), List.getElem?_append_left (by omega)]
     have e := congrArg (fun l : List Value => l[j]?) h4
     rw [List.getElem?_take_of_lt hj, List.getElem?_append_left (by omega)] at e
     simpa using e
    ·have e := d4 (j - n * size) (by omega) (by omega)
     rw [show n * size + (j - n * size) = j by omega] at e
     rw [e, List.getElem?_append_right (by omega), hc]
   ·rw [List.getElem?_eq_none (by rw [List.length_take]; omega), List.getElem?_eq_none (by rw [zA7]; omega)]
  ·rw [RowAt.cell hh, Array.getElem?_eq_getElem (by omega)]; rfl
end
section
open Go.RowKit LX TR TM SP RM
def SP.GotN (gn : Nat) (W1 : World) (l : List Nd) (W : World) : Prop :=
 ∃ zs X d, RowAt W gn 120 #[.int .i64 5, .int .i64 0, .string ⟨#[]⟩, .slice none 0 0, .slice X zs.length d] ∧ TM.er zs = l ∧ W.ownsRow W1.heap.size 120 5 (.slice X zs.length d) zs.length (ncs zs) ∧ DeepN W (fun k => W1.heap.size ≤ k ∧ (Value.slice X zs.length d).ownBlock ≠ some k) zs ∧ Mv gn W1 W
theorem SP.fin_b {gn g4 n d5 i : Nat} {W1 w6 : World} {f : Fac} {zs : List Nd} {s : ByteArray} {Y : Option Addr} {dd rr : Nat} {names : List ByteArray} (hlt : gn < W1.heap.size) (hne : g4 ≠ gn) (hg4 : W1.heap.size ≤ g4) (hn : RowAt w6 gn 120 #[.int .i64 5, .int .i64 0, .string ⟨#[]⟩, .slice none 0 0, .slice (some ⟨g4, 0, none⟩) (n + 1 : Nat) d5])
 (ho : (w6.setCells g4 (n * 5) [.int .i64 6, .int .i64 0, .string s, .slice Y (nmd names rr).length dd, .slice none 0 0]).ownsRow W1.heap.size 120 5 (.slice (some ⟨g4, 0, none⟩) (n + 1) d5) (n + 1) (ncs zs ++ [.int .i64 6, .int .i64 0, .string s, .slice Y (nmd names rr).length dd, .slice none 0 0]))
 (hd : DeepN w6 (fun k => W1.heap.size ≤ k ∧ (Value.slice (some ⟨g4, 0, none⟩) (n + 1) d5).ownBlock ≠ some k) (zs ++ [(Nd.mk 6 0 s Y dd (nmd names rr) none 0 [])])) (hm : Mv gn W1 w6) (hz : zs.length = n) :
 Mv gn W1 (w6.setCells g4 (n * 5) [.int .i64 6, .int .i64 0, .string s, .slice Y (nmd names rr).length dd, .slice none 0 0]) ∧ GotN gn W1 (TM.er (zs ++ [(Nd.mk 6 0 s Y dd (nmd names rr) none 0 [])])) (w6.setCells g4 (n * 5) [.int .i64 6, .int .i64 0, .string s, .slice Y (nmd names rr).length dd, .slice none 0 0]) := by
 have hm2 : Mv gn W1 (w6.setCells g4 (n * 5) [.int .i64 6, .int .i64 0, .string s, .slice Y (nmd names rr).length dd, .slice none 0 0]) := hm.onBelow hlt (setCells_below (B := W1.heap.size) hg4 _ _) (zL _)
 have hl : (zs ++ [(Nd.mk 6 0 s Y dd (nmd names rr) none 0 [])]).length = n + 1 := by rw [zA7, hz]; rfl
 refine ⟨hm2, zs ++ [(Nd.mk 6 0 s Y dd (nmd names rr) none 0 [])], some ⟨g4, 0, none⟩, d5, ?_, rfl, ?_, ?_, hm2⟩
 ·rw [hl]
  exact (setCells_other _ _ _ _ _ hne.symm).trans hn
 ·rw [hl, ncs_append, ncs_one]
  exact ho
 ·rw [hl]
  exact hd.keep (Nat.le_of_eq (setCells_size _ _ _ _).symm) (fun k _ h => setCells_other _ _ _ _ _ (fun e => h.2 (by rw [e]; rfl))) (fun _ _ h => h)
theorem SP.fin_a {gn g4 n d d5 i : Nat} {X : Option Addr} {u : Value} {W1 w6 : World} {f : Fac} {zs : List Nd} {s : ByteArray} {Y : Option Addr} {dd rr : Nat} {names : List ByteArray} (hlt : gn < W1.heap.size) (hne : g4 ≠ gn) (hg4 : W1.heap.size ≤ g4) (hn : RowAt w6 gn 120 #[.int .i64 5, .int .i64 0, .string ⟨#[]⟩, .slice none 0 0, .slice X n d])
 (ho : w6.ownsRow W1.heap.size 120 5 (.slice (some ⟨g4, 0, none⟩) (n + 1) d5) (n + 1) (ncs zs ++ [.int .i64 6, .int .i64 0, .string s, .slice Y (nmd names rr).length dd, .slice none 0 0]))
 (hd : DeepN w6 (fun k => W1.heap.size ≤ k ∧ (Value.slice (some ⟨g4, 0, none⟩) (n + 1) d5).ownBlock ≠ some k) (zs ++ [(Nd.mk 6 0 s Y dd (nmd names rr) none 0 [])])) (hm : Mv gn W1 w6) (hu : u = .slice (some ⟨g4, 0, none⟩) (n + 1) d5) (hz : zs.length = n) :
 Mv gn W1 (w6.setCell ⟨gn, 4, none⟩ u) ∧ GotN gn W1 (TM.er (zs ++ [(Nd.mk 6 0 s Y dd (nmd names rr) none 0 [])])) (w6.setCell ⟨gn, 4, none⟩ u) := by
 subst hu
 have hm2 := hm.setCell (p := ⟨gn, 4, none⟩) (.inl rfl) hlt (.slice (some ⟨g4, 0, none⟩) (n + 1) d5)
 have hl : (zs ++ [(Nd.mk 6 0 s Y dd (nmd names rr) none 0 [])]).length = n + 1 := by rw [zA7, hz]; rfl
 have he := Else.setCell w6 ⟨gn, 4, none⟩ (.slice (some ⟨g4, 0, none⟩) (n + 1) d5)
 refine ⟨hm2, zs ++ [(Nd.mk 6 0 s Y dd (nmd names rr) none 0 [])], some ⟨g4, 0, none⟩, d5, ?_, rfl, ?_, ?_, hm2⟩
 ·rw [hl]
  exact hn.put 4 (.slice (some ⟨g4, 0, none⟩) (n + 1) d5)
 ·rw [hl, ncs_append, ncs_one]
  exact own_like9 ho (fun k hk e => he.block k (by have h1 := ho.lt k e; show k ≠ gn; omega))
 ·rw [hl]
  exact hd.keep (Nat.le_of_eq he.size.symm) (fun k hk h => he.block k (by have h3 := h.1; show k ≠ gn; omega)) (fun _ _ h => h)
theorem sconstant1_any (gn gf gv : Nat) (W1 : World) (f : Fac) (v : Nat) (hv : v < 18446744073709551616) (hf : RowAt W1 gf 64 (fv f)) (hbv : Box W1 gv 39 (.int .u64 (v : Int))) (h1 : gf ≠ gn) (h2 : gv ≠ gn) (hg : gn < W1.heap.size)
 (bb o : Nat) (hA : f.A = some ⟨bb, o, none⟩) (hbg : bb ≠ gn) (hbw : bb < W1.heap.size) (hok : ∀ W, Mv gn W1 W → Tab W ∧ FacOk W f) (hpt : pts f.n = f.names.length) (h64 : f.names.length ≤ 64)
 (l : List Nd) (hl : l.length ≤ 4294967296) (i : Nat) (hi : i < f.names.length) (hci : W1.cell? ⟨bb, o + i, none⟩ = some (.string (f.names.getD i ⟨#[]⟩))) (W : World) (h : GotN gn W1 l W) :
 Calls Tryz.prog 151 #[.int .i64 i, .pointer (some ⟨gf, 0, none⟩), .pointer (some ⟨gv, 0, none⟩), .pointer (some ⟨gn, 0, none⟩)] W fun e W' => e = .returned (.bool true) ∧ GotN gn W1 (l ++ [rulN f.names f.n f.l v i]) W' := by
 obtain ⟨zs, X, d, hrow, her, hown, hdeep, hm⟩ := h
 have hzl : zs.length ≤ 4294967296 := by rw [← TM.er_length, her]; exact hl
 have hrw : RW f.l := (hok W hm).2.rows
 obtain ⟨S, hSe⟩ : ∃ S : World → Prop, S = fun w' => Mv gn W1 w' := ⟨_, rfl⟩
 have SI : Hid (∀ w', Mv gn W1 w' → S w') := fun w' h => by rw [hSe]; exact h
 have SO : Hid (∀ w', S w' → Mv gn W1 w') := fun w' h => by rw [hSe] at h; exact h
 have pF : ∀ w', S w' → RowAt w' gf 64 (fv f) := fun w' h => hf.mv (SO.out w' h) h1
 have pL : ∀ w', S w' → w'.rangeAt gf 2 (rvl f.n f.l) := fun w' h => (fac_cells (hf.mv (SO.out w' h) h1)).2.2.2
 have K1 : ∀ w', S w' → w'.cell? ⟨gf, 1, none⟩ = some (.slice (some ⟨bb, o, none⟩) f.names.length f.c) := fun w' h => by
  rw [← hA]
  exact (fac_cells (hf.mv (SO.out w' h) h1)).2.1
 have K2 : ∀ w', S w' → w'.cell? ⟨bb, o + i, none⟩ = some (.string (f.names.getD i ⟨#[]⟩)) := fun w' h => (World.cell?_of_block (w := W1) ((SO.out w' h).block bb hbw hbg)).trans hci
 have K3 : ∀ w', S w' → w'.cell? ⟨gv, 0, none⟩ = some (.int .u64 (v : Int)) := fun w' h => Box.cell (t := 39) (((SO.out w' h).block gv hbv.lt h2).trans hbv)
 have HRD : Hid (∀ W, Calls Tryz.prog 152 #[.agg (rv f.n f.l), .int .u64 (v : Int), .int .i64 (i : Int)] W fun e w' => e = .returned (.int .u64 ((gReaders f.n f.l v (i : Int) : Nat) : Int)) ∧ Below W.heap.size W w') := fun W => greaders_any f.n f.l hrw v hv (i : Int) W
 have HND : Hid (∀ W, Mv gn W1 W → Calls Tryz.prog 148 #[.agg (fv f), .int .u64 ((gReaders f.n f.l v (i : Int) : Nat) : Int)] W fun e w' => ∃ Y dd, e = .returned (.slice Y (nmd f.names (gReaders f.n f.l v (i : Int))).length dd) ∧ (nmd f.names (gReaders f.n f.l v (i : Int))).length ≤ dd ∧ SlC w' (fun k => W.heap.size ≤ k) Y (wcs (nmd f.names (gReaders f.n f.l v (i : Int)))) ∧ Below W.heap.size W w') := fun W hm =>
  snamed_any f _ (gReaders_lt _ _ _ _) (fun i hi => by rw [← hpt]; exact rd_bits hi) h64 W (hok W hm).1 (hok W hm).2
 have HER := zh her
 have HO := zh hown
 have HD := zh hdeep
 have HM := zh hm
 have HRW := zh hrow
 have HLT := zh hg
 have HNCS : Hid ((ncs zs).length = zs.length * 5) := ncs_length zs
 have hin : (i : Int) < (f.names.length : Int) := by omega
 clear hown hdeep hm hrow hSe hf hbv hok hci hpt her hA hl
 rw [show rulN f.names f.n f.l v i = nd 6 0 (f.names.getD i ⟨#[]⟩) (nmd f.names (gReaders f.n f.l v (i : Int))) [] from rfl]
 obtain ⟨L2, hL2⟩ : ∃ L2, L2 = l ++ [nd 6 0 (f.names.getD i ⟨#[]⟩) (nmd f.names (gReaders f.n f.l v (i : Int))) []] := ⟨_, rfl⟩
 rw [← hL2]
 have HL2 := zh hL2; clear hL2
 generalize hNM : f.names = names at *
 generalize gReaders f.n f.l v (i : Int) = rr at *
 generalize hs : names.getD i ⟨#[]⟩ = s at *
 clear hs hNM
 generalize names.length = nn at *
 generalize hln : zs.length = n at *
 have HN := zh hln; clear hln
 go_enter Tryz.func151, Tryz.ntmps151
 go_upto_region 1 with fail
 refine wp_region_ord S [(0, true), (1, true), (2, true), (3, true), (4, true), (5, false), (6, false), (7, true)] (by kernel_rfl) (by kernel_rfl) rfl (by kernel_rfl) (SI.out _ HM.out.drew) ?_
 have HM0 : Hid (Mv gn W1 W.drew) := HM.out.drew
 have HVV : Hid (Below W.heap.size W W.drew) := (zB _ _).drew
 generalize W.drew = V at HM0 HVV ⊢
 iterate 5
  (refine wpOrd_step (zO rfl) ?_)
  (first
        | (refine wpOrd_skip (by rfl) ?_)
        | (refine wpOrd_take (by rfl) (take_loadFac _ rfl _ rfl _ hrw pF) ?_)
        | (refine wpOrd_take (by rfl) (take_loadRelIn _ rfl _ _ rfl _ _ hrw pL) ?_)
        | (refine wpOrd_take (v := ?_) (by rfl) ?_ ?_; rotate_left 1; (intro wx hSx; have hc_0 := K3 wx hSx; go_simp; try with_reducible rfl)))
  (try simp only [Act.put, zA4, zA5, zA6])
 (refine wpOrd_solo (zO rfl) ?_)
 intro K hK
 go_simp
 go_at_call 152
 refine (HRD.out V).mono ?_
 rintro e wq ⟨rfl, hb⟩
 have HMq := zh (HM0.out.onBelow HLT.out hb HM0.out.size)
 have HVq := zh (HVV.out.trans (hb.mono HVV.out.size))
 clear hb HM0 HVV
 refine hK.out _ _ (SI.out _ HMq.out) ?_
 clear hK K
 (try simp only [Act.put, zA4, zA5, zA6])
 (refine wpOrd_solo (zO rfl) ?_)
 intro K hK
 go_simp
 go_at_call 148
 refine (HND.out wq HMq.out).mono ?_
 rintro e wn ⟨Y, dd, rfl, hd, hsl, hb⟩
 have HMn := zh (HMq.out.onBelow HLT.out hb HMq.out.size)
 have HVn := zh (HVq.out.trans (hb.mono HVq.out.size))
 have HY := zh (And.intro hd hsl)
 clear hb hd hsl
 refine hK.out _ _ (SI.out _ HMn.out) ?_
 clear hK K
 (try simp only [Act.put, zA4, zA5, zA6])
 iterate 1
  (refine wpOrd_step (zO rfl) ?_)
  (first
        | (refine wpOrd_skip (by rfl) ?_)
        | (refine wpOrd_take (v := ?_) (by rfl) ?_ ?_; rotate_left 1; (intro wx hSx; go_simp; try with_reducible rfl)))
  (try simp only [Act.put, zA4, zA5, zA6])
 refine wpOrd_done ?_
 have hszW : W1.heap.size ≤ W.heap.size := HM.out.size
 have hgW : gn < W.heap.size := by omega
 have HL3 : Hid (TM.er (zs ++ [(Nd.mk 6 0 s Y dd (nmd names rr) none 0 [])]) = L2) := by
  show TM.er (zs ++ [(Nd.mk 6 0 s Y dd (nmd names rr) none 0 [])]) = L2
  rw [HL2.out, TM.er_append, HER.out, er_one]
  congr 1
  show [nd 6 0 s (nmd names rr) (TM.er [])] = _
  rw [TM.er]
 have HNn := zh (HRW.out.below HVn.out hgW)
 have HOn := zh (own_below HO.out HVn.out (zL _))
 go_upto_region 2 with fail
 have HMV : Hid (Mv gn W1 wn.drew) := HMn.out.drew
 have HNV : Hid (RowAt wn.drew gn 120 #[.int .i64 5, .int .i64 0, .string ⟨#[]⟩, .slice none 0 0, .slice X n d]) := HNn.out.drew
 have HOV : Hid (wn.drew.ownsRow W1.heap.size 120 5 (.slice X n d) n (ncs zs)) := own_below HO.out HVn.out.drew (zL _)
 have hzz : DeepN wn.drew (fun k => wq.heap.size ≤ k) [(Nd.mk 6 0 s Y dd (nmd names rr) none 0 [])] := DeepN.drew9 (DeepN.one ⟨⟨HY.out.2, HY.out.1⟩, SlC.nil _ _ _, zL _⟩ (DeepN.nil _ _))
 have HDG0 := zh (deep_more (w := W1) HD.out (Mv.below (b := gn) hgW HVn.out.drew) hzz HO.out HVq.out.size HLT.out hszW (.cells #[.int .i64 0, .int .i64 0, .string ⟨#[]⟩, .slice none 0 0, .slice none 0 0] 120))
 clear hzz HY HVn HVq HNn HOn HD HRW HO HM HMn HMq HRD HND HER HL2
 refine wp_region_ot S (.take 0 (.take 2 (.take 3 (.take 4 (.take 5 (.take 6 (.take 7 (.take 8 (.two 1 (.take 9 (.solo 10 (.solo 11 (.take 12 (.take 14 (.two 13 (.solo 15 .nil) 15 (.solo 13 .nil))))))) 10 (.solo 1 (.take 9 (.solo 11 (.take 12 (.take 14 (.two 13 (.solo 15 .nil) 15 (.solo 13 .nil)))))))))))))))) (by kernel_rfl) (by kernel_rfl) rfl (by kernel_rfl) (SI.out _ HMV.out) ?_
 generalize wn.drew = V at HMV HNV HOV HDG0 ⊢
 have HMB0 := zh (HMV.out.alloc HLT.out (.cells #[.int .i64 0, .int .i64 0, .string ⟨#[]⟩, .slice none 0 0, .slice none 0 0] 120))
 have HNB0 := zh (HNV.out.alloc (.cells #[.int .i64 0, .int .i64 0, .string ⟨#[]⟩, .slice none 0 0, .slice none 0 0] 120))
 have HOG0 := zh (HOV.out.alloc (.cells #[.int .i64 0, .int .i64 0, .string ⟨#[]⟩, .slice none 0 0, .slice none 0 0] 120))
 have HRG0 := zh (RowAt.new V 120 #[.int .i64 0, .int .i64 0, .string ⟨#[]⟩, .slice none 0 0, .slice none 0 0])
 have hnn : (n : Int) < (n : Int) + 1 := by omega
 iterate 8
  (refine wpOT_step (zO rfl) ?_)
  (first
        | (refine wpOT_skip (by rfl) ?_)
        | (refine wpOT_take (v := ?_) (by rfl) ?_ ?_; rotate_left 1; (intro wx hSx; have hc_0 := K1 wx hSx; have hc_1 := K2 wx hSx; go_simp; try with_reducible rfl)))
  (try simp only [Act.put, zA4, zA5, zA6])
 clear K1 K2 K3 pF pL
 refine wpOT_two ?_ ?_
 ·have k4 : V.cell? ⟨gn, 4, none⟩ = some (.slice X n d) := (RowAt.cell HNV.out 4).trans rfl
  (refine wpOT_solo (zO rfl) ?_)
  intro K hK
  go_simp
  refine hK.out _ _ (SI.out _ HMV.out) ?_
  clear hK K
  (try simp only [Act.put, zA4, zA5, zA6])
  clear k4
  iterate 1
   (refine wpOT_step (zO rfl) ?_)
   (first
    | (refine wpOT_skip (by rfl) ?_)
    | (refine wpOT_take (v := ?_) (by rfl) ?_ ?_; rotate_left 1; (intro wx hSx; go_simp; try with_reducible rfl)))
   (try simp only [Act.put, zA4, zA5, zA6])
  (refine wpOT_solo (zO rfl) ?_)
  intro K hK
  go_simp
  refine hK.out _ _ (SI.out _ HMB0.out) ?_
  clear hK K
  (try simp only [Act.put, zA4, zA5, zA6])
  generalize (V.alloc (.cells #[.int .i64 0, .int .i64 0, .string ⟨#[]⟩, .slice none 0 0, .slice none 0 0] 120)) = wb at *
  generalize V.heap.size = g9 at *
  have HMwb := HMB0
  have HNB := HNB0
  (refine wpOT_solo (zO rfl) ?_)
  intro K hK
  rw [if_pos (by rfl)]
  refine wp_moreB _ _ 118 rfl 120 (.agg #[.int .i64 0, .int .i64 0, .string ⟨#[]⟩, .slice none 0 0, .slice none 0 0]) 5 80 Tryz.underlying118 infoNode rfl (by decide) W1.heap.size X n d (ncs zs) rfl HOG0.out g9 [.int .i64 0, .int .i64 0, .string ⟨#[]⟩, .slice none 0 0, .slice none 0 0] rfl rfl ?c2_1 (by simp [Value.oneCell']) ?c3_1 ?c4_1 ?c5_1 ?_
  case c2_1 => intro j u hu; exact (HRG0.out.cell j).trans (by show (([.int .i64 0, .int .i64 0, .string ⟨#[]⟩, .slice none 0 0, .slice none 0 0] : List Value).toArray)[j]? = some u; rw [zA1]; exact hu)
  case c3_1 => simp only [maxLen]; omega
  case c4_1 => omega
  case c5_1 => exact HMwb.out.size
  intro X5 d5 w5 hown5 hb5 hg5 hat5
  obtain ⟨g4, rfl, hg4B, hg4lt, hg4f, _⟩ := own_at hown5 (by intro e; have := congrArg List.length e; rw [zA7] at this; simp at this)
  have HN5 := zh (HNB.out.below hb5 HLT.out)
  have HM5 := zh (HMwb.out.onBelow HLT.out hb5 (zL _))
  have HD5 := zh (deep_grown (n := n) (m := n + 1) HDG0.out hg5 hat5)
  have HO5 := zh hown5
  have hne4 : g4 ≠ gn := by have := HLT.out; omega
  refine hK.out _ _ (SI.out _ HM5.out) ?_
  clear hK K
  (try simp only [Act.put, zA4, zA5, zA6])
  clear hown5 hb5 hg5 hat5 HNB HMwb HDG0 HOG0 HRG0
  iterate 2
   (refine wpOT_step (zO rfl) ?_)
   (first
    | (refine wpOT_skip (by rfl) ?_)
    | (refine wpOT_take (v := ?_) (by rfl) ?_ ?_; rotate_left 1; (intro wx hSx; go_simp; try with_reducible rfl)))
   (try simp only [Act.put, zA4, zA5, zA6])
  obtain ⟨own5, there5⟩ := own_fill HO5.out HNCS.out (ys := [.int .i64 6, .int .i64 0, .string s, .slice Y (nmd names rr).length dd, .slice none 0 0]) rfl
  refine wpOT_two ?_ ?_
  ·(refine wpOT_solo (zO rfl) ?_)
   intro K hK
   rw [if_pos (by rfl)]
   refine wp_store_mid 120 _ _ rfl g4 (n * 5) #[.int .i64 6, .int .i64 0, .string s, .slice Y (nmd names rr).length dd, .slice none 0 0] rfl rfl there5 (node_info _ _ _ _ _) (by simp [Value.oneCell']) ?_
   have HM6 : Hid (Mv gn W1 (w5.setCells g4 (n * 5) [.int .i64 6, .int .i64 0, .string s, .slice Y (nmd names rr).length dd, .slice none 0 0])) := HM5.out.onBelow HLT.out (setCells_below (B := W1.heap.size) hg4B _ _) (zL _)
   have HN6 : Hid (RowAt (w5.setCells g4 (n * 5) [.int .i64 6, .int .i64 0, .string s, .slice Y (nmd names rr).length dd, .slice none 0 0]) gn 120 #[.int .i64 5, .int .i64 0, .string ⟨#[]⟩, .slice none 0 0, .slice X n d]) := (setCells_other _ _ _ _ _ hne4.symm).trans HN5.out
   have k4 : (w5.setCells g4 (n * 5) [.int .i64 6, .int .i64 0, .string s, .slice Y (nmd names rr).length dd, .slice none 0 0]).cell? ⟨gn, 4, none⟩ = some (.slice X n d) := (RowAt.cell HN6.out 4).trans rfl
   have f4 := HN6.out.free 4
   have HF := zh (SP.fin_a (f := f) (i := i) (u := .slice (some ⟨g4, 0, none⟩) (n + 1) d5) HLT.out hne4 hg4B HN6.out own5 (HD5.out.keep (Nat.le_of_eq (setCells_size _ _ _ _).symm) (fun k _ h => setCells_other _ _ _ _ _ (fun e => h.2 (by rw [e]; rfl))) (fun _ _ h => h)) HM6.out rfl HN.out)
   refine hK.out _ _ (SI.out _ HM6.out) ?_
   clear hK K own5 there5
   (try simp only [Act.put, zA4, zA5, zA6])
   generalize (w5.setCells g4 (n * 5) [.int .i64 6, .int .i64 0, .string s, .slice Y (nmd names rr).length dd, .slice none 0 0]) = w6 at *
   (refine wpOT_solo (zO rfl) ?_)
   intro K hK
   go_simp
   refine hK.out _ _ (SI.out _ HF.out.1) ?_
   clear hK K
   (try simp only [Act.put, zA4, zA5, zA6])
   refine wpOT_done ?_
   go_wp2_with fail
   go_ret
   exact ⟨rfl, by rw [← HL3.out]; exact HF.out.2⟩
  ·have k4 : w5.cell? ⟨gn, 4, none⟩ = some (.slice X n d) := (RowAt.cell HN5.out 4).trans rfl
   have f4 := HN5.out.free 4
   (refine wpOT_solo (zO rfl) ?_)
   intro K hK
   go_simp
   have HM6 : Hid (Mv gn W1 (w5.setCell ⟨gn, 4, none⟩ (.slice (some ⟨g4, 0, none⟩) (n + 1) d5))) := HM5.out.setCell (p := ⟨gn, 4, none⟩) (.inl rfl) HLT.out _
   have HN6 : Hid (RowAt (w5.setCell ⟨gn, 4, none⟩ (.slice (some ⟨g4, 0, none⟩) (n + 1) d5)) gn 120 #[.int .i64 5, .int .i64 0, .string ⟨#[]⟩, .slice none 0 0, .slice (some ⟨g4, 0, none⟩) (n + 1) d5]) := HN5.out.put 4 (.slice (some ⟨g4, 0, none⟩) (n + 1) d5)
   have HO6 := zh (own_like9 (w' := (w5.setCell ⟨gn, 4, none⟩ (.slice (some ⟨g4, 0, none⟩) (n + 1) d5))) HO5.out (fun k hk e => (Else.setCell w5 ⟨gn, 4, none⟩ (.slice (some ⟨g4, 0, none⟩) (n + 1) d5)).block k (by have h1 := HO5.out.lt k e; have h2 := HLT.out; show k ≠ gn; omega)))
   have HD6 := zh (HD5.out.keep (w' := (w5.setCell ⟨gn, 4, none⟩ (.slice (some ⟨g4, 0, none⟩) (n + 1) d5))) (ok' := fun k => W1.heap.size ≤ k ∧ (Value.slice (some ⟨g4, 0, none⟩) (n + 1) d5).ownBlock ≠ some k) (Nat.le_of_eq (Else.setCell w5 ⟨gn, 4, none⟩ (.slice (some ⟨g4, 0, none⟩) (n + 1) d5)).size.symm) (fun k hk h => (Else.setCell w5 ⟨gn, 4, none⟩ (.slice (some ⟨g4, 0, none⟩) (n + 1) d5)).block k (by have h2 := HLT.out; have h3 := h.1; show k ≠ gn; omega)) (fun _ _ h => h))
   refine hK.out _ _ (SI.out _ HM6.out) ?_
   clear hK K own5 there5 k4 f4
   (try simp only [Act.put, zA4, zA5, zA6])
   generalize (w5.setCell ⟨gn, 4, none⟩ (.slice (some ⟨g4, 0, none⟩) (n + 1) d5)) = w6 at *
   obtain ⟨own6, there6⟩ := own_fill HO6.out HNCS.out (ys := [.int .i64 6, .int .i64 0, .string s, .slice Y (nmd names rr).length dd, .slice none 0 0]) rfl
   (refine wpOT_solo (zO rfl) ?_)
   intro K hK
   rw [if_pos (by rfl)]
   refine wp_store_mid 120 _ _ rfl g4 (n * 5) #[.int .i64 6, .int .i64 0, .string s, .slice Y (nmd names rr).length dd, .slice none 0 0] rfl rfl there6 (node_info _ _ _ _ _) (by simp [Value.oneCell']) ?_
   have HF := zh (SP.fin_b (f := f) (i := i) HLT.out hne4 hg4B HN6.out own6 HD6.out HM6.out HN.out)
   refine hK.out _ _ (SI.out _ HF.out.1) ?_
   clear hK K own6 there6
   (try simp only [Act.put, zA4, zA5, zA6])
   refine wpOT_done ?_
   go_wp2_with fail
   go_ret
   exact ⟨rfl, by rw [← HL3.out]; exact HF.out.2⟩
 ·(refine wpOT_solo (zO rfl) ?_)
  intro K hK
  go_simp
  refine hK.out _ _ (SI.out _ HMB0.out) ?_
  clear hK K
  (try simp only [Act.put, zA4, zA5, zA6])
  generalize (V.alloc (.cells #[.int .i64 0, .int .i64 0, .string ⟨#[]⟩, .slice none 0 0, .slice none 0 0] 120)) = wb at *
  generalize V.heap.size = g9 at *
  have HMwb := HMB0
  have HNB := HNB0
  have k4 : wb.cell? ⟨gn, 4, none⟩ = some (.slice X n d) := (RowAt.cell HNB.out 4).trans rfl
  (refine wpOT_solo (zO rfl) ?_)
  intro K hK
  go_simp
  refine hK.out _ _ (SI.out _ HMwb.out) ?_
  clear hK K
  (try simp only [Act.put, zA4, zA5, zA6])
  clear k4
  iterate 1
   (refine wpOT_step (zO rfl) ?_)
   (first
    | (refine wpOT_skip (by rfl) ?_)
    | (refine wpOT_take (v := ?_) (by rfl) ?_ ?_; rotate_left 1; (intro wx hSx; go_simp; try with_reducible rfl)))
   (try simp only [Act.put, zA4, zA5, zA6])
  (refine wpOT_solo (zO rfl) ?_)
  intro K hK
  rw [if_pos (by rfl)]
  refine wp_moreB _ _ 118 rfl 120 (.agg #[.int .i64 0, .int .i64 0, .string ⟨#[]⟩, .slice none 0 0, .slice none 0 0]) 5 80 Tryz.underlying118 infoNode rfl (by decide) W1.heap.size X n d (ncs zs) rfl HOG0.out g9 [.int .i64 0, .int .i64 0, .string ⟨#[]⟩, .slice none 0 0, .slice none 0 0] rfl rfl ?c2_2 (by simp [Value.oneCell']) ?c3_2 ?c4_2 ?c5_2 ?_
  case c2_2 => intro j u hu; exact (HRG0.out.cell j).trans (by show (([.int .i64 0, .int .i64 0, .string ⟨#[]⟩, .slice none 0 0, .slice none 0 0] : List Value).toArray)[j]? = some u; rw [zA1]; exact hu)
  case c3_2 => simp only [maxLen]; omega
  case c4_2 => omega
  case c5_2 => exact HMwb.out.size
  intro X5 d5 w5 hown5 hb5 hg5 hat5
  obtain ⟨g4, rfl, hg4B, hg4lt, hg4f, _⟩ := own_at hown5 (by intro e; have := congrArg List.length e; rw [zA7] at this; simp at this)
  have HN5 := zh (HNB.out.below hb5 HLT.out)
  have HM5 := zh (HMwb.out.onBelow HLT.out hb5 (zL _))
  have HD5 := zh (deep_grown (n := n) (m := n + 1) HDG0.out hg5 hat5)
  have HO5 := zh hown5
  have hne4 : g4 ≠ gn := by have := HLT.out; omega
  refine hK.out _ _ (SI.out _ HM5.out) ?_
  clear hK K
  (try simp only [Act.put, zA4, zA5, zA6])
  clear hown5 hb5 hg5 hat5 HNB HMwb HDG0 HOG0 HRG0
  iterate 2
   (refine wpOT_step (zO rfl) ?_)
   (first
    | (refine wpOT_skip (by rfl) ?_)
    | (refine wpOT_take (v := ?_) (by rfl) ?_ ?_; rotate_left 1; (intro wx hSx; go_simp; try with_reducible rfl)))
   (try simp only [Act.put, zA4, zA5, zA6])
  obtain ⟨own5, there5⟩ := own_fill HO5.out HNCS.out (ys := [.int .i64 6, .int .i64 0, .string s, .slice Y (nmd names rr).length dd, .slice none 0 0]) rfl
  refine wpOT_two ?_ ?_
  ·(refine wpOT_solo (zO rfl) ?_)
   intro K hK
   rw [if_pos (by rfl)]
   refine wp_store_mid 120 _ _ rfl g4 (n * 5) #[.int .i64 6, .int .i64 0, .string s, .slice Y (nmd names rr).length dd, .slice none 0 0] rfl rfl there5 (node_info _ _ _ _ _) (by simp [Value.oneCell']) ?_
   have HM6 : Hid (Mv gn W1 (w5.setCells g4 (n * 5) [.int .i64 6, .int .i64 0, .string s, .slice Y (nmd names rr).length dd, .slice none 0 0])) := HM5.out.onBelow HLT.out (setCells_below (B := W1.heap.size) hg4B _ _) (zL _)
   have HN6 : Hid (RowAt (w5.setCells g4 (n * 5) [.int .i64 6, .int .i64 0, .string s, .slice Y (nmd names rr).length dd, .slice none 0 0]) gn 120 #[.int .i64 5, .int .i64 0, .string ⟨#[]⟩, .slice none 0 0, .slice X n d]) := (setCells_other _ _ _ _ _ hne4.symm).trans HN5.out
   have k4 : (w5.setCells g4 (n * 5) [.int .i64 6, .int .i64 0, .string s, .slice Y (nmd names rr).length dd, .slice none 0 0]).cell? ⟨gn, 4, none⟩ = some (.slice X n d) := (RowAt.cell HN6.out 4).trans rfl
   have f4 := HN6.out.free 4
   have HF := zh (SP.fin_a (f := f) (i := i) (u := .slice (some ⟨g4, 0, none⟩) (n + 1) d5) HLT.out hne4 hg4B HN6.out own5 (HD5.out.keep (Nat.le_of_eq (setCells_size _ _ _ _).symm) (fun k _ h => setCells_other _ _ _ _ _ (fun e => h.2 (by rw [e]; rfl))) (fun _ _ h => h)) HM6.out rfl HN.out)
   refine hK.out _ _ (SI.out _ HM6.out) ?_
   clear hK K own5 there5
   (try simp only [Act.put, zA4, zA5, zA6])
   generalize (w5.setCells g4 (n * 5) [.int .i64 6, .int .i64 0, .string s, .slice Y (nmd names rr).length dd, .slice none 0 0]) = w6 at *
   (refine wpOT_solo (zO rfl) ?_)
   intro K hK
   go_simp
   refine hK.out _ _ (SI.out _ HF.out.1) ?_
   clear hK K
   (try simp only [Act.put, zA4, zA5, zA6])
   refine wpOT_done ?_
   go_wp2_with fail
   go_ret
   exact ⟨rfl, by rw [← HL3.out]; exact HF.out.2⟩
  ·have k4 : w5.cell? ⟨gn, 4, none⟩ = some (.slice X n d) := (RowAt.cell HN5.out 4).trans rfl
   have f4 := HN5.out.free 4
   (refine wpOT_solo (zO rfl) ?_)
   intro K hK
   go_simp
   have HM6 : Hid (Mv gn W1 (w5.setCell ⟨gn, 4, none⟩ (.slice (some ⟨g4, 0, none⟩) (n + 1) d5))) := HM5.out.setCell (p := ⟨gn, 4, none⟩) (.inl rfl) HLT.out _
   have HN6 : Hid (RowAt (w5.setCell ⟨gn, 4, none⟩ (.slice (some ⟨g4, 0, none⟩) (n + 1) d5)) gn 120 #[.int .i64 5, .int .i64 0, .string ⟨#[]⟩, .slice none 0 0, .slice (some ⟨g4, 0, none⟩) (n + 1) d5]) := HN5.out.put 4 (.slice (some ⟨g4, 0, none⟩) (n + 1) d5)
   have HO6 := zh (own_like9 (w' := (w5.setCell ⟨gn, 4, none⟩ (.slice (some ⟨g4, 0, none⟩) (n + 1) d5))) HO5.out (fun k hk e => (Else.setCell w5 ⟨gn, 4, none⟩ (.slice (some ⟨g4, 0, none⟩) (n + 1) d5)).block k (by have h1 := HO5.out.lt k e; have h2 := HLT.out; show k ≠ gn; omega)))
   have HD6 := zh (HD5.out.keep (w' := (w5.setCell ⟨gn, 4, none⟩ (.slice (some ⟨g4, 0, none⟩) (n + 1) d5))) (ok' := fun k => W1.heap.size ≤ k ∧ (Value.slice (some ⟨g4, 0, none⟩) (n + 1) d5).ownBlock ≠ some k) (Nat.le_of_eq (Else.setCell w5 ⟨gn, 4, none⟩ (.slice (some ⟨g4, 0, none⟩) (n + 1) d5)).size.symm) (fun k hk h => (Else.setCell w5 ⟨gn, 4, none⟩ (.slice (some ⟨g4, 0, none⟩) (n + 1) d5)).block k (by have h2 := HLT.out; have h3 := h.1; show k ≠ gn; omega)) (fun _ _ h => h))
   refine hK.out _ _ (SI.out _ HM6.out) ?_
   clear hK K own5 there5 k4 f4
   (try simp only [Act.put, zA4, zA5, zA6])
   generalize (w5.setCell ⟨gn, 4, none⟩ (.slice (some ⟨g4, 0, none⟩) (n + 1) d5)) = w6 at *
   obtain ⟨own6, there6⟩ := own_fill HO6.out HNCS.out (ys := [.int .i64 6, .int .i64 0, .string s, .slice Y (nmd names rr).length dd, .slice none 0 0]) rfl
   (refine wpOT_solo (zO rfl) ?_)
   intro K hK
   rw [if_pos (by rfl)]
   refine wp_store_mid 120 _ _ rfl g4 (n * 5) #[.int .i64 6, .int .i64 0, .string s, .slice Y (nmd names rr).length dd, .slice none 0 0] rfl rfl there6 (node_info _ _ _ _ _) (by simp [Value.oneCell']) ?_
   have HF := zh (SP.fin_b (f := f) (i := i) HLT.out hne4 hg4B HN6.out own6 HD6.out HM6.out HN.out)
   refine hK.out _ _ (SI.out _ HF.out.1) ?_
   clear hK K own6 there6
   (try simp only [Act.put, zA4, zA5, zA6])
   refine wpOT_done ?_
   go_wp2_with fail
   go_ret
   exact ⟨rfl, by rw [← HL3.out]; exact HF.out.2⟩
end
section
open Go.RowKit LX TR TM SP RM
theorem SP.kdK_2 {f : Fac} (h : f.kind = 2) : kdK f = 3 := by unfold kdK; rw [if_pos h]
theorem SP.kdK_3 {f : Fac} (h : f.kind = 3) : kdK f = 5 := by unfold kdK; rw [if_neg (by omega), if_pos h]
theorem SP.kdK_x {f : Fac} (h : f.kind ≠ 2) (h2 : f.kind ≠ 3) : kdK f = 2 := by unfold kdK; rw [if_neg h, if_neg h2]
theorem scon_any (f : Fac) (v : Nat) (hv : v < 18446744073709551616) (w : World) (hT : Tab w) (hf : FacOk w f) (h1 : facB f = true) (h2 : wordB f v = true) :
 Calls Tryz.prog 113 #[.agg (fv f), .int .u64 (v : Int)] w fun e w' => ∃ x, e = .returned x ∧ NodeV w' w.heap.size (conN f v) x ∧ Below w.heap.size w w' := by
 have hn64 := (facB_len h1).2
 have hmf : ∀ (fn : Fn) (first cap : Array Value) (w : World), (Instr.makeFunc fn first cap).run Tryz.prog w = .ok (.func fn first cap) w := fun _ _ _ _ => rfl
 have HKI : Hid (∀ W, Calls Tryz.prog 147 #[.agg (fv f)] W fun e w' => e = .returned (.int .i64 (kdK f)) ∧ Below W.heap.size W w') := fun W => skind_any f W hf.rows
 have HC : Hid (∀ W, RowAt W w.heap.size 64 (fv f) → W.cell? ⟨w.heap.size, 0, none⟩ = some (.int .i64 f.kind) ∧ W.cell? ⟨w.heap.size, 1, none⟩ = some (.slice f.A f.names.length f.c) ∧ W.cell? ⟨w.heap.size, 2, none⟩ = some (.int .i64 f.n) ∧ W.rangeAt w.heap.size 2 (rvl f.n f.l)) := fun W h => fac_cells h
 have HTB : Hid (∀ W, Below w.heap.size w W → Tab W ∧ FacOk W f) := fun W h => ⟨hT.below h, hf.below h⟩
 have HST : Hid (∀ i, i < f.names.length → ∃ bb o, f.A = some ⟨bb, o, none⟩ ∧ bb < w.heap.size ∧ w.cell? ⟨bb, o + i, none⟩ = some (.string (f.names.getD i ⟨#[]⟩))) := fun i hi => by
  obtain ⟨bb, o, hA, hbb, hcs⟩ := Sl.at_ hf.strs (by
   intro h0
   have h1 := congrArg List.length h0
   unfold scells at h1
   rw [List.length_map] at h1
   simp at h1
   rw [h1] at hi
   simp at hi)
  exact ⟨bb, o, hA, hbb, hcs i _ (by
   unfold scells
   rw [List.getElem?_map, List.getD_eq_getElem?_getD, List.getElem?_eq_getElem hi]; rfl)⟩
 have hl := hf.rows
 have hkind : f.kind = 1 ∨ f.kind = 2 ∨ f.kind = 3 ∨ f.kind = 4 := by
  rcases facB_kind h1 with h | h | h | h
  ·exact .inl h
  ·exact .inr (.inl h)
  ·exact .inr (.inr (.inl h.1))
  ·exact .inr (.inr (.inr h.1))
 have HPT : Hid (f.kind ≠ 2 → f.kind ≠ 3 → ∃ k : Nat, ptK f v = (k : Int) ∧ k < f.names.length) := fun a b => pt_fits h1 h2 a b
 have HSB : Hid (f.kind = 2 → ∀ i, v.testBit i = true → i < f.names.length) := fun hk => by
  unfold wordB at h2
  rw [if_neg (by omega), if_pos hk] at h2
  exact set_bits hv h2
 have HPN : Hid (f.kind = 3 → pts f.n = f.names.length) := fun hk => by
  have hr : relB f.kind f.n f.l f.names.length = true := by
   unfold facB at h1
   exact (Bool.and_eq_true_iff.1 h1).2
  rw [hk, relB_3] at hr
  exact of_decide_eq_true (Bool.and_eq_true_iff.1 hr).1
 have HG1 : Hid (f.kind = 2 → kdK f = 3 ∧ conN f v = nd 3 0 ⟨#[]⟩ (nmd f.names v) []) := fun hk => ⟨kdK_2 hk, by unfold conN; rw [if_pos hk]⟩
 have HG2 : Hid (f.kind = 3 → kdK f = 5 ∧ conN f v = nd 5 0 ⟨#[]⟩ [] (rulTo f.names f.n f.l v f.names.length)) := fun hk => ⟨kdK_3 hk, by unfold conN; rw [if_neg (by omega), if_pos hk]⟩
 have HG3 : Hid (f.kind ≠ 2 → f.kind ≠ 3 → kdK f = 2 ∧ conN f v = nd 2 0 (f.names.getD (ptK f v).toNat ⟨#[]⟩) [] []) := fun a b => ⟨kdK_x a b, by unfold conN; rw [if_neg a, if_neg b]⟩
 have hf0 := ((RowAt.new w 64 (fv f)).alloc (.cells #[.int .u64 (v : Int)] 39)).alloc (.cells #[.int .i64 0, .int .i64 0, .string ⟨#[]⟩, .slice none 0 0, .slice none 0 0] 120)
 have hv0 := (Box.new (w.alloc (.cells (fv f) 64)) 39 (.int .u64 (v : Int))).alloc (.cells #[.int .i64 0, .int .i64 0, .string ⟨#[]⟩, .slice none 0 0, .slice none 0 0] 120)
 have hr0 := RowAt.new ((w.alloc (.cells (fv f) 64)).alloc (.cells #[.int .u64 (v : Int)] 39)) 120 #[.int .i64 0, .int .i64 0, .string ⟨#[]⟩, .slice none 0 0, .slice none 0 0]
 rw [show (w.alloc (.cells (fv f) 64)).heap.size = w.heap.size + 1 by simp] at hv0
 rw [show ((w.alloc (.cells (fv f) 64)).alloc (.cells #[.int .u64 (v : Int)] 39)).heap.size = w.heap.size + 2 by simp] at hr0
 have HFw1 := zh hf0
 have HVw1 := zh hv0
 have HRw1 := zh hr0
 have HBw1 : Hid (Below w.heap.size w (((w.alloc (.cells (fv f) 64)).alloc (.cells #[.int .u64 (v : Int)] 39)).alloc (.cells #[.int .i64 0, .int .i64 0, .string ⟨#[]⟩, .slice none 0 0, .slice none 0 0] 120))) := (((zB _ _).alloc (zL _) _).alloc (by simp) _).alloc (by simp; omega) _
 clear hf0 hv0 hr0 hf hT h1 h2
 generalize kdK f = kq at *
 generalize conN f v = CN at *
 refine calls_hid fun Q' hQ => ?_
 have HQ := zh hQ; clear hQ
 go_enter Tryz.func113, Tryz.ntmps113
 go_upto_region 1 with fail
 generalize (((w.alloc (.cells (fv f) 64)).alloc (.cells #[.int .u64 (v : Int)] 39)).alloc (.cells #[.int .i64 0, .int .i64 0, .string ⟨#[]⟩, .slice none 0 0, .slice none 0 0] 120)) = w1 at *
 go_wp2_with (refine wpList_loadFac (by rfl) _ rfl w.heap.size rfl f hl HFw1.out ?_)
 refine (HKI.out w1).mono ?_
 rintro e w2 ⟨rfl, hb⟩
 have HF2 := zh (HFw1.out.below hb HFw1.out.lt)
 have HV2 := zh (HVw1.out.below hb HVw1.out.lt)
 have HR2 := zh (HRw1.out.below hb HRw1.out.lt)
 have HB2 := zh (HBw1.out.trans (hb.mono HBw1.out.size))
 clear hb HFw1 HVw1 HRw1 HBw1 HKI
 go_upto_region 2 with fail
 have HFw3 := zh (HF2.out.alloc (.cells #[.int .i64 kq, .int .i64 0, .string ⟨#[]⟩, .slice none 0 0, .slice none 0 0] 120))
 have HVw3 := zh (HV2.out.alloc (.cells #[.int .i64 kq, .int .i64 0, .string ⟨#[]⟩, .slice none 0 0, .slice none 0 0] 120))
 have HRw3 := zh (HR2.out.alloc (.cells #[.int .i64 kq, .int .i64 0, .string ⟨#[]⟩, .slice none 0 0, .slice none 0 0] 120))
 have HNw3 := zh (RowAt.new w2 120 #[.int .i64 kq, .int .i64 0, .string ⟨#[]⟩, .slice none 0 0, .slice none 0 0])
 have HBw3 := zh (HB2.out.alloc HB2.out.size (.cells #[.int .i64 kq, .int .i64 0, .string ⟨#[]⟩, .slice none 0 0, .slice none 0 0] 120))
 have hgn : w.heap.size + 2 < w2.heap.size := HR2.out.lt
 clear HF2 HV2 HR2 HB2
 generalize w2.alloc (.cells #[.int .i64 kq, .int .i64 0, .string ⟨#[]⟩, .slice none 0 0, .slice none 0 0] 120) = w3 at *
 generalize w2.heap.size = gn at *
 have hlt3 : gn < w3.heap.size := HNw3.out.lt
 obtain ⟨c0, c1, c2, c3⟩ := HC.out _ HFw3.out
 have cv := HVw3.out.cell
 generalize hKD : f.kind = kd at *
 have HKD := zh hKD; clear hKD
 rcases hkind with hk | hk | hk | hk
 ·have t1 : (kd == 1) = true := by simp [hk]
  obtain ⟨k, hpk, hkn⟩ := HPT.out (by omega) (by omega)
  obtain ⟨rfl, hCN⟩ := HG3.out (by omega) (by omega)
  rw [hpk, Int.toNat_natCast] at hCN
  have hp2 : RG.lv f.names.length v = (k : Int) := by
   have h5 := hpk
   unfold ptK at h5
   rw [if_neg (by rw [HKD.out]; omega)] at h5
   exact h5
  have HLV := zh (rungLevel_any (f.names.length : Int) v hv w3)
  rw [hp2] at HLV
  obtain ⟨bb, o, hA, hbb, hci⟩ := HST.out k hkn
  have hci3 := (below_cell HBw3.out hbb).trans hci
  have HCN := zh hCN
  clear hk hpk hp2 hCN hci HG1 HG2 HG3 HPT HSB HPN HST HKD
  generalize RG.lvB f.names.length v = lb at *
  generalize f.names.getD k ⟨#[]⟩ = s at *
  generalize f.names.length = nn at *
  rw [hA] at c1
  have hin : (k : Int) < (nn : Int) := by omega
  obtain ⟨g0, g1, g2, g3, g4, y0, y1, y2, y3, y4⟩ := row5 HNw3.out
  go_wp2_with fail
  refine HLV.out.mono ?_
  rintro e w4 ⟨rfl, rfl⟩
  go_upto_region 13 with fail
  have HFw4 := zh (HFw3.out.far (p := ⟨gn, 2, none⟩) (by show gn ≠ w.heap.size; omega) (.string s))
  have HRw4 := zh (HRw3.out.far (p := ⟨gn, 2, none⟩) (by show gn ≠ w.heap.size + 2; omega) (.string s))
  have HNw4 : Hid (RowAt (w3.setCell ⟨gn, 2, none⟩ (.string s)) gn 120 #[.int .i64 2, .int .i64 0, .string s, .slice none 0 0, .slice none 0 0]) := HNw3.out.put 2 (.string s)
  have HBw4 := zh (HBw3.out.setCell (p := ⟨gn, 2, none⟩) (by show w.heap.size ≤ gn; omega) (.string s))
  clear c0 c1 c2 c3 g0 g1 g2 g3 g4 y0 y1 y2 y3 y4 HFw3 HRw3 HNw3 HBw3 cv hci3
  generalize w3.setCell ⟨gn, 2, none⟩ (.string s) = w4 at *
  obtain ⟨m0, m1, m2, m3, m4, _, _, _, _, _⟩ := row5 HNw4.out
  obtain ⟨r0, r1, r2, r3, r4, u0, u1, u2, u3, u4⟩ := row5 HRw4.out
  go_wp2_with fail
  change bodyPost _ _ _ _ _ (set5 w4 (w.heap.size + 2) (.int .i64 2) (.int .i64 0) (.string s) (.slice none 0 0) (.slice none 0 0))
  have hrow := set5_row (a0 := .int .i64 2) (b0 := .int .i64 0) (c0 := .string s) (d0 := (.slice none 0 0)) (e0 := (.slice none 0 0)) HRw4.out
  have hbf := HBw4.out.trans (set5_below (a0 := .int .i64 2) (b0 := .int .i64 0) (c0 := .string s) (d0 := (.slice none 0 0)) (e0 := (.slice none 0 0)) (w := w4) (b := w.heap.size) (g := w.heap.size + 2) (by omega))
  exact bodyPost_ret (ret_cell rfl _ _ (w.heap.size + 2) _ _ (0, 0) _ rfl hrow Tryz.underlying120 rfl (node_info _ _ _ _ _)) rfl (HQ.out _ _ ⟨_, rfl, (by rw [HCN.out]; exact nodeV_leaf _ _ _ _ _), hbf⟩)
 ·have t1 : (kd == 1) = false := by simp [hk]
  have t2 : (kd == 2) = true := by simp [hk]
  obtain ⟨rfl, hCN⟩ := HG1.out hk
  have HND := zh (snamed_any f v hv (HSB.out hk) hn64 w3 (HTB.out w3 HBw3.out).1 (HTB.out w3 HBw3.out).2)
  have HCN := zh hCN
  clear hk hCN HG1 HG2 HG3 HPT HSB HPN HST HKD
  generalize nmd f.names v = NS at *
  go_wp2_with (refine wpList_loadFac (by rfl) _ rfl w.heap.size rfl f hl HFw3.out ?_)
  refine HND.out.mono ?_
  rintro e w4 ⟨Y, dd, rfl, hd, hsl, hb⟩
  have HSL := zh hsl
  have hs4 := hb.size
  clear hsl
  have HFw4 := zh (HFw3.out.below hb HFw3.out.lt)
  have HVw4 := zh (HVw3.out.below hb HVw3.out.lt)
  have HRw4 := zh (HRw3.out.below hb HRw3.out.lt)
  have HNw4 := zh (HNw3.out.below hb HNw3.out.lt)
  have HBw4 := zh (HBw3.out.trans (hb.mono HBw3.out.size))
  clear hb
  clear c0 c1 c2 c3 cv
  obtain ⟨g0, g1, g2, g3, g4, y0, y1, y2, y3, y4⟩ := row5 HNw4.out
  go_upto_region 13 with fail
  have HSL5 : Hid (SlC (w4.setCell ⟨gn, 3, none⟩ (.slice Y NS.length dd)) (fun k => w3.heap.size ≤ k) Y (wcs NS)) := HSL.out.keep (Nat.le_of_eq (Else.setCell w4 ⟨gn, 3, none⟩ (.slice Y NS.length dd)).size.symm) (fun k _ hk => (Else.setCell w4 ⟨gn, 3, none⟩ (.slice Y NS.length dd)).block k (by show k ≠ gn; omega)) (fun _ _ h => h)
  have HRw5 := zh (HRw4.out.far (p := ⟨gn, 3, none⟩) (by show gn ≠ w.heap.size + 2; omega) (.slice Y NS.length dd))
  have HNw5 : Hid (RowAt (w4.setCell ⟨gn, 3, none⟩ (.slice Y NS.length dd)) gn 120 #[.int .i64 3, .int .i64 0, .string ⟨#[]⟩, .slice Y NS.length dd, .slice none 0 0]) := HNw4.out.put 3 (.slice Y NS.length dd)
  have HBw5 := zh (HBw4.out.setCell (p := ⟨gn, 3, none⟩) (by show w.heap.size ≤ gn; omega) (.slice Y NS.length dd))
  clear g0 g1 g2 g3 g4 y0 y1 y2 y3 y4 HFw4 HRw4 HNw4 HBw4 HVw4 HSL
  generalize w4.setCell ⟨gn, 3, none⟩ (.slice Y NS.length dd) = w5 at *
  obtain ⟨m0, m1, m2, m3, m4, _, _, _, _, _⟩ := row5 HNw5.out
  obtain ⟨r0, r1, r2, r3, r4, u0, u1, u2, u3, u4⟩ := row5 HRw5.out
  go_wp2_with fail
  change bodyPost _ _ _ _ _ (set5 w5 (w.heap.size + 2) (.int .i64 3) (.int .i64 0) (.string ⟨#[]⟩) (.slice Y NS.length dd) (.slice none 0 0))
  have hrow := set5_row (a0 := .int .i64 3) (b0 := .int .i64 0) (c0 := .string ⟨#[]⟩) (d0 := (.slice Y NS.length dd)) (e0 := (.slice none 0 0)) HRw5.out
  have hbf := HBw5.out.trans (set5_below (a0 := .int .i64 3) (b0 := .int .i64 0) (c0 := .string ⟨#[]⟩) (d0 := (.slice Y NS.length dd)) (e0 := (.slice none 0 0)) (w := w5) (b := w.heap.size) (g := w.heap.size + 2) (by omega))
  exact bodyPost_ret (ret_cell rfl _ _ (w.heap.size + 2) _ _ (0, 0) _ rfl hrow Tryz.underlying120 rfl (node_info _ _ _ _ _)) rfl (HQ.out _ _ ⟨_, rfl, (by rw [HCN.out]; exact nodeV_names trivial hd (set5_slc HSL5.out fun k _ h8 => ⟨by omega, by omega⟩)), hbf⟩)
 ·have t1 : (kd == 1) = false := by simp [hk]
  have t2 : (kd == 2) = false := by simp [hk]
  have t3 : (kd == 3) = true := by simp [hk]
  obtain ⟨rfl, hCN⟩ := HG2.out hk
  have hpt := HPN.out hk
  rw [rul_els hpt hn64] at hCN
  have HCN := zh hCN
  have HOW := zh (gowners_any f.n f.l hl v hv w3)
  have howl := gOwners_lt f.n f.l v
  have h64e := MM.els_length (gOwners f.n f.l v)
  have HBI : Hid (∀ j, j < (MM.els (gOwners f.n f.l v)).length → (MM.els (gOwners f.n f.l v)).getD j 0 < f.names.length) := fun j hj => by
   show _ < _
   rw [← hpt]
   exact (ow_bits (els_bit hj).1).1
  clear hk hCN HG1 HG2 HG3 HPT HSB HPN HKD
  go_wp2_with (refine wpList_loadRelIn (by rfl) _ rfl w.heap.size 2 rfl f.n f.l hl c3 ?_)
  refine HOW.out.mono ?_
  rintro e w4 ⟨rfl, hb⟩
  have hs4 := hb.size
  have HFw4 := zh (HFw3.out.below hb HFw3.out.lt)
  have HVw4 := zh (HVw3.out.below hb HVw3.out.lt)
  have HRw4 := zh (HRw3.out.below hb HRw3.out.lt)
  have HNw4 := zh (HNw3.out.below hb HNw3.out.lt)
  have HBw4 := zh (HBw3.out.trans (hb.mono HBw3.out.size))
  clear hb
  clear c0 c1 c2 c3 cv
  generalize gOwners f.n f.l v = OW at *
  go_wp2_with fail
  refine (each_any OW howl 151 #[.pointer (some ⟨w.heap.size, 0, none⟩), .pointer (some ⟨w.heap.size + 1, 0, none⟩), .pointer (some ⟨gn, 0, none⟩)] w4 (fun _ _ => by kernel_rfl) (fun j W => GotN gn w4 (((MM.els OW).take j).map (rulN f.names f.n f.l v)) W) (fun W => GotN gn w4 ((MM.els OW).map (rulN f.names f.n f.l v)) W)
   (fun j W h => (HTB.out W (by obtain ⟨_, _, _, _, _, _, _, h⟩ := h; exact HBw4.out.trans (h.low.mono (by omega)))).1) ⟨[], none, 0, HNw4.out, by rw [List.take_zero, TM.er]; rfl, World.ownsRow_nil _ _ _ _, DeepN.nil _ _, Mv.refl _ _⟩ (fun W h => by rw [List.take_length] at h; exact h) ?_).mono ?_
  ·intro j W hj h
   obtain ⟨bb, o, hA, hbb, hci⟩ := HST.out _ (HBI.out j hj)
   refine (sconstant1_any gn w.heap.size (w.heap.size + 1) w4 f v hv HFw4.out HVw4.out (by omega) (by omega) HNw4.out.lt bb o hA (by omega) (by omega) (fun W hm => HTB.out W (HBw4.out.trans (hm.low.mono (by omega)))) hpt hn64 _ ?_ ((MM.els OW).getD j 0) (HBI.out j hj) ((below_cell HBw4.out hbb).trans hci) W h).mono ?_
   ·rw [List.length_map, List.length_take]; omega
   ·rintro e W' ⟨rfl, hG⟩
    exact .inl ⟨rfl, by rw [map_take _ _ _ hj]; exact hG⟩
  ·rintro e w5 ⟨rfl, zs, X, d, hrow, her, hown, hdeep, hm⟩
   have HRw5 := zh (HRw4.out.mv hm (by omega))
   have HNw5 := zh hrow
   have HBw5 := zh (HBw4.out.trans (hm.low.mono (by omega)))
   have HER := zh her
   have HO := zh hown
   have HD := zh hdeep
   have hlt4 : gn < w4.heap.size := HNw4.out.lt
   clear hrow her hown hdeep hm HFw4 HVw4 HRw4 HNw4 HBw4
   obtain ⟨m0, m1, m2, m3, m4, _, _, _, _, _⟩ := row5 HNw5.out
   obtain ⟨r0, r1, r2, r3, r4, u0, u1, u2, u3, u4⟩ := row5 HRw5.out
   go_wp2_with fail
   change bodyPost _ _ _ _ _ (set5 w5 (w.heap.size + 2) (.int .i64 5) (.int .i64 0) (.string ⟨#[]⟩) (.slice none 0 0) (.slice X zs.length d))
   have hrow := set5_row (a0 := .int .i64 5) (b0 := .int .i64 0) (c0 := .string ⟨#[]⟩) (d0 := (.slice none 0 0)) (e0 := (.slice X zs.length d)) HRw5.out
   have hbf := HBw5.out.trans (set5_below (a0 := .int .i64 5) (b0 := .int .i64 0) (c0 := .string ⟨#[]⟩) (d0 := (.slice none 0 0)) (e0 := (.slice X zs.length d)) (w := w5) (b := w.heap.size) (g := w.heap.size + 2) (by omega))
   exact bodyPost_ret (ret_cell rfl _ _ (w.heap.size + 2) _ _ (0, 0) _ rfl hrow Tryz.underlying120 rfl (node_info _ _ _ _ _)) rfl (HQ.out _ _ ⟨_, rfl, (by rw [HCN.out, ← HER.out]; exact nodeV_kids (own_cap_le HO.out) (set5_slc (SlC.of_own HO.out (ok := fun k => w4.heap.size ≤ k) fun k h _ => h) fun k _ h8 => ⟨by omega, by omega⟩) (set5_deep HD.out fun k _ h8 => ⟨by have := h8.1; omega, by have := h8.1; omega⟩)), hbf⟩)
 ·have t1 : (kd == 1) = false := by simp [hk]
  have t2 : (kd == 2) = false := by simp [hk]
  have t3 : (kd == 3) = false := by simp [hk]
  have t4 : (kd == 4) = true := by simp [hk]
  obtain ⟨k, hpk, hkn⟩ := HPT.out (by omega) (by omega)
  obtain ⟨rfl, hCN⟩ := HG3.out (by omega) (by omega)
  rw [hpk, Int.toNat_natCast] at hCN
  have hp2 : (((ptO f.n f.l v).getD 0 : Nat) : Int) = (k : Int) := by
   have h5 := hpk
   unfold ptK at h5
   rw [if_pos (by rw [HKD.out]; omega)] at h5
   exact h5
  have HLV := zh (hpoint_any f.n f.l hl v w3)
  obtain ⟨bb, o, hA, hbb, hci⟩ := HST.out k hkn
  have HCN := zh hCN
  have HP2 := zh hp2
  clear hk hpk hp2 hCN HG1 HG2 HG3 HPT HSB HPN HST HKD
  generalize ptO f.n f.l v = po at *
  generalize hnk : f.names.getD k ⟨#[]⟩ = s at *
  clear hnk
  go_wp2_with (refine wpList_loadRelIn (by rfl) _ rfl w.heap.size 2 rfl f.n f.l hl c3 ?_)
  refine HLV.out.mono ?_
  rintro e w4 ⟨rfl, hb⟩
  have HFw4 := zh (HFw3.out.below hb HFw3.out.lt)
  have HVw4 := zh (HVw3.out.below hb HVw3.out.lt)
  have HRw4 := zh (HRw3.out.below hb HRw3.out.lt)
  have HNw4 := zh (HNw3.out.below hb HNw3.out.lt)
  have HBw4 := zh (HBw3.out.trans (hb.mono HBw3.out.size))
  clear hb
  clear c0 c1 c2 c3 cv
  obtain ⟨c0, c1, c2, c3⟩ := HC.out _ HFw4.out
  have hci3 := (below_cell HBw4.out hbb).trans hci
  clear hci
  unfold optV
  rw [HP2.out]
  generalize po.isSome = pb
  generalize f.names.length = nn at *
  rw [hA] at c1
  have hin : (k : Int) < (nn : Int) := by omega
  obtain ⟨g0, g1, g2, g3, g4, y0, y1, y2, y3, y4⟩ := row5 HNw4.out
  go_upto_region 13 with fail
  have HRw5 := zh (HRw4.out.far (p := ⟨gn, 2, none⟩) (by show gn ≠ w.heap.size + 2; omega) (.string s))
  have HNw5 : Hid (RowAt (w4.setCell ⟨gn, 2, none⟩ (.string s)) gn 120 #[.int .i64 2, .int .i64 0, .string s, .slice none 0 0, .slice none 0 0]) := HNw4.out.put 2 (.string s)
  have HBw5 := zh (HBw4.out.setCell (p := ⟨gn, 2, none⟩) (by show w.heap.size ≤ gn; omega) (.string s))
  clear c0 c1 c2 c3 g0 g1 g2 g3 g4 y0 y1 y2 y3 y4 HFw4 HRw4 HNw4 HBw4 HVw4 hci3
  generalize w4.setCell ⟨gn, 2, none⟩ (.string s) = w5 at *
  obtain ⟨m0, m1, m2, m3, m4, _, _, _, _, _⟩ := row5 HNw5.out
  obtain ⟨r0, r1, r2, r3, r4, u0, u1, u2, u3, u4⟩ := row5 HRw5.out
  go_wp2_with fail
  change bodyPost _ _ _ _ _ (set5 w5 (w.heap.size + 2) (.int .i64 2) (.int .i64 0) (.string s) (.slice none 0 0) (.slice none 0 0))
  have hrow := set5_row (a0 := .int .i64 2) (b0 := .int .i64 0) (c0 := .string s) (d0 := (.slice none 0 0)) (e0 := (.slice none 0 0)) HRw5.out
  have hbf := HBw5.out.trans (set5_below (a0 := .int .i64 2) (b0 := .int .i64 0) (c0 := .string s) (d0 := (.slice none 0 0)) (e0 := (.slice none 0 0)) (w := w5) (b := w.heap.size) (g := w.heap.size + 2) (by omega))
  exact bodyPost_ret (ret_cell rfl _ _ (w.heap.size + 2) _ _ (0, 0) _ rfl hrow Tryz.underlying120 rfl (node_info _ _ _ _ _)) rfl (HQ.out _ _ ⟨_, rfl, (by rw [HCN.out]; exact nodeV_leaf _ _ _ _ _), hbf⟩)
end
section
open Go.RowKit LX TR TM SP RM
def SP.GotK (gn : Nat) (k : Int) (W1 : World) (l : List Nd) (W : World) : Prop :=
 ∃ zs X d, RowAt W gn 120 #[.int .i64 k, .int .i64 0, .string ⟨#[]⟩, .slice none 0 0, .slice X zs.length d] ∧ TM.er zs = l ∧ W.ownsRow W1.heap.size 120 5 (.slice X zs.length d) zs.length (ncs zs) ∧ DeepN W (fun k => W1.heap.size ≤ k ∧ (Value.slice X zs.length d).ownBlock ≠ some k) zs ∧ Mv gn W1 W
theorem SP.finK {gn n d d5 : Nat} {k : Int} {X X5 : Option Addr} {W1 w6 : World} {zs : List Nd} {z : Nd} (hlt : gn < W1.heap.size) (hn : RowAt w6 gn 120 #[.int .i64 k, .int .i64 0, .string ⟨#[]⟩, .slice none 0 0, .slice X n d])
 (ho : w6.ownsRow W1.heap.size 120 5 (.slice X5 (zs.length + 1) d5) (zs.length + 1) (ncs zs ++ ncells z))
 (hd : DeepN w6 (fun k => W1.heap.size ≤ k ∧ (Value.slice X5 (zs.length + 1) d5).ownBlock ≠ some k) (zs ++ [z])) (hm : Mv gn W1 w6) :
 Mv gn W1 (w6.setCell ⟨gn, 4, none⟩ (.slice X5 (zs.length + 1) d5)) ∧ GotK gn k W1 (TM.er (zs ++ [z])) (w6.setCell ⟨gn, 4, none⟩ (.slice X5 (zs.length + 1) d5)) := by
 have hm2 := hm.setCell (p := ⟨gn, 4, none⟩) (.inl rfl) hlt (.slice X5 (zs.length + 1) d5)
 have hl : (zs ++ [z]).length = zs.length + 1 := by rw [zA7]; rfl
 have he := Else.setCell w6 ⟨gn, 4, none⟩ (.slice X5 (zs.length + 1) d5)
 refine ⟨hm2, zs ++ [z], X5, d5, ?_, rfl, ?_, ?_, hm2⟩
 ·rw [hl]
  exact hn.put 4 (.slice X5 (zs.length + 1) d5)
 ·rw [hl, ncs_append, ncs_one]
  exact own_like9 ho (fun k hk e => he.block k (by have h1 := ho.lt k e; show k ≠ gn; omega))
 ·rw [hl]
  exact hd.keep (Nat.le_of_eq he.size.symm) (fun k hk h => he.block k (by have h3 := h.1; show k ≠ gn; omega)) (fun _ _ h => h)
theorem SP.one_nf {t : Bool} {fs : List Fac} {e : List Nat} (h : fitsE t fs e = true) (ht : t = false) : fs.length = 1 := by
 unfold fitsE at h
 have hr := (Bool.and_eq_true_iff.1 h).1
 unfold rightS at hr
 simp only [Bool.and_eq_true, decide_eq_true_eq, Bool.or_eq_true] at hr
 rcases hr.1.2 with h3 | h3
 ·rw [ht] at h3; cases h3
 ·exact h3
end
end Go.Proofs.YtnfndapgcpdcpaaGreatDoor
