/- Texts that all the claims need. Conditions: those that each states. -/
import Derived.BigRegion
import Derived.Laws.AppendOwnNone
import Derived.Test.YteachpfpcceamaaGreatDoorSk7
set_option linter.unusedSimpArgs false
set_option linter.unusedVariables false
set_option maxRecDepth 100000
set_option maxHeartbeats 40000000
namespace Go.Proofs.YteachpfpcceamaaGreatDoor
section
open Go.RowKit RM
end
section
open Go.RowKit RM
def pls (l : List Nat) (i j : Nat) : List Nat := (List.range j).filter fun y => bt l i y
theorem pls_yes {l : List Nat} {i j : Nat} (h : bt l i j = true) : pls l i (j + 1) = pls l i j ++ [j] := by simp [pls, List.range_succ, List.filter_append, h]
theorem pls_no {l : List Nat} {i j : Nat} (h : bt l i j = false) : pls l i (j + 1) = pls l i j := by simp [pls, List.range_succ, List.filter_append, h]
theorem pls_len (l : List Nat) (i j : Nat) : (pls l i j).length ≤ j := by
 have := List.length_filter_le (fun y => bt l i y) (List.range j)
 simpa [pls] using this
theorem pls_of (n : Int) (l : List Nat) (i : Nat) (hi : i < pts n) : MM.ofN (ei (pls l i (pts n))) = (cl n l).getD i 0 :=
 MM.ext64 (MM.ofN_lt _) ((RW.mk (pts n) (bt l)).lt i) fun y hy => by
  have h1 : ((cl n l).getD i 0).testBit y = bt (cl n l) i y := rfl
  rw [h1, bt_cl, MM.ofN_bit, Bool.eq_iff_iff]
  simp only [Bool.and_eq_true, decide_eq_true_eq, List.contains_iff_mem]
  unfold ei pls
  simp only [List.mem_map, List.mem_filter, List.mem_range]
  constructor
  ·rintro ⟨_, z, ⟨h2, h3⟩, e⟩
   obtain rfl : z = y := Int.ofNat.inj e
   exact ⟨⟨hi, h2⟩, h3⟩
  ·rintro ⟨⟨_, h2⟩, h3⟩
   exact ⟨hy, y, ⟨h2, h3⟩, rfl⟩
theorem plain_step {m c : List Nat} (hm : RW m) (i x : Nat) (hi : i < 64) (h : ∀ a, a < 64 → m.getD a 0 = if a < i then c.getD a 0 else 0) (hx : x = c.getD i 0) : ∀ a, a < 64 → (m.set i x).getD a 0 = if a < i + 1 then c.getD a 0 else 0 := by
 intro a ha
 rw [getD_set hm i x a hi]
 by_cases e : a = i
 ·subst e; rw [if_pos rfl, if_pos (by omega), hx]
 ·rw [if_neg e, h a ha]
  by_cases h2 : a < i
  ·rw [if_pos h2, if_pos (by omega)]
  ·rw [if_neg h2, if_neg (by omega)]
theorem plain_end {m c : List Nat} (p : Nat) (hm : RW m) (hc : RW c) (hz : ∀ a, p ≤ a → a < 64 → c.getD a 0 = 0) (h : ∀ a, a < 64 → m.getD a 0 = if a < p then c.getD a 0 else 0) : m = c :=
 rext hm hc fun i j hi _ => by
  unfold bt
  rw [h i hi]
  split
  ·rfl
  ·rw [hz i (by omega) hi]
theorem cl_zero (n : Int) (l : List Nat) (a : Nat) (h : pts n ≤ a) : (cl n l).getD a 0 = 0 :=
 MM.ext64 ((RW.mk (pts n) (bt l)).lt a) (by omega) fun y _ => by
  show bt (cl n l) a y = _
  rw [bt_cl]; simp; omega
theorem zs_getD (a : Nat) : zs.getD a 0 = 0 := by
 unfold zs
 rw [List.getD_eq_getElem?_getD]
 by_cases h : a < 64
 ·rw [List.getElem?_eq_getElem (by simpa using h), List.getElem_replicate]; rfl
 ·rw [List.getElem?_eq_none (by simp; omega)]; rfl
theorem qplain_any (n : Int) (l : List Nat) (hl : RW l) (w : World) :
 Calls Tryz.prog 120 #[.agg (rv n l)] w fun e w' => e = .returned (.agg (rv ((pts n : Nat) : Int) (cl n l))) ∧ Below w.heap.size w w' := by
 have hp := pts_le n
 have hc : RW (cl n l) := RW.mk _ _
 have HPT : Hid (∀ w, Calls Tryz.prog 160 #[.agg (rv n l)] w fun e w' => e = .returned (.int .i64 ((pts n : Nat) : Int)) ∧ Below w.heap.size w w') := fun w => qpoints_any n l w
 have HHAS : Hid (∀ a b : Nat, a < pts n → b < pts n → ∀ w, Calls Tryz.prog 161 #[.agg (rv n l), .int .i64 (a : Int), .int .i64 (b : Int)] w fun e w' => e = .returned (.bool (bt l a b)) ∧ Below w.heap.size w w') := fun a b h1 h2 w => qhas_in n l hl a b h1 h2 w
 have HOF : Hid (∀ i, i < pts n → MM.ofN (ei (pls l i (pts n))) = (cl n l).getD i 0) := fun i hi => pls_of n l i hi
 have HEND : Hid (∀ m, RW m → (∀ a, a < 64 → m.getD a 0 = if a < pts n then (cl n l).getD a 0 else 0) → m = cl n l) := fun m hm h => plain_end (pts n) hm hc (fun a h1 _ => cl_zero n l a h1) h
 generalize cl n l = lc at *
 generalize pts n = p at *
 have h1 : RelAt ((w.alloc (.cells (rv n l) 92)).alloc (.cells Tryz.zeroCells92 92)) w.heap.size n l := (RelAt.new w n l).alloc _
 obtain ⟨_, h2, hb⟩ := two_new w n l
 have HB := zh hb; clear hb
 have hs : w.heap.size + 1 < ((w.alloc (.cells (rv n l) 92)).alloc (.cells Tryz.zeroCells92 92)).heap.size := by simp
 have HS := zh hs; clear hs
 go_enter Tryz.func120, Tryz.ntmps120
 go_wp2_with (refine wpList_loadRel rfl _ rfl w.heap.size rfl n l hl h1 ?_)
 refine (HPT.out _).mono ?_
 rintro e w1 ⟨rfl, hb1⟩
 have r1 := h1.below hb1 (by have := HS.out; omega)
 have r2 := h2.below hb1 HS.out
 have hsz : w.heap.size + 1 < w1.heap.size := zT HS.out hb1.size
 have HB1 := zh (HB.out.trans (hb1.mono HB.out.size))
 clear h1 h2 hb1 HS HB
 go_wp2_with (refine wpList_storeRel rfl _ _ rfl w1.heap.size rfl (p : Int) zs ?c1 0 zs RW.zs RW.zs ?c2 ?_; (case c1 => exact congrArg Value.agg (by rw [zero_rel, rv_setN])); (case c2 => rw [zero_rel]; exact RelAt.new _ _ _); intro w2 r3 he)
 have k1 := (r1.alloc (.cells Tryz.zeroCells92 92)).other he (by omega)
 have k2 := (r2.alloc (.cells Tryz.zeroCells92 92)).other he (by omega)
 have HB2 := zh ((HB1.out.alloc HB1.out.size (.cells Tryz.zeroCells92 92)).trans (he.below HB1.out.size))
 clear he r1 r2 HB1
 have hg1 : w.heap.size ≠ w1.heap.size := by omega
 have hg2 : w.heap.size + 1 ≠ w1.heap.size := by omega
 have hg0 : w.heap.size ≤ w1.heap.size := by omega
 generalize w1.heap.size = g at *
 clear hsz
 go_loopw [4, 5, 6] (fun iv _ _ wr => ∃ (i : Nat) (m : List Nat), i ≤ p ∧ iv = .int .i64 i ∧ RW m ∧ RelAt wr w.heap.size n l ∧ RelAt wr (w.heap.size + 1) 0 zs ∧ RelAt wr g (p : Int) m ∧ Hid (Below w.heap.size w wr) ∧ Hid (∀ a, a < 64 → m.getD a 0 = if a < i then lc.getD a 0 else 0)) (fun iv _ _ _ => p - (intOf iv).toNat)
 case atStart => exact ⟨0, zs, by omega, rfl, RW.zs, k1, k2, r3, HB2, fun a _ => by rw [zs_getD]; simp⟩
 case round =>
  clear k1 k2 r3 HB2
  obtain ⟨i, m, hi, rfl, hm, r1, r2, r3, HB, HM⟩ := hrel
  have hc0 := r3.cell0
  by_cases hlt : i < p
  ·go_wp2_with fail
   clear hc0
   obtain ⟨wo, rfl⟩ : ∃ wo : World, wo = wr := ⟨_, rfl⟩
   go_loopw [5, 6] (fun v jv wr => ∃ (j k c : Nat) (A : Option Addr), j ≤ p ∧ jv = .int .i64 j ∧ v = .slice A k c ∧ Hid (k = (pls l i j).length) ∧ k ≤ 64 ∧ Hid (OwnI wr w.heap.size A c (ei (pls l i j))) ∧ RelAt wr w.heap.size n l ∧ RelAt wr (w.heap.size + 1) 0 zs ∧ RelAt wr g (p : Int) m ∧ Hid (Below w.heap.size w wr)) (fun _ jv _ => p - (intOf jv).toNat)
   case atStart => exact ⟨0, 0, 0, none, by omega, rfl, rfl, rfl, by omega, World.ownsRow_nil _ _ _ _, r1, r2, r3, HB⟩
   case round =>
        clear r1 r2 r3 HB
        obtain ⟨j, k, c, A, hj, rfl, rfl, HK, hk, HO, r1, r2, r3, HB⟩ := hrel
        have hc0 := r3.cell0
        by_cases hlt2 : j < p
        ·go_wp2_with (refine wpList_loadRel rfl _ rfl w.heap.size rfl n l hl r1 ?_)
         refine (HHAS.out i j hlt hlt2 _).mono ?_
         rintro e w4 ⟨rfl, hb4⟩
         have s1 := r1.below hb4 r1.lt
         have s2 := r2.below hb4 r2.lt
         have s3 := r3.below hb4 r3.lt
         have HO4 : Hid (OwnI w4 w.heap.size A c (ei (pls l i j))) := own_below HO.out hb4 (zL _)
         have HB4 := zh (HB.out.trans (hb4.mono HB.out.size))
         clear r1 r2 r3 HO HB hb4 hc0
         cases hbt : bt l i j with
         | false =>
           have HP : Hid (pls l i (j + 1) = pls l i j) := pls_no hbt
           clear hbt
           go_wp2_with fail
           go_roundw
           case rel => exact ⟨j + 1, k, c, A, by omega, by go_num, rfl, by rw [HP.out]; exact HK, hk, by rw [HP.out]; exact HO4, s1, s2, s3, HB4⟩
           case measure => simp [intOf]; omega
         | true =>
           have HP : Hid (pls l i (j + 1) = pls l i j ++ [j]) := pls_yes hbt
           have hlen := pls_len l i (j + 1)
           clear hbt
           have hown' : w4.ownsRow w.heap.size 3 1 (.slice A k c) k (cells (ei (pls l i j))) := by
            have h4 := HO4.out
            unfold OwnI at h4
            rw [ei_length, ← HK.out] at h4
            exact h4
           have hbs := HB4.out.size
           have N1 := zh (own_block hown' s1 (by decide))
           have N2 := zh (own_block hown' s2 (by decide))
           have N3 := zh (own_block hown' s3 (by decide))
           have HLEN := zh hlen; clear hlen HO4
           go_wp2_with (at_builtin; refine wpList_more _ rfl _ _ 65 rfl 3 (.int .i64 0) 1 8 Tryz.underlying65 infoInt rfl (by decide) (by decide) w.heap.size A k c (cells (ei (pls l i j))) rfl (hown'.alloc _) w4.heap.size 1 1 [.int .i64 (j : Int)] rfl rfl (by decide) (one_new _ _ _) ?c1 ?c2 ?c3 ?_; (case c1 => simp [Value.oneCell']); (case c2 => omega); (case c3 => simp; omega); intro A2 c2 w5 hown2 hb5 hgr; have HGR := zh hgr; clear hgr)
           have t1 := RelAt.grown (s1.alloc (.cells #[.int .i64 (j : Int)] 3)) HGR.out N1.out
           have t2 := RelAt.grown (s2.alloc (.cells #[.int .i64 (j : Int)] 3)) HGR.out N2.out
           have t3 := RelAt.grown (s3.alloc (.cells #[.int .i64 (j : Int)] 3)) HGR.out N3.out
           have HB5 := zh ((HB4.out.alloc hbs (.cells #[.int .i64 (j : Int)] 3)).trans hb5)
           have HK5 : Hid (k + 1 = (pls l i (j + 1)).length) := by rw [HP.out, zA7, ← HK.out]; exact rfl
           have hk5 : k + 1 ≤ 64 := by have := HLEN.out; rw [← HK5.out] at this; omega
           have HO5 : Hid (OwnI w5 w.heap.size A2 c2 (ei (pls l i (j + 1)))) := by
            show OwnI w5 w.heap.size A2 c2 (ei (pls l i (j + 1)))
            unfold OwnI
            rw [HP.out, ei_snoc, cells_snoc, zA7, ei_length, ← HK.out]
            exact hown2
           clear hown2 hb5 hown' hbs s1 s2 s3 HB4 N1 N2 N3 HLEN
           go_wp2_with fail
           go_roundw
           case rel => exact ⟨j + 1, k + 1, c2, A2, by omega, by go_num, rfl, HK5, hk5, HO5, t1, t2, t3, HB5⟩
           case measure => simp [intOf]; omega
        ·have e : j = p := by omega
         subst e
         have hof := fun w h => refOf_any A c (ei (pls l i j)) w (by rw [ei_length, ← HK.out]; omega) h
         rw [ei_length, ← HK.out, HOF.out i hlt] at hof
         have HOFF := zh hof; clear hof
         have HI := zh HO.out.ints
         have hx := hc.lt i
         have hcd := r3.cell hm i (by omega)
         have hfd := r3.free (1 + i)
         have hil : (i : Int) < 64 := by omega
         have HST : Hid (∀ x, x = lc.getD i 0 → ∀ a, a < 64 → (m.set i x).getD a 0 = if a < i + 1 then lc.getD a 0 else 0) := fun x hx => plain_step hm i x (by omega) HM.out hx
         generalize lc.getD i 0 = x at *
         go_wp2_with (go_at_call 162; refine (HOFF.out _ HI.out).mono ?_; rintro e w' ⟨rfl, rfl⟩)
         go_roundw
         case rel =>
          refine ⟨i + 1, m.set i x, by omega, by go_num, hm.set _ _ hx, ?_, ?_, ?_, ?_, HST.out x rfl⟩
          ·exact r1.far (p := ⟨g, 1 + i, none⟩) (fun e => hg1 e.symm) _
          ·exact r2.far (p := ⟨g, 1 + i, none⟩) (fun e => hg2 e.symm) _
          ·exact r3.put i _
          ·exact HB.out.setCell hg0 _
         case measure => simp [intOf]; omega
  ·have e : i = p := by omega
   subst e
   have hme := HEND.out m hm HM.out
   have HME := zh hme; clear hme
   go_wp2_with (first | (refine wpList_loadRel rfl _ rfl g rfl _ _ hm r3 ?_) | (refine wpList_storeRel rfl _ _ rfl (w.heap.size + 1) rfl _ _ rfl 0 zs RW.zs hm r2 ?_; intro w4 hr he))
   rw [HME.out] at hr
   exact bodyPost_ret (ret_rel rfl _ _ (w.heap.size + 1) _ _ (HME.out ▸ hm) rfl hr) rfl ⟨rfl, HB.out.trans (he.below (by omega))⟩
end
section
open Go.RowKit RM
section
variable {o : Oper} {a : Act} {S : World → Prop}
end
end
section
open Go.RowKit RM
end
section
open Go.RowKit RM
theorem PairAt.grown {w w' : World} {g : Nat} {lo hi : Int} {row : Option Nat} (h : PairAt w g lo hi) (hb : w.grownBy w' row) (hg : row ≠ some g) : PairAt w' g lo hi := (hb.block g h.lt (fun e => hg e.symm)).trans h
section
variable {o : Oper} {a : Act} {S : World → Prop}
end
end
section
open Go.RowKit RM
theorem qsame_any (n m : Int) (l k : List Nat) (hl : RW l) (hk : RW k) (w : World) :
 Calls Tryz.prog 90 #[.agg (rv n l), .agg (rv m k)] w fun e w' => e = .returned (.bool (eqRel (pts n : Nat) (pts m : Nat) (cl n l) (cl m k))) ∧ Below w.heap.size w w' := by
 go_enter Tryz.func90, Tryz.ntmps90
 go_wp2_with fail
 have hr1 : RelAt ((w.alloc (.cells (rv n l) 92)).alloc (.cells (rv m k) 92)) w.heap.size n l := (RelAt.new w n l).alloc _
 have hr2 : RelAt ((w.alloc (.cells (rv n l) 92)).alloc (.cells (rv m k) 92)) (w.heap.size + 1) m k := by
  have := RelAt.new (w.alloc (.cells (rv n l) 92)) m k
  simpa using this
 have hb : Below w.heap.size w ((w.alloc (.cells (rv n l) 92)).alloc (.cells (rv m k) 92)) := ((zB _ _).alloc (zL _) _).alloc (by simp) _
 obtain ⟨S, HS, p1, p2, PB, keep⟩ := ex_two _ _ _ _ _ _ _ _ _ hr1 hr2 hb
 have keepS := keep.out (by simp; omega)
 clear keep hr1 hr2 hb
 refine wp_region_ord S [(0, true), (2, true), (1, false), (3, false), (4, true), (5, true)] (by kernel_rfl) (by kernel_rfl) rfl (by kernel_rfl) HS.out ?_
 iterate 2
  (refine wpOrd_step (zO rfl) ?_)
  (first
        | (refine wpOrd_skip (by rfl) ?_)
        | (refine wpOrd_take (by rfl) (take_loadRel _ rfl _ rfl n l hl p1) ?_)
        | (refine wpOrd_take (by rfl) (take_loadRel _ rfl _ rfl m k hk p2) ?_)
        | (refine wpOrd_take (v := ?_) (by rfl) ?_ ?_; rotate_left 1; (intro wx hSx; go_simp; try with_reducible rfl)))
  (try simp only [Act.put, zA4, zA5, zA6])
 (refine wpOrd_solo (zO rfl) ?_)
 intro K hK
 go_simp
 go_at_call 120
 refine (qplain_any _ _ hl _).mono ?_
 rintro e w2 ⟨rfl, hb⟩
 have hS := keepS _ _ HS.out hb
 clear HS
 have HS := zh hS; clear hS hb
 refine hK.out _ _ HS.out ?_
 clear hK K
 (try simp only [Act.put, zA4, zA5, zA6])
 (refine wpOrd_solo (zO rfl) ?_)
 intro K hK
 go_simp
 go_at_call 120
 refine (qplain_any _ _ hk _).mono ?_
 rintro e w3 ⟨rfl, hb⟩
 have hS := keepS _ _ HS.out hb
 clear HS
 have HS := zh hS; clear hS hb
 refine hK.out _ _ HS.out ?_
 clear hK K
 (try simp only [Act.put, zA4, zA5, zA6])
 iterate 2
  (refine wpOrd_step (zO rfl) ?_)
  (first
        | (refine wpOrd_skip (by rfl) ?_)
        | (refine wpOrd_take (by rfl) (take_eqRel _ _ _ rfl _ _ _ _ rfl rfl (RW.mk _ _) (RW.mk _ _)) ?_)
        | (refine wpOrd_take (v := ?_) (by rfl) ?_ ?_; rotate_left 1; (intro wx hSx; go_simp; try with_reducible rfl)))
  (try simp only [Act.put, zA4, zA5, zA6])
 refine wpOrd_done ?_
 go_wp2_with fail
 go_ret
 exact ⟨rfl, PB.out _ HS.out⟩
end
section
open Go.RowKit RM
theorem antiB_no {p i j : Nat} {S : Nat → Nat → Bool} (hi : i < p) (hj : j < i) (h1 : S i j = true) (h2 : S j i = true) : antiB p S = false := by
 rw [Bool.eq_false_iff]
 intro h
 unfold antiB at h
 rw [List.all_eq_true] at h
 have h3 := h i (List.mem_range.2 hi)
 unfold fstB at h3
 rw [List.all_eq_true] at h3
 have h4 := h3 j (List.mem_range.2 hj)
 rw [h1, h2] at h4
 cases h4
end
end Go.Proofs.YteachpfpcceamaaGreatDoor
