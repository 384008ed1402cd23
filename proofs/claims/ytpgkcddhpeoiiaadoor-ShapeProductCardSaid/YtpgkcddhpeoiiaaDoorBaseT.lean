/-
  RelateImages holds. Conditions: 64 words below 2^64; the table of math/bits in memory.
-/
import Derived.Test.YtpgkcddhpeoiiaaDoorBaseR
import Derived.Laws.AppendOwnNone
import Derived.Test.YtpgkcddhpeoiiaaDoorBaseB
import Derived.BigRegion
namespace Go.Proofs.YtpgkcddhpeoiiaaDoor
open Go.RowKit RM

set_option maxRecDepth 8000 in
theorem hasN_iff {s : Nat} {i : Int} : MM.hasN s i = true ↔ ∃ k : Nat, i = (k : Int) ∧ k < 64 ∧ s.testBit k = true := by
  unfold MM.hasN
  rw [Bool.and_eq_true, decide_eq_true_eq]
  constructor
  · rintro ⟨⟨h0, h1⟩, h2⟩
    exact ⟨i.toNat, by omega, by omega, h2⟩
  · rintro ⟨k, rfl, hk, h2⟩
    exact ⟨by omega, by simpa using h2⟩
set_option maxRecDepth 8000 in
theorem hasR_iff {n : Int} {l : List Nat} {i j : Int} : hasR n l i j = true ↔ ∃ a b : Nat, i = (a : Int) ∧ j = (b : Int) ∧ a < pts n ∧ b < pts n ∧ bt l a b = true := by
  unfold hasR
  rw [Bool.and_eq_true, Bool.and_eq_true, isPt_iff, isPt_iff]
  constructor
  · rintro ⟨⟨h1, h2⟩, h3⟩
    exact ⟨i.toNat, j.toNat, by omega, by omega, by omega, by omega, h3⟩
  · rintro ⟨a, b, rfl, rfl, ha, hb, h3⟩
    exact ⟨⟨by omega, by omega⟩, by simpa using h3⟩
set_option maxRecDepth 8000 in
theorem up_eq (n : Int) (l : List Nat) (s : Nat) (i : Int) : MM.hasN (abv (cl n l) s) i = (MM.els s).any fun t => hasR n l (t : Int) i := by
  have hp := pts_le n
  rw [Bool.eq_iff_iff, hasN_iff, List.any_eq_true]
  constructor
  · rintro ⟨k, rfl, _, h⟩
    obtain ⟨t, ht, h1, h2⟩ := (abv_bit _ _ _).1 h
    rw [bt_cl, Bool.and_eq_true, Bool.and_eq_true, decide_eq_true_eq, decide_eq_true_eq] at h2
    exact ⟨t, MM.mem_els.2 ⟨ht, h1⟩, hasR_iff.2 ⟨t, k, rfl, rfl, h2.1.1, h2.1.2, h2.2⟩⟩
  · rintro ⟨t, ht, h⟩
    obtain ⟨a, b, e, rfl, ha, hb, h2⟩ := hasR_iff.1 h
    obtain rfl : t = a := by omega
    obtain ⟨h3, h4⟩ := MM.mem_els.1 ht
    exact ⟨b, rfl, by omega, (abv_bit _ _ _).2 ⟨t, h3, h4, by rw [bt_cl]; simp [ha, hb, h2]⟩⟩
set_option maxRecDepth 8000 in
theorem down_eq (n : Int) (l : List Nat) (s : Nat) (i : Int) : MM.hasN (blw (cl n l) s (pts n)) i = (MM.els s).any fun t => hasR n l i (t : Int) := by
  have hp := pts_le n
  rw [Bool.eq_iff_iff, hasN_iff, List.any_eq_true]
  constructor
  · rintro ⟨k, rfl, _, h⟩
    rw [blw_bit, Bool.and_eq_true, Bool.and_eq_true, decide_eq_true_eq, decide_eq_true_eq] at h
    obtain ⟨t, ht, h1, h2⟩ := (and_ne ((RW.mk (pts n) (bt l)).lt k)).1 h.2.2
    have h3 : bt (cl n l) k t = true := h1
    rw [bt_cl, Bool.and_eq_true, Bool.and_eq_true, decide_eq_true_eq, decide_eq_true_eq] at h3
    exact ⟨t, MM.mem_els.2 ⟨ht, h2⟩, hasR_iff.2 ⟨k, t, rfl, rfl, h3.1.1, h3.1.2, h3.2⟩⟩
  · rintro ⟨t, ht, h⟩
    obtain ⟨a, b, rfl, e, ha, hb, h2⟩ := hasR_iff.1 h
    obtain rfl : t = b := by omega
    obtain ⟨h3, h4⟩ := MM.mem_els.1 ht
    refine ⟨a, rfl, by omega, ?_⟩
    rw [blw_bit, Bool.and_eq_true, Bool.and_eq_true, decide_eq_true_eq, decide_eq_true_eq]
    exact ⟨by omega, ha, (and_ne ((RW.mk (pts n) (bt l)).lt a)).2 ⟨t, h3, by show bt (cl n l) a t = true; rw [bt_cl]; simp [ha, hb, h2], h4⟩⟩
set_option maxRecDepth 8000 in
theorem any_take {f : Nat → Bool} (xs : List Nat) (k : Nat) (h : k < xs.length) : (xs.take (k + 1)).any f = ((xs.take k).any f || f (xs.getD k 0)) := by
  rw [List.take_succ_eq_append_getElem h, List.any_append, List.getD_eq_getElem?_getD, List.getElem?_eq_getElem h]; simp
set_option maxRecDepth 8000 in
theorem ei_getD (xs : List Nat) (k : Nat) (h : k < xs.length) : (ei xs).getD k 0 = ((xs.getD k 0 : Nat) : Int) := by simp [ei, List.getD_eq_getElem?_getD, List.getElem?_eq_getElem h]

end Go.Proofs.YtpgkcddhpeoiiaaDoor

/-
  What Plain of layer 3's reference returns. Conditions: 64 words below 2^64.
-/
namespace Go.Proofs.YtpgkcddhpeoiiaaDoor
open Go.RowKit RM

/-- The points among the first j that i is below. -/
def pls (l : List Nat) (i j : Nat) : List Nat := (List.range j).filter fun y => bt l i y
set_option maxRecDepth 8000 in
theorem pls_yes {l : List Nat} {i j : Nat} (h : bt l i j = true) : pls l i (j + 1) = pls l i j ++ [j] := by simp [pls, List.range_succ, List.filter_append, h]
set_option maxRecDepth 8000 in
theorem pls_no {l : List Nat} {i j : Nat} (h : bt l i j = false) : pls l i (j + 1) = pls l i j := by simp [pls, List.range_succ, List.filter_append, h]
set_option maxRecDepth 8000 in
theorem pls_len (l : List Nat) (i j : Nat) : (pls l i j).length ≤ j := by
  have := List.length_filter_le (fun y => bt l i y) (List.range j)
  simpa [pls] using this
set_option maxRecDepth 8000 in
theorem pls_of (n : Int) (l : List Nat) (i : Nat) (hi : i < pts n) : MM.ofN (ei (pls l i (pts n))) = (cl n l).getD i 0 :=
  MM.ext64 (MM.ofN_lt _) ((RW.mk (pts n) (bt l)).lt i) fun y hy => by
    have h1 : ((cl n l).getD i 0).testBit y = bt (cl n l) i y := rfl
    rw [h1, bt_cl, MM.ofN_bit, Bool.eq_iff_iff]
    simp only [Bool.and_eq_true, decide_eq_true_eq, List.contains_iff_mem]
    unfold ei pls
    simp only [List.mem_map, List.mem_filter, List.mem_range]
    constructor
    · rintro ⟨_, z, ⟨h2, h3⟩, e⟩
      obtain rfl : z = y := Int.ofNat.inj e
      exact ⟨⟨hi, h2⟩, h3⟩
    · rintro ⟨⟨_, h2⟩, h3⟩
      exact ⟨hy, y, ⟨h2, h3⟩, rfl⟩
set_option maxRecDepth 8000 in
theorem plain_step {m c : List Nat} (hm : RW m) (i x : Nat) (hi : i < 64) (h : ∀ a, a < 64 → m.getD a 0 = if a < i then c.getD a 0 else 0) (hx : x = c.getD i 0) : ∀ a, a < 64 → (m.set i x).getD a 0 = if a < i + 1 then c.getD a 0 else 0 := by
  intro a ha
  rw [getD_set hm i x a hi]
  by_cases e : a = i
  · subst e; rw [if_pos rfl, if_pos (by omega), hx]
  · rw [if_neg e, h a ha]
    by_cases h2 : a < i
    · rw [if_pos h2, if_pos (by omega)]
    · rw [if_neg h2, if_neg (by omega)]
set_option maxRecDepth 8000 in
theorem plain_end {m c : List Nat} (p : Nat) (hm : RW m) (hc : RW c) (hz : ∀ a, p ≤ a → a < 64 → c.getD a 0 = 0) (h : ∀ a, a < 64 → m.getD a 0 = if a < p then c.getD a 0 else 0) : m = c :=
  rext hm hc fun i j hi _ => by
    unfold bt
    rw [h i hi]
    split
    · rfl
    · rw [hz i (by omega) hi]
set_option maxRecDepth 8000 in
theorem cl_zero (n : Int) (l : List Nat) (a : Nat) (h : pts n ≤ a) : (cl n l).getD a 0 = 0 :=
  MM.ext64 ((RW.mk (pts n) (bt l)).lt a) (by omega) fun y _ => by
    show bt (cl n l) a y = _
    rw [bt_cl]; simp; omega
set_option maxRecDepth 8000 in
theorem zs_getD (a : Nat) : zs.getD a 0 = 0 := by
  unfold zs
  rw [List.getD_eq_getElem?_getD]
  by_cases h : a < 64
  · rw [List.getElem?_eq_getElem (by simpa using h), List.getElem_replicate]; rfl
  · rw [List.getElem?_eq_none (by simp; omega)]; rfl

set_option maxRecDepth 8000 in
set_option maxHeartbeats 2000000 in
theorem qplain_any (n : Int) (l : List Nat) (hl : RW l) (w : World) :
    Calls Tryd.prog 26 #[.agg (rv n l)] w fun e w' => e = .returned (.agg (rv ((pts n : Nat) : Int) (cl n l))) ∧ Below w.heap.size w w' := by
  have hp := pts_le n
  have hc : RW (cl n l) := RW.mk _ _
  have HPT : Hid (∀ w, Calls Tryd.prog 46 #[.agg (rv n l)] w fun e w' => e = .returned (.int .i64 ((pts n : Nat) : Int)) ∧ Below w.heap.size w w') := fun w => qpoints_any n l w
  have HHAS : Hid (∀ a b : Nat, a < pts n → b < pts n → ∀ w, Calls Tryd.prog 47 #[.agg (rv n l), .int .i64 (a : Int), .int .i64 (b : Int)] w fun e w' => e = .returned (.bool (bt l a b)) ∧ Below w.heap.size w w') := fun a b h1 h2 w => qhas_in n l hl a b h1 h2 w
  have HOF : Hid (∀ i, i < pts n → MM.ofN (ei (pls l i (pts n))) = (cl n l).getD i 0) := fun i hi => pls_of n l i hi
  have HEND : Hid (∀ m, RW m → (∀ a, a < 64 → m.getD a 0 = if a < pts n then (cl n l).getD a 0 else 0) → m = cl n l) := fun m hm h => plain_end (pts n) hm hc (fun a h1 _ => cl_zero n l a h1) h
  generalize cl n l = lc at *
  generalize pts n = p at *
  have h1 : RelAt ((w.alloc (.cells (rv n l) 34)).alloc (.cells Tryd.zeroCells34 34)) w.heap.size n l := (RelAt.new w n l).alloc _
  obtain ⟨_, h2, hb⟩ := two_new w n l
  have HB := Lib.hid hb; clear hb
  have hs : w.heap.size + 1 < ((w.alloc (.cells (rv n l) 34)).alloc (.cells Tryd.zeroCells34 34)).heap.size := by simp
  have HS := Lib.hid hs; clear hs
  go_enter Tryd.func26, Tryd.ntmps26
  go_wp2_with (refine wpList_loadRel rfl _ rfl w.heap.size rfl n l hl h1 ?_)
  refine (HPT.out _).mono ?_
  rintro e w1 ⟨rfl, hb1⟩
  have r1 := h1.below hb1 (by have := HS.out; omega)
  have r2 := h2.below hb1 HS.out
  have hsz : w.heap.size + 1 < w1.heap.size := Nat.lt_of_lt_of_le HS.out hb1.size
  have HB1 := Lib.hid (HB.out.trans (hb1.mono HB.out.size))
  clear h1 h2 hb1 HS HB
  go_wp2_with (refine wpList_storeRel rfl _ _ rfl w1.heap.size rfl (p : Int) zs ?c1 0 zs RW.zs RW.zs ?c2 ?_; (case c1 => exact congrArg Value.agg (by rw [zero_rel, rv_setN])); (case c2 => rw [zero_rel]; exact RelAt.new _ _ _); intro w2 r3 he)
  have k1 := (r1.alloc (.cells Tryd.zeroCells34 34)).other he (by omega)
  have k2 := (r2.alloc (.cells Tryd.zeroCells34 34)).other he (by omega)
  have HB2 := Lib.hid ((HB1.out.alloc HB1.out.size (.cells Tryd.zeroCells34 34)).trans (he.below HB1.out.size))
  clear he r1 r2 HB1
  have hg1 : w.heap.size ≠ w1.heap.size := by omega
  have hg2 : w.heap.size + 1 ≠ w1.heap.size := by omega
  have hg0 : w.heap.size ≤ w1.heap.size := by omega
  generalize w1.heap.size = g at *
  clear hsz
  go_loopw [4, 5, 6] (fun iv _ _ wr => ∃ (i : Nat) (m : List Nat), i ≤ p ∧ iv = .int .i64 i ∧ RW m ∧ RelAt wr w.heap.size n l ∧ RelAt wr (w.heap.size + 1) 0 zs ∧ RelAt wr g (p : Int) m ∧ Hid (Below w.heap.size w wr) ∧ Hid (∀ a, a < 64 → m.getD a 0 = if a < i then lc.getD a 0 else 0)) (fun iv _ _ _ => p - (intOf iv).toNat)
  case atStart => exact ⟨0, zs, by omega, rfl, RW.zs, k1, k2, r3, HB2, fun a _ => by rw [zs_getD]; simp⟩
  case round =>
    clear k1 k2 r3 HB2
    obtain ⟨i, m, hi, rfl, hm, r1, r2, r3, HB, HM⟩ := hrel
    have hc0 := r3.cell0
    by_cases hlt : i < p
    · go_wp2_with fail
      clear hc0
      obtain ⟨wo, rfl⟩ : ∃ wo : World, wo = wr := ⟨_, rfl⟩
      go_loopw [5, 6] (fun v jv wr => ∃ (j k c : Nat) (A : Option Addr), j ≤ p ∧ jv = .int .i64 j ∧ v = .slice A k c ∧ Hid (k = (pls l i j).length) ∧ k ≤ 64 ∧ Hid (OwnI wr w.heap.size A c (ei (pls l i j))) ∧ RelAt wr w.heap.size n l ∧ RelAt wr (w.heap.size + 1) 0 zs ∧ RelAt wr g (p : Int) m ∧ Hid (Below w.heap.size w wr)) (fun _ jv _ => p - (intOf jv).toNat)
      case atStart => exact ⟨0, 0, 0, none, by omega, rfl, rfl, rfl, by omega, World.ownsRow_nil _ _ _ _, r1, r2, r3, HB⟩
      case round =>
        clear r1 r2 r3 HB
        obtain ⟨j, k, c, A, hj, rfl, rfl, HK, hk, HO, r1, r2, r3, HB⟩ := hrel
        have hc0 := r3.cell0
        by_cases hlt2 : j < p
        · go_wp2_with (refine wpList_loadRel rfl _ rfl w.heap.size rfl n l hl r1 ?_)
          refine (HHAS.out i j hlt hlt2 _).mono ?_
          rintro e w4 ⟨rfl, hb4⟩
          have s1 := r1.below hb4 r1.lt
          have s2 := r2.below hb4 r2.lt
          have s3 := r3.below hb4 r3.lt
          have HO4 : Hid (OwnI w4 w.heap.size A c (ei (pls l i j))) := own_below HO.out hb4 (Nat.le_refl _)
          have HB4 := Lib.hid (HB.out.trans (hb4.mono HB.out.size))
          clear r1 r2 r3 HO HB hb4 hc0
          cases hbt : bt l i j with
          | false =>
            have HP : Hid (pls l i (j + 1) = pls l i j) := pls_no hbt
            clear hbt
            go_wp2_with fail
            go_roundw
            case rel => exact ⟨j + 1, k, c, A, by omega, by go_num, rfl, by rw [HP.out]; exact HK, hk, by rw [HP.out]; exact HO4, s1, s2, s3, HB4⟩
            case measure => simp [intOf]; omega
          | true =>
            have HP : Hid (pls l i (j + 1) = pls l i j ++ [j]) := pls_yes hbt
            have hlen := pls_len l i (j + 1)
            clear hbt
            have hown' : w4.ownsRow w.heap.size 3 1 (.slice A k c) k (cells (ei (pls l i j))) := by
              have h4 := HO4.out
              unfold OwnI at h4
              rw [ei_length, ← HK.out] at h4
              exact h4
            have hbs := HB4.out.size
            have N1 := Lib.hid (own_block hown' s1 (by decide))
            have N2 := Lib.hid (own_block hown' s2 (by decide))
            have N3 := Lib.hid (own_block hown' s3 (by decide))
            have HLEN := Lib.hid hlen; clear hlen HO4
            go_wp2_with (at_builtin; refine wpList_more _ rfl _ _ 72 rfl 3 (.int .i64 0) 1 8 Tryd.underlying72 infoInt rfl (by decide) (by decide) w.heap.size A k c (cells (ei (pls l i j))) rfl (hown'.alloc _) w4.heap.size 1 1 [.int .i64 (j : Int)] rfl rfl (by decide) (one_new _ _ _) ?c1 ?c2 ?c3 ?_; (case c1 => simp [Value.oneCell']); (case c2 => omega); (case c3 => simp; omega); intro A2 c2 w5 hown2 hb5 hgr; have HGR := Lib.hid hgr; clear hgr)
            have t1 := RelAt.grown (s1.alloc (.cells #[.int .i64 (j : Int)] 3)) HGR.out N1.out
            have t2 := RelAt.grown (s2.alloc (.cells #[.int .i64 (j : Int)] 3)) HGR.out N2.out
            have t3 := RelAt.grown (s3.alloc (.cells #[.int .i64 (j : Int)] 3)) HGR.out N3.out
            have HB5 := Lib.hid ((HB4.out.alloc hbs (.cells #[.int .i64 (j : Int)] 3)).trans hb5)
            have HK5 : Hid (k + 1 = (pls l i (j + 1)).length) := by rw [HP.out, List.length_append, ← HK.out]; exact rfl
            have hk5 : k + 1 ≤ 64 := by have := HLEN.out; rw [← HK5.out] at this; omega
            have HO5 : Hid (OwnI w5 w.heap.size A2 c2 (ei (pls l i (j + 1)))) := by
              show OwnI w5 w.heap.size A2 c2 (ei (pls l i (j + 1)))
              unfold OwnI
              rw [HP.out, ei_snoc, cells_snoc, List.length_append, ei_length, ← HK.out]
              exact hown2
            clear hown2 hb5 hown' hbs s1 s2 s3 HB4 N1 N2 N3 HLEN
            go_wp2_with fail
            go_roundw
            case rel => exact ⟨j + 1, k + 1, c2, A2, by omega, by go_num, rfl, HK5, hk5, HO5, t1, t2, t3, HB5⟩
            case measure => simp [intOf]; omega
        · have e : j = p := by omega
          subst e
          have hof := fun w h => refOf_any A c (ei (pls l i j)) w (by rw [ei_length, ← HK.out]; omega) h
          rw [ei_length, ← HK.out, HOF.out i hlt] at hof
          have HOFF := Lib.hid hof; clear hof
          have HI := Lib.hid HO.out.ints
          have hx := hc.lt i
          have hcd := r3.cell hm i (by omega)
          have hfd := r3.free (1 + i)
          have hil : (i : Int) < 64 := by omega
          have HST : Hid (∀ x, x = lc.getD i 0 → ∀ a, a < 64 → (m.set i x).getD a 0 = if a < i + 1 then lc.getD a 0 else 0) := fun x hx => plain_step hm i x (by omega) HM.out hx
          generalize lc.getD i 0 = x at *
          go_wp2_with (go_at_call 48; refine (HOFF.out _ HI.out).mono ?_; rintro e w' ⟨rfl, rfl⟩)
          go_roundw
          case rel =>
            refine ⟨i + 1, m.set i x, by omega, by go_num, hm.set _ _ hx, ?_, ?_, ?_, ?_, HST.out x rfl⟩
            · exact r1.far (p := ⟨g, 1 + i, none⟩) (fun e => hg1 e.symm) _
            · exact r2.far (p := ⟨g, 1 + i, none⟩) (fun e => hg2 e.symm) _
            · exact r3.put i _
            · exact HB.out.setCell hg0 _
          case measure => simp [intOf]; omega
    · have e : i = p := by omega
      subst e
      have hme := HEND.out m hm HM.out
      have HME := Lib.hid hme; clear hme
      go_wp2_with (first | (refine wpList_loadRel rfl _ rfl g rfl _ _ hm r3 ?_) | (refine wpList_storeRel rfl _ _ rfl (w.heap.size + 1) rfl _ _ rfl 0 zs RW.zs hm r2 ?_; intro w4 hr he))
      rw [HME.out] at hr
      exact bodyPost_ret (ret_rel rfl _ _ (w.heap.size + 1) _ _ (HME.out ▸ hm) rfl hr) rfl ⟨rfl, HB.out.trans (he.below (by omega))⟩
end Go.Proofs.YtpgkcddhpeoiiaaDoor

/-
  RelateLeast holds. Conditions: 64 words below 2^64; the table of math/bits in memory.
-/
namespace Go.Proofs.YtpgkcddhpeoiiaaDoor
open Go.RowKit RM

section
variable {o : Oper} {a : Act} {S : World → Prop}
set_option maxRecDepth 8000 in
theorem take_field1 (x : Operand) (ho : o.op = .field 34 x 1) (n : Int) (l : List Nat) (hl : RW l) (hx : a.eval x = .agg (rv n l)) :
    ∀ w, S w → (execOp a.eval o).run Tryd.prog w = .ok (.value (.agg (uv l))) w := by
  intro w _
  unfold execOp
  simp only [ho, hx, Sem.run_bind, Sem.run_pure, Result.andThen_ok, run_field1 n hl]
set_option maxRecDepth 8000 in
theorem take_index (x y : Operand) (ho : o.op = .index 32 x y) (l : List Nat) (hl : RW l) (i : Nat) (hi : i < 64) (hx : a.eval x = .agg (uv l)) (hy : a.eval y = .int .i64 (i : Int)) :
    ∀ w, S w → (execOp a.eval o).run Tryd.prog w = .ok (.value (.int .u64 ((l.getD i 0 : Nat) : Int))) w := by
  intro w _
  unfold execOp
  simp only [ho, hx, hy, Sem.run_bind, Sem.run_pure, Result.andThen_ok, run_index hl i hi]
end
set_option maxRecDepth 8000 in
/-- What is within: the bits of x without those of y. -/
theorem andNot_zero {x y : Nat} (hy : y < 18446744073709551616) (h : x &&& (18446744073709551615 - y) = 0) (j : Nat) (hj : j < 64) (hb : x.testBit j = true) : y.testBit j = true := by
  have h1 := congrArg (·.testBit j) h
  simp only [Nat.testBit_and, MM.not_bit y j hy, hb, Nat.zero_testBit, Bool.true_and] at h1
  simpa [hj] using h1
set_option maxRecDepth 8000 in
theorem least_end {n nb : Int} {l lb : List Nat} (hlb : RW lb) (lo hi : Int) (hc : hasR (pts n : Nat) (cz n l) lo hi = true) (hn : 0 < pts n → nb = (pts n : Int) ∧ closedB nb lb = true)
    (h : ∀ a, a < pts n → (cl n l).getD a 0 &&& (18446744073709551615 - lb.getD a 0) = 0) : hasR nb lb lo hi = true := by
  obtain ⟨a, b, rfl, rfl, ha, hb, h1⟩ := hasR_iff.1 hc
  rw [pts_pts] at ha hb
  rw [bt_cz] at h1
  obtain ⟨h2, h3⟩ := hn (by omega)
  have hp : pts nb = pts n := by rw [h2, pts_pts]
  have hcl := (closedB_iff nb lb).1 h3
  rw [hp] at hcl
  refine hasR_iff.2 ⟨a, b, rfl, rfl, by omega, by omega, ?_⟩
  have hp64 := pts_le n
  refine clo_least hcl (fun x y hx hy hr => ?_) h1
  refine andNot_zero (hlb.lt x) (h x hx) y (by omega) ?_
  show bt (cl n l) x y = true
  rw [bt_cl]; simp [hx, hy, hr]
end Go.Proofs.YtpgkcddhpeoiiaaDoor

/-
  What the statement on Of asks: its own helper, pairs compared, lists of pairs appended; the mathematics of Of. Conditions: 64 words below 2^64.
-/
namespace Go.Proofs.YtpgkcddhpeoiiaaDoor
open Go.RowKit RM

/-- Are both numbers points? -/
def inP (n lo hi : Int) : Bool := isPt n lo && isPt n hi
/-- The pair, if it is one of points: what is looked for. -/
def eqP (a b lo hi : Int) : Bool := decide (a = lo) && decide (b = hi)
def wantB (n : Int) (xs : List (Int × Int)) (lo hi : Int) : Bool := xs.any fun q => eqP q.1 q.2 lo hi && inP n q.1 q.2
set_option maxRecDepth 8000 in
theorem isPt_pts (n i : Int) : isPt ((pts n : Nat) : Int) i = isPt n i := by unfold isPt; rw [pts_pts]
set_option maxRecDepth 8000 in
theorem bt_ofR (n : Int) (xs : List (Int × Int)) (a b : Nat) : bt (ofR n xs) a b = wantB n xs (a : Int) (b : Int) := by
  suffices ∀ (xs : List (Int × Int)) m, RW m → bt (xs.foldl (fun m q => addR (pts n : Nat) m q.1 q.2) m) a b = (bt m a b || wantB n xs (a : Int) (b : Int)) by
    have h := this xs zs RW.zs
    rw [bt_zs, Bool.false_or] at h
    exact h
  intro xs
  induction xs with
  | nil => intro m _; simp [wantB]
  | cons q xs ih =>
    intro m hm
    rw [List.foldl_cons, ih _ (rw_addR hm _ _ _), bt_addR hm, isPt_pts, isPt_pts]
    unfold wantB
    rw [List.any_cons, Bool.or_assoc]
    congr 2
    unfold eqP inP
    cases isPt n q.1 <;> cases isPt n q.2 <;> cases decide (q.1 = (a : Int)) <;> cases decide (q.2 = (b : Int)) <;> rfl
set_option maxRecDepth 8000 in
theorem wantB_inP {n : Int} {xs : List (Int × Int)} {lo hi : Int} (h : wantB n xs lo hi = true) : inP n lo hi = true := by
  unfold wantB at h
  obtain ⟨q, _, h2⟩ := List.any_eq_true.1 h
  rw [Bool.and_eq_true] at h2
  unfold eqP at h2
  rw [Bool.and_eq_true, decide_eq_true_eq, decide_eq_true_eq] at h2
  obtain ⟨⟨rfl, rfl⟩, h3⟩ := h2
  exact h3
set_option maxRecDepth 8000 in
theorem has_of (n : Int) (xs : List (Int × Int)) (lo hi : Int) : hasR (pts n : Nat) (ofR n xs) lo hi = wantB n xs lo hi := by
  unfold hasR
  rw [isPt_pts, isPt_pts, bt_ofR]
  cases h1 : isPt n lo with
  | false =>
    cases h2 : wantB n xs lo hi with
    | false => rfl
    | true => have := wantB_inP h2; unfold inP at this; rw [h1] at this; cases this
  | true =>
    cases h3 : isPt n hi with
    | false =>
      cases h2 : wantB n xs lo hi with
      | false => rfl
      | true => have := wantB_inP h2; unfold inP at this; rw [h3] at this; simp at this
    | true =>
      have := isPt_iff.1 h1
      have := isPt_iff.1 h3
      rw [show ((lo.toNat : Nat) : Int) = lo by omega, show ((hi.toNat : Nat) : Int) = hi by omega]
      simp
set_option maxRecDepth 8000 in
theorem cl_of (n : Int) (xs : List (Int × Int)) : cl (pts n : Nat) (ofR n xs) = ofR n xs :=
  (eq_mk (rw_ofR n xs) _ _ (pts_le _) fun i j _ _ => by
    rw [pts_pts]
    cases h : bt (ofR n xs) i j with
    | false => simp
    | true =>
      rw [bt_ofR] at h
      have h2 := wantB_inP h
      unfold inP at h2
      rw [isPt_nat, isPt_nat] at h2
      rw [h2]; rfl).symm
set_option maxRecDepth 8000 in
theorem has_with (n : Int) (l : List Nat) (hl : RW l) (lo hi : Int) : hasR (pts n : Nat) (addR (pts n : Nat) l lo hi) lo hi = inP n lo hi := by
  unfold hasR inP
  rw [isPt_pts, isPt_pts]
  cases h1 : isPt n lo with
  | false => rfl
  | true =>
    cases h2 : isPt n hi with
    | false => rfl
    | true =>
      have h3 := isPt_iff.1 h1
      have h4 := isPt_iff.1 h2
      rw [bt_addR hl, isPt_pts, isPt_pts, h1, h2]
      have e1 : decide (lo = ((lo.toNat : Nat) : Int)) = true := by rw [decide_eq_true_eq]; omega
      have e2 : decide (hi = ((hi.toNat : Nat) : Int)) = true := by rw [decide_eq_true_eq]; omega
      rw [e1, e2]; simp

end Go.Proofs.YtpgkcddhpeoiiaaDoor

/-
  RelateOf holds. Conditions: the pairs in memory; the table of math/bits in memory.
-/
namespace Go.Proofs.YtpgkcddhpeoiiaaDoor
open Go.RowKit RM

set_option maxRecDepth 8000 in
theorem grown_below {w w' : World} {row : Option Nat} {B : Nat} (h : w.grownBy w' row) (hr : ∀ k, row = some k → B ≤ k) (hB : B ≤ w.heap.size) : Below B w w' :=
  ⟨h.os, h.tape, h.output, h.size, fun k hk => h.block k (by omega) (fun e => by have := hr k e.symm; omega)⟩
set_option maxRecDepth 8000 in
theorem own_ge {w : World} {base size n k : Nat} {e : TypeId} {v : Value} {cs : List Value} (h : w.ownsRow base e size v n cs) (hk : v.ownBlock = some k) : base ≤ k := by
  rcases h.2 with ⟨rfl, _⟩ | ⟨g, cap, cur, rfl, hg, _⟩
  · simp [Value.ownBlock] at hk
  · have : g = k := by simpa [Value.ownBlock] using hk
    omega
set_option maxRecDepth 8000 in
theorem pany_take {f : Int × Int → Bool} (xs : List (Int × Int)) (k : Nat) (h : k < xs.length) : (xs.take (k + 1)).any f = ((xs.take k).any f || f (xs.getD k (0, 0))) := by
  rw [List.take_succ_eq_append_getElem h, List.any_append, List.getD_eq_getElem?_getD, List.getElem?_eq_getElem h]; simp
set_option maxRecDepth 8000 in
theorem ex_gen2 (W : World) : ∃ S : World → Prop, Hid (S W.drew) ∧ (∀ w', S w' → Below W.heap.size W w') ∧ (∀ wa wb, S wa → Below wa.heap.size wa wb → S wb) ∧ Hid (∀ w', Below W.heap.size W w' → S w') :=
  ⟨fun w' => Below W.heap.size W w', (Below.refl _ _).drew, fun _ h => h, fun _ _ h hb => h.trans (hb.mono h.size), fun _ h => h⟩
section
variable {o : Oper} {a : Act} {S : World → Prop}
set_option maxRecDepth 8000 in
theorem take_neqSame (x y : Operand) (t : TypeId) (ho : o.op = .binOp .neq 34 x y t) (n : Int) (l : List Nat) (hx : a.eval x = .agg (rv n l)) (hy : a.eval y = .agg (rv n l)) (hl : RW l) :
    ∀ w, S w → (execOp a.eval o).run Tryd.prog w = .ok (.value (.bool false)) w := fun w h => by
  have := take_neqRel (S := S) x y t ho n n l l hx hy hl hl w h
  rw [eqRel_true rfl rfl] at this; exact this
set_option maxRecDepth 8000 in
theorem take_eqSame (x y : Operand) (t : TypeId) (ho : o.op = .binOp .eql 34 x y t) (n : Int) (l : List Nat) (hx : a.eval x = .agg (rv n l)) (hy : a.eval y = .agg (rv n l)) (hl : RW l) :
    ∀ w, S w → (execOp a.eval o).run Tryd.prog w = .ok (.value (.bool true)) w := fun w h => by
  have := take_eqRel (S := S) x y t ho n n l l hx hy hl hl w h
  rw [eqRel_true rfl rfl] at this; exact this
end
end Go.Proofs.YtpgkcddhpeoiiaaDoor

/-
  What Closure, Same and Closed of layer 3's reference return. Conditions: 64 words below 2^64.
-/
namespace Go.Proofs.YtpgkcddhpeoiiaaDoor
open Go.RowKit RM

set_option maxRecDepth 8000 in
theorem cz_zero (n : Int) (l : List Nat) (a : Nat) (h : pts n ≤ a) : (cz n l).getD a 0 = 0 :=
  MM.ext64 ((RW.mk (pts n) (clo (pts n) (bt l))).lt a) (by omega) fun y _ => by
    show bt (cz n l) a y = _
    rw [bt_cz]; unfold clo; simp; omega
set_option maxRecDepth 8000 in
theorem reach_of (n : Int) (l : List Nat) (i : Nat) (hi : i < pts n) (xs : List Int) (h : ∀ x, xs.contains x = rchB n l i x) : MM.ofN xs = (cz n l).getD i 0 :=
  MM.ext64 (MM.ofN_lt _) ((RW.mk (pts n) (clo (pts n) (bt l))).lt i) fun y hy => by
    have hp := pts_le n
    have h1 : ((cz n l).getD i 0).testBit y = bt (cz n l) i y := rfl
    rw [h1, bt_cz, MM.ofN_bit, h]
    unfold rchB
    rw [isPt_true (by omega) (by omega), decide_eq_true hy]
    by_cases hyp : y < pts n
    · rw [isPt_true (by omega) (by omega)]; simp
    · unfold clo
      simp [hyp]
set_option maxRecDepth 8000 in
theorem qsame_any (n m : Int) (l k : List Nat) (hl : RW l) (hk : RW k) (w : World) :
    Calls Tryd.prog 17 #[.agg (rv n l), .agg (rv m k)] w fun e w' => e = .returned (.bool (eqRel (pts n : Nat) (pts m : Nat) (cl n l) (cl m k))) ∧ Below w.heap.size w w' := by
  go_enter Tryd.func17, Tryd.ntmps17
  go_wp2_with fail
  have hr1 : RelAt ((w.alloc (.cells (rv n l) 34)).alloc (.cells (rv m k) 34)) w.heap.size n l := (RelAt.new w n l).alloc _
  have hr2 : RelAt ((w.alloc (.cells (rv n l) 34)).alloc (.cells (rv m k) 34)) (w.heap.size + 1) m k := by
    have := RelAt.new (w.alloc (.cells (rv n l) 34)) m k
    simpa using this
  have hb : Below w.heap.size w ((w.alloc (.cells (rv n l) 34)).alloc (.cells (rv m k) 34)) := ((Below.refl _ _).alloc (Nat.le_refl _) _).alloc (by simp) _
  obtain ⟨S, HS, p1, p2, PB, keep⟩ := ex_two _ _ _ _ _ _ _ _ _ hr1 hr2 hb
  have keepS := keep.out (by simp; omega)
  clear keep hr1 hr2 hb
  refine wp_region_ord S [(0, true), (2, true), (1, false), (3, false), (4, true), (5, true)] (by kernel_rfl) (by kernel_rfl) rfl (by kernel_rfl) HS.out ?_
  iterate 2
    (refine wpOrd_step (o := ?_) ?_ ?_; rotate_left 1; (simp only [List.getElem?_toArray, List.getElem?_cons_succ, List.getElem?_cons_zero]; with_reducible rfl))
    (first
        | (refine wpOrd_skip (by rfl) ?_)
        | (refine wpOrd_take (by rfl) (take_loadRel _ rfl _ rfl n l hl p1) ?_)
        | (refine wpOrd_take (by rfl) (take_loadRel _ rfl _ rfl m k hk p2) ?_)
        | (refine wpOrd_take (v := ?_) (by rfl) ?_ ?_; rotate_left 1; (intro wx hSx; go_simp; try with_reducible rfl)))
    (try simp only [Act.put, List.setIfInBounds_toArray, List.set_cons_zero, List.set_cons_succ])
  (refine wpOrd_solo (o := ?_) ?_ ?_; rotate_left 1; (simp only [List.getElem?_toArray, List.getElem?_cons_succ, List.getElem?_cons_zero]; with_reducible rfl))
  intro K hK
  go_simp
  go_at_call 26
  refine (qplain_any _ _ hl _).mono ?_
  rintro e w2 ⟨rfl, hb⟩
  have hS := keepS _ _ HS.out hb
  clear HS
  have HS := Lib.hid hS; clear hS hb
  refine hK.out _ _ HS.out ?_
  clear hK K
  (try simp only [Act.put, List.setIfInBounds_toArray, List.set_cons_zero, List.set_cons_succ])
  (refine wpOrd_solo (o := ?_) ?_ ?_; rotate_left 1; (simp only [List.getElem?_toArray, List.getElem?_cons_succ, List.getElem?_cons_zero]; with_reducible rfl))
  intro K hK
  go_simp
  go_at_call 26
  refine (qplain_any _ _ hk _).mono ?_
  rintro e w3 ⟨rfl, hb⟩
  have hS := keepS _ _ HS.out hb
  clear HS
  have HS := Lib.hid hS; clear hS hb
  refine hK.out _ _ HS.out ?_
  clear hK K
  (try simp only [Act.put, List.setIfInBounds_toArray, List.set_cons_zero, List.set_cons_succ])
  iterate 2
    (refine wpOrd_step (o := ?_) ?_ ?_; rotate_left 1; (simp only [List.getElem?_toArray, List.getElem?_cons_succ, List.getElem?_cons_zero]; with_reducible rfl))
    (first
        | (refine wpOrd_skip (by rfl) ?_)
        | (refine wpOrd_take (by rfl) (take_eqRel _ _ _ rfl _ _ _ _ rfl rfl (RW.mk _ _) (RW.mk _ _)) ?_)
        | (refine wpOrd_take (v := ?_) (by rfl) ?_ ?_; rotate_left 1; (intro wx hSx; go_simp; try with_reducible rfl)))
    (try simp only [Act.put, List.setIfInBounds_toArray, List.set_cons_zero, List.set_cons_succ])
  refine wpOrd_done ?_
  go_wp2_with fail
  go_ret
  exact ⟨rfl, PB.out _ HS.out⟩
end Go.Proofs.YtpgkcddhpeoiiaaDoor

/-
  What Order and Classes of layer 3's reference return. Conditions: 64 words below 2^64.
-/
namespace Go.Proofs.YtpgkcddhpeoiiaaDoor
open Go.RowKit RM

/-- The first j points are not in one class with i. -/
def fstT (S : Nat → Nat → Bool) (i j : Nat) : Bool := (List.range j).all fun y => !(S i y && S y i)
set_option maxRecDepth 8000 in
theorem fstT_all (S : Nat → Nat → Bool) (i : Nat) : fstT S i i = fstB S i := rfl
set_option maxRecDepth 8000 in
theorem fstT_next (S : Nat → Nat → Bool) (i j : Nat) : fstT S i (j + 1) = (fstT S i j && !(S i j && S j i)) := by
  unfold fstT
  rw [List.range_succ, List.all_append]
  simp
set_option maxRecDepth 8000 in
theorem antiB_no {p i j : Nat} {S : Nat → Nat → Bool} (hi : i < p) (hj : j < i) (h1 : S i j = true) (h2 : S j i = true) : antiB p S = false := by
  rw [Bool.eq_false_iff]
  intro h
  unfold antiB at h
  rw [List.all_eq_true] at h
  have h3 := h i (List.mem_range.2 hi)
  unfold fstB at h3
  rw [List.all_eq_true] at h3
  have h4 := h3 j (List.mem_range.2 hj)
  rw [h1, h2] at h4
  cases h4
set_option maxRecDepth 8000 in
theorem antiB_yes {p : Nat} {S : Nat → Nat → Bool} (h : ∀ a, a < p → fstB S a = true) : antiB p S = true := by
  unfold antiB
  rw [List.all_eq_true]
  exact fun a ha => h a (List.mem_range.1 ha)
set_option maxRecDepth 8000 in
theorem cls_next (S : Nat → Nat → Bool) (i : Nat) : ((List.range (i + 1)).filter (fstB S)).length = ((List.range i).filter (fstB S)).length + if fstB S i then 1 else 0 := by
  rw [List.range_succ, List.filter_append, List.length_append]
  cases h : fstB S i <;> simp [h]
end Go.Proofs.YtpgkcddhpeoiiaaDoor
