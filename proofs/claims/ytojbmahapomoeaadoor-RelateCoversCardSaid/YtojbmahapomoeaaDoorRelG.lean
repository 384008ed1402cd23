/-
  What strict, Up and Down of package relate return. Conditions: 64 words below 2^64; the table of math/bits in memory, where a set is walked.
-/
import Derived.Test.YtojbmahapomoeaaDoorRelF
namespace Go.Proofs.YtojbmahapomoeaaDoor
open Go.RowKit RM

/-- What strict makes of the rows behind k of them. -/
def strL (l : List Nat) : List Nat := (List.range 64).map fun i => MM.lessN (l.getD i 0) i
theorem RW.strL {l : List Nat} (h : RW l) : RW (strL l) := ⟨by simp [Go.Proofs.YtojbmahapomoeaaDoor.strL], fun x hx => by
  simp only [Go.Proofs.YtojbmahapomoeaaDoor.strL, List.mem_map] at hx
  obtain ⟨i, _, rfl⟩ := hx
  exact MM.lessN_lt (h.lt i) _⟩
theorem bt_strL {l : List Nat} (h : RW l) (i j : Nat) : bt (strL l) i j = (bt l i j && decide (i ≠ j)) := by
  by_cases hi : i < 64
  · unfold bt strL
    rw [List.getD_eq_getElem?_getD, List.getElem?_map, List.getElem?_range hi]
    simp only [Option.map_some, Option.getD_some, MM.lessN_bit]
    by_cases hj : j < 64
    · congr 1
      rw [Bool.eq_iff_iff]
      simp [hj]
      omega
    · have : (l.getD i 0).testBit j = false := bt_high h i j (by omega)
      rw [this]; simp
  · rw [bt_far (RW.strL h) i j (by omega), bt_far h i j (by omega)]; simp
theorem strict_step {l m : List Nat} (hm : RW m) (k x : Nat) (hk : k < 64) (hx : x = m.getD k 0)
    (h : ∀ i j, bt m i j = (bt l i j && !decide (i < k ∧ i = j))) : ∀ i j, bt (m.set k (MM.lessN x k)) i j = (bt l i j && !decide (i < k + 1 ∧ i = j)) := by
  intro i j
  rw [bt_set hm _ _ _ _ hk, MM.lessN_bit]
  by_cases e : i = k
  · subst e
    rw [if_pos rfl, hx]
    show (bt m i j && _) = _
    rw [h]
    by_cases hj : j < 64
    · cases bt l i j
      · simp
      · rw [Bool.eq_iff_iff]
        simp [hj]
        omega
    · have : bt m i j = false := bt_high hm i j (by omega)
      rw [h] at this
      have h2 : bt l i j = false := by
        cases hb : bt l i j with
        | false => rfl
        | true => rw [hb] at this; simp at this
      rw [h2]; simp
  · rw [if_neg e, h]
    congr 2
    rw [Bool.eq_iff_iff]
    simp; omega
theorem strict_end {l m : List Nat} (hl : RW l) (hm : RW m) (h : ∀ i j, bt m i j = (bt l i j && !decide (i < 64 ∧ i = j))) : m = strL l :=
  rext hm (RW.strL hl) fun i j hi _ => by rw [h, bt_strL hl]; congr 1; rw [Bool.eq_iff_iff]; simp; omega
set_option maxHeartbeats 400000 in
theorem rstrict_any (n : Int) (l : List Nat) (hl : RW l) (w : World) :
    Calls Tryd.prog 17 #[.agg (rv n l)] w fun e w' => e = .returned (.agg (uv (strL (cl n l)))) ∧ Below w.heap.size w w' := by
  have hf := fun (w : World) => run_field1 (pts n : Nat) (RW.mk (pts n) (bt l)) w
  have hcl := rclean_any n l hl
  have hc : RW (cl n l) := RW.mk _ _
  have HCL := Lib.hid hcl; clear hcl
  change ∀ w, (Instr.field 25 (.agg (rv ((pts n : Nat) : Int) (cl n l))) 1).run Tryd.prog w = .ok (.agg (uv (cl n l))) w at hf
  generalize cl n l = lc at *
  generalize rv ((pts n : Nat) : Int) lc = r at *
  have HEND : Hid (∀ m, RW m → (∀ i j, bt m i j = (bt lc i j && !decide (i < 64 ∧ i = j))) → m = strL lc) := fun m hm h => strict_end hc hm h
  go_enter Tryd.func17, Tryd.ntmps17
  go_wp2_with (refine wpList_loadRel rfl _ rfl w.heap.size rfl n l hl ((RelAt.new _ _ _).alloc _) ?_)
  refine (HCL.out _).mono ?_
  rintro e w1 ⟨rfl, hb1⟩
  have hs1 : w.heap.size + 1 < w1.heap.size := by have := hb1.size; simp at this; omega
  have h2 : RowsAt w1 (w.heap.size + 1) zs := by
    refine RowsAt.below ?_ hb1 (by simp)
    exact heap_alloc2_new w _ _
  have hb : Below w.heap.size w w1 := (((Below.refl _ _).alloc (Nat.le_refl _) _).alloc (by simp) _).trans (hb1.mono (by simp; omega))
  have HB := Lib.hid hb; clear hb hb1
  go_wp2_with (refine wpList_storeRows rfl _ _ rfl w1.heap.size rfl lc rfl zs RW.zs hc ?c2 ?_; (case c2 => exact heap_alloc_new w1 _); intro w2 hr3 he)
  have k2 : RowsAt w2 (w.heap.size + 1) zs := (h2.alloc _).other he (by omega)
  have kb : Below w.heap.size w w2 := (HB.out.alloc (by omega) _).trans (he.below (by omega))
  clear he HB h2
  have KB := Lib.hid kb; clear kb
  have hg2 : w.heap.size + 1 ≠ w1.heap.size := by omega
  have hg0 : w.heap.size ≤ w1.heap.size := by omega
  generalize w1.heap.size = g3 at *
  clear hs1
  go_loopw [4, 8] (fun _ kv wr => ∃ (k : Nat) (m : List Nat), k ≤ 64 ∧ kv = .int .i64 k ∧ RW m ∧ RowsAt wr (w.heap.size + 1) zs ∧ RowsAt wr g3 m ∧ Hid (Below w.heap.size w wr) ∧ Hid (∀ i j, bt m i j = (bt lc i j && !decide (i < k ∧ i = j)))) (fun _ kv _ => 64 - (intOf kv).toNat)
  case atStart => exact ⟨0, lc, by omega, rfl, hc, k2, hr3, KB, fun i j => by simp⟩
  case round =>
    obtain ⟨k, m, hk, rfl, hm, r2, r3, HB, HM⟩ := hrel
    clear k2 hr3 KB hc
    by_cases hlt : k < 64
    · have hc3 := r3.cell hm k hlt
      have hf3 := r3.free k
      have hx := hm.lt k
      obtain ⟨x, hxe⟩ : ∃ x, x = m.getD k 0 := ⟨_, rfl⟩
      rw [← hxe] at hc3 hx
      have HX := Lib.hid hxe; clear hxe
      have hk' : (k : Int) < 64 := by omega
      go_wp2_with (go_at_call 33; refine (without_any x hx _ _).mono ?_; rintro e w' ⟨rfl, rfl⟩)
      go_roundw
      case rel =>
        refine ⟨k + 1, m.set k (MM.lessN x k), by omega, by go_num, hm.set _ _ (MM.lessN_lt hx _), ?_, ?_, ?_, ?_⟩
        · exact r2.far (p := ⟨g3, k, none⟩) (fun e => hg2 e.symm) _
        · exact r3.put k _
        · exact HB.out.setCell hg0 _
        · exact strict_step hm k x hlt HX.out HM.out
      case measure => simp [intOf]; omega
    · have e : k = 64 := by omega
      subst e
      have hme := HEND.out m hm HM.out
      have HME := Lib.hid hme; clear hme
      go_wp2_with (first | (refine wpList_loadRows rfl _ rfl g3 rfl m hm r3 ?_) | (refine wpList_storeRows rfl _ _ rfl (w.heap.size + 1) rfl m rfl zs RW.zs hm r2 ?_; intro w3 hr he))
      rw [HME.out] at hr
      exact bodyPost_ret (ret_rows rfl _ _ (w.heap.size + 1) _ (HME.out ▸ hm) rfl hr) rfl ⟨rfl, HB.out.trans (he.below (by omega))⟩

/-- The points that are below some element of s, among the first k. -/
def blw (l : List Nat) (s k : Nat) : Nat := MM.ofP (fun i => decide (i < k) && (l.getD i 0 &&& s != 0)) 64
theorem blw_lt (l : List Nat) (s k : Nat) : blw l s k < 18446744073709551616 := MM.ofP_lt _ _
theorem blw_bit (l : List Nat) (s k i : Nat) : (blw l s k).testBit i = (decide (i < 64) && (decide (i < k) && (l.getD i 0 &&& s != 0))) := MM.ofP_bit _ _ _
theorem blw_zero (l : List Nat) (s : Nat) : blw l s 0 = 0 := MM.ext64 (blw_lt _ _ _) (by omega) fun i _ => by rw [blw_bit]; simp
theorem blw_yes {l : List Nat} {s k : Nat} (hk : k < 64) (h : (l.getD k 0 &&& s != 0) = true) : MM.withN (blw l s k) k = blw l s (k + 1) :=
  MM.ext64 (MM.withN_lt (blw_lt _ _ _) _) (blw_lt _ _ _) fun i hi => by
    rw [MM.withN_bit, blw_bit, blw_bit]
    by_cases e : i = k
    · subst e
      rw [h]
      simp [hi]
    · have h1 : decide ((k : Int) = (i : Int) ∧ i < 64) = false := by simp; omega
      have h2 : decide (i < k + 1) = decide (i < k) := by rw [Bool.eq_iff_iff]; simp; omega
      rw [h1, h2]; simp
theorem blw_no {l : List Nat} {s k : Nat} (h : (l.getD k 0 &&& s != 0) = false) : blw l s k = blw l s (k + 1) :=
  MM.ext64 (blw_lt _ _ _) (blw_lt _ _ _) fun i hi => by
    rw [blw_bit, blw_bit]
    by_cases e : i = k
    · subst e
      rw [h]; simp
    · have h2 : decide (i < k + 1) = decide (i < k) := by rw [Bool.eq_iff_iff]; simp; omega
      rw [h2]
theorem and_ne {x s : Nat} (hx : x < 2 ^ 64) : (x &&& s != 0) = true ↔ ∃ j, j < 64 ∧ x.testBit j = true ∧ s.testBit j = true := by
  constructor
  · intro h
    apply Decidable.byContradiction
    intro hn
    have : x &&& s = 0 := MM.ext64 (Nat.lt_of_le_of_lt Nat.and_le_left hx) (by omega) fun i hi => by
      rw [Nat.testBit_and]
      cases h1 : x.testBit i with
      | false => simp
      | true =>
        cases h2 : s.testBit i with
        | false => simp
        | true => exact absurd ⟨i, hi, h1, h2⟩ hn
    rw [this] at h
    simp at h
  · rintro ⟨j, _, h1, h2⟩
    rw [bne_iff_ne]
    intro h0
    have := congrArg (·.testBit j) h0
    simp [h1, h2] at this
end Go.Proofs.YtojbmahapomoeaaDoor
