/-
  Lists of pairs in memory; what Of of package relate returns. Conditions: 64 words below 2^64; at most 2^32 pairs.
-/
import Derived.Test.YtopckkdmldhmlaaDoorRelG
namespace Go.Proofs.YtopckkdmldhmlaaDoor
open Go.RowKit RM

/-- The cells of a list of pairs. -/
def pcells : List (Int × Int) → List Value
  | [] => []
  | q :: l => .int .i64 q.1 :: .int .i64 q.2 :: pcells l
theorem pcells_length : ∀ l, (pcells l).length = 2 * l.length
  | [] => rfl
  | q :: l => by simp [pcells, pcells_length l]; omega
theorem pcells_append : ∀ l m, pcells (l ++ m) = pcells l ++ pcells m
  | [], m => rfl
  | q :: l, m => by simp [pcells, pcells_append l m]
theorem pcells_at : ∀ (l : List (Int × Int)) (k : Nat), k < l.length → (pcells l)[k * 2]? = some (.int .i64 (l.getD k (0, 0)).1) ∧ (pcells l)[k * 2 + 1]? = some (.int .i64 (l.getD k (0, 0)).2)
  | [], k, h => by simp at h
  | q :: l, 0, _ => by simp [pcells]
  | q :: l, k + 1, h => by
    obtain ⟨h1, h2⟩ := pcells_at l k (by simpa using h)
    have e : (k + 1) * 2 = k * 2 + 1 + 1 := by omega
    rw [e]
    simp only [pcells, List.getElem?_cons_succ, List.getD_cons_succ]
    exact ⟨h1, h2⟩
/-- A slice of pairs in memory. -/
def Prs (w : World) (A : Option Addr) (xs : List (Int × Int)) : Prop := Sl w w.heap.size A (pcells xs)
theorem Prs.below {w w' : World} {A : Option Addr} {xs : List (Int × Int)} (h : Prs w A xs) (hb : Below w.heap.size w w') : Prs w' A xs := (Sl.below h hb).mono hb.size
theorem Prs.cell {w : World} {A : Option Addr} {xs : List (Int × Int)} (h : Prs w A xs) (hne : xs ≠ []) : ∃ b o, A = some ⟨b, o, none⟩ ∧ b < w.heap.size ∧ ∀ j, j < xs.length → w.cell? ⟨b, o + j * 2, none⟩ = some (.int .i64 (xs.getD j (0, 0)).1) ∧ w.cell? ⟨b, o + j * 2 + 1, none⟩ = some (.int .i64 (xs.getD j (0, 0)).2) := by
  obtain ⟨b, o, hA, hb, hc⟩ := Sl.at_ h (fun e => hne (by have := congrArg List.length e; rw [pcells_length] at this; simp at this; exact List.eq_nil_of_length_eq_zero (by omega)))
  exact ⟨b, o, hA, hb, fun j hj => ⟨hc _ _ (pcells_at xs j hj).1, by rw [Nat.add_assoc]; exact hc _ _ (pcells_at xs j hj).2⟩⟩
/-- The relation of these pairs. -/
def ofR (n : Int) (xs : List (Int × Int)) : List Nat := xs.foldl (fun m q => addR (pts n : Nat) m q.1 q.2) zs
theorem ofR_snoc (n : Int) (xs : List (Int × Int)) (q : Int × Int) : ofR n (xs ++ [q]) = addR (pts n : Nat) (ofR n xs) q.1 q.2 := by simp [ofR]
theorem rw_ofR (n : Int) (xs : List (Int × Int)) : RW (ofR n xs) := by
  suffices ∀ (xs : List (Int × Int)) m, RW m → RW (xs.foldl (fun m q => addR (pts n : Nat) m q.1 q.2) m) from this xs zs RW.zs
  intro xs
  induction xs with
  | nil => intro m h; exact h
  | cons q xs ih => intro m h; exact ih _ (rw_addR h _ _ _)
theorem ofR_take (n : Int) (xs : List (Int × Int)) (k : Nat) (h : k < xs.length) : ofR n (xs.take (k + 1)) = addR (pts n : Nat) (ofR n (xs.take k)) (xs.getD k (0, 0)).1 (xs.getD k (0, 0)).2 := by
  rw [List.take_succ_eq_append_getElem h, ofR_snoc, List.getD_eq_getElem?_getD, List.getElem?_eq_getElem h]; rfl
set_option maxHeartbeats 400000 in
theorem rof_any (n : Int) (A : Option Addr) (c : Nat) (xs : List (Int × Int)) (w : World) (hn : xs.length ≤ 4294967296) (hA : Prs w A xs) :
    Calls Tryd.prog 48 #[.int .i64 n, .slice A xs.length c] w fun e w' => e = .returned (.agg (rv ((pts n : Nat) : Int) (ofR n xs))) ∧ Below w.heap.size w w' := by
  have HA := Lib.hid hA; clear hA
  have hnew := new_any n
  have HNEW := Lib.hid hnew; clear hnew
  have HT : Hid (∀ k, k < xs.length → ofR n (xs.take (k + 1)) = addR (pts n : Nat) (ofR n (xs.take k)) (xs.getD k (0, 0)).1 (xs.getD k (0, 0)).2) := ofR_take n xs
  have HE : Hid (ofR n (xs.take xs.length) = ofR n xs) := by rw [List.take_length]; exact rfl
  generalize hl : xs.length = m at *
  have HL := Lib.hid hl; clear hl
  go_enter Tryd.func48, Tryd.ntmps48
  go_wp2_with fail
  refine (HNEW.out _).mono ?_
  rintro e w1 ⟨rfl, hb1⟩
  have hs1 : w.heap.size < w1.heap.size := by have := hb1.size; simp at this; omega
  have h2 : RelAt w1 w.heap.size 0 zs := by
    refine RelAt.below ?_ hb1 (by simp)
    rw [zero_rel]; exact RelAt.new _ _ _
  have hb : Below w.heap.size w w1 := ((Below.refl _ _).alloc (Nat.le_refl _) _).trans (hb1.mono (by simp))
  have HB := Lib.hid hb; clear hb hb1
  go_wp2_with (refine wpList_storeRel rfl _ _ rfl w1.heap.size rfl _ _ rfl 0 zs RW.zs RW.zs ?c2 ?_; (case c2 => rw [zero_rel]; exact RelAt.new _ _ _); intro w2 hr3 he)
  have k2 : RelAt w2 w.heap.size 0 zs := (h2.alloc _).other he (by omega)
  have kb : Below w.heap.size w w2 := (HB.out.alloc (by omega) _).trans (he.below (by omega))
  have hsz : w1.heap.size < w2.heap.size := by rw [he.size]; simp
  clear he HB h2
  have KB := Lib.hid kb; clear kb
  have hg2 : w.heap.size ≠ w1.heap.size := by omega
  have hg0 : w.heap.size ≤ w1.heap.size := by omega
  generalize w1.heap.size = g at *
  clear hs1
  go_loopw [7, 12] (fun _ kv wr => ∃ (k : Nat), k ≤ m ∧ kv = .int .i64 k ∧ RelAt wr w.heap.size 0 zs ∧ RelAt wr g ((pts n : Nat) : Int) (ofR n (xs.take k)) ∧ Hid (Below w.heap.size w wr) ∧ Hid (g < wr.heap.size)) (fun _ kv _ => m - (intOf kv).toNat)
  case atStart => exact ⟨0, by omega, rfl, k2, hr3, KB, hsz⟩
  case round =>
    obtain ⟨k, hk, rfl, r2, r3, HB, HS⟩ := hrel
    clear k2 hr3 KB hsz
    by_cases hlt : k < m
    · obtain ⟨b, o, rfl, _, hc⟩ := (HA.out.below HB.out).cell (by intro h; rw [h] at HL; have := HL.out; simp at this; omega)
      obtain ⟨hc1, hc2⟩ := hc k (by rw [HL.out]; exact hlt)
      clear hc
      have ht := HT.out k hlt
      generalize hq : xs.getD k (0, 0) = q at *
      have HTK := Lib.hid ht; clear ht hq
      generalize hm : ofR n (xs.take k) = mm at *
      have hmm : RW mm := hm ▸ rw_ofR n _
      clear hm
      go_wp2_with fail
      refine (radd_any _ _ _ hmm q.1 q.2 _ (r3.alloc _)).mono ?_
      rintro e w3 ⟨rfl, k1, hmu⟩
      have k2 := (r2.alloc (.cells #[.int .i64 q.1, .int .i64 q.2] 27)).mut hmu hg2
      have HB3 := Lib.hid ((HB.out.alloc (Nat.le_trans hg0 (Nat.le_of_lt HS.out)) _).trans (hmu.below hg0 (by simp; have := HS.out; omega)))
      have HS3 : Hid (g < w3.heap.size) := by
        show g < w3.heap.size
        have h1 := hmu.size
        have h2 := HS.out
        simp at h1
        omega
      clear hmu r2 r3 HB HS
      go_wp2_with fail
      go_roundw
      case rel => exact ⟨k + 1, by omega, by go_num, k2, by rw [HTK.out]; exact k1, HB3, HS3⟩
      case measure => simp [intOf]; omega
    · have e : k = m := by omega
      subst e
      rw [HE.out] at r3
      go_wp2_with (first | (refine wpList_loadRel rfl _ rfl g rfl _ _ (rw_ofR n xs) r3 ?_) | (refine wpList_storeRel rfl _ _ rfl w.heap.size rfl _ _ rfl 0 zs RW.zs (rw_ofR n xs) r2 ?_; intro w4 hr he))
      exact bodyPost_ret (ret_rel rfl _ _ w.heap.size _ _ (rw_ofR n xs) rfl hr) rfl ⟨rfl, HB.out.trans (he.below (Nat.le_refl _))⟩
end Go.Proofs.YtopckkdmldhmlaaDoor
