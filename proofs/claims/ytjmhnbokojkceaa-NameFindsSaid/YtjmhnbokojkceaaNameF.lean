/-
  What the document's sorting returns: the least string that is left, again and again. Conditions: lists of at most 2^32 strings of at most 2^32 bytes.
-/
import Derived.Test.YtjmhnbokojkceaaNameE
namespace Go.Proofs.Ytjmhnbokojkceaa
open Go.RowKit

namespace NM
def at_ (xs : List ByteArray) (i : Nat) : ByteArray := xs.getD i ⟨#[]⟩
theorem at_mem {xs : List ByteArray} {i : Nat} (h : i < xs.length) : at_ xs i ∈ xs := by
  unfold at_
  rw [List.getD_eq_getElem?_getD, List.getElem?_eq_getElem h]; exact List.getElem_mem h
theorem mem_at {xs : List ByteArray} {x : ByteArray} (h : x ∈ xs) : ∃ i, i < xs.length ∧ at_ xs i = x := by
  obtain ⟨i, hi, he⟩ := List.mem_iff_getElem.1 h
  refine ⟨i, hi, ?_⟩
  unfold at_
  rw [List.getD_eq_getElem?_getD, List.getElem?_eq_getElem hi]; exact he
/-- The best among the first i that stand not among the k least. -/
def Best (xs : List ByteArray) (k i : Nat) (b : Int) : Prop :=
  (b = -1 ∧ ∀ j, j < i → at_ xs j ∈ (srt xs).take k) ∨
  (∃ m : Nat, b = m ∧ m < i ∧ at_ xs m ∉ (srt xs).take k ∧ ∀ j, j < i → at_ xs j ∉ (srt xs).take k → less (at_ xs j) (at_ xs m) = false)
theorem best_old {xs : List ByteArray} {k i : Nat} {b : Int} (h : Best xs k i b) (hi : at_ xs i ∈ (srt xs).take k) : Best xs k (i + 1) b := by
  rcases h with ⟨rfl, h⟩ | ⟨m, rfl, hm, h1, h2⟩
  · refine .inl ⟨rfl, fun j hj => ?_⟩
    by_cases e : j = i
    · rw [e]; exact hi
    · exact h j (by omega)
  · refine .inr ⟨m, rfl, by omega, h1, fun j hj hn => ?_⟩
    by_cases e : j = i
    · rw [e] at hn; exact absurd hi hn
    · exact h2 j (by omega) hn
theorem best_first {xs : List ByteArray} {k i : Nat} (h : Best xs k i (-1)) (hi : at_ xs i ∉ (srt xs).take k) : Best xs k (i + 1) i := by
  rcases h with ⟨_, h⟩ | ⟨m, hm, _⟩
  · refine .inr ⟨i, rfl, by omega, hi, fun j hj hn => ?_⟩
    by_cases e : j = i
    · rw [e]; exact less_irrefl _
    · exact absurd (h j (by omega)) hn
  · omega
theorem best_new {xs : List ByteArray} {k i m : Nat} (h : Best xs k i m) (hi : at_ xs i ∉ (srt xs).take k) (hl : less (at_ xs i) (at_ xs m) = true) : Best xs k (i + 1) i := by
  rcases h with ⟨h, _⟩ | ⟨m', e, hm, h1, h2⟩
  · omega
  · obtain rfl : m = m' := by omega
    refine .inr ⟨i, rfl, by omega, hi, fun j hj hn => ?_⟩
    by_cases e : j = i
    · rw [e]; exact less_irrefl _
    · have h3 := h2 j (by omega) hn
      cases h4 : less (at_ xs j) (at_ xs i)
      · rfl
      · rw [less_trans h4 hl] at h3; cases h3
theorem best_keep {xs : List ByteArray} {k i m : Nat} (h : Best xs k i m) (hl : less (at_ xs i) (at_ xs m) = false) : Best xs k (i + 1) m := by
  rcases h with ⟨h, _⟩ | ⟨m', e, hm, h1, h2⟩
  · omega
  · obtain rfl : m = m' := by omega
    refine .inr ⟨m, rfl, by omega, h1, fun j hj hn => ?_⟩
    by_cases e : j = i
    · rw [e]; exact hl
    · exact h2 j (by omega) hn
theorem best_none {xs : List ByteArray} {k : Nat} (h : Best xs k xs.length (-1)) : (srt xs).take k = srt xs := by
  rcases h with ⟨_, h⟩ | ⟨m, hm, _⟩
  · rcases Nat.lt_or_ge k (srt xs).length with hk | hk
    · have h1 : (srt xs)[k] ∈ xs := (srt_mem xs _).1 (List.getElem_mem hk)
      obtain ⟨j, hj, he⟩ := mem_at h1
      have h2 := h j hj
      rw [he] at h2
      obtain ⟨i, hi, he2⟩ := List.mem_iff_getElem.1 h2
      rw [List.length_take] at hi
      rw [List.getElem_take] at he2
      have := (List.pairwise_iff_getElem.1 (srt_nodup xs)) i k (by omega) hk (by omega)
      exact absurd he2 this
    · exact List.take_of_length_le hk
  · omega
theorem best_at {xs : List ByteArray} {k m : Nat} (h : Best xs k xs.length m) : k < (srt xs).length ∧ (srt xs).take (k + 1) = (srt xs).take k ++ [at_ xs m] := by
  rcases h with ⟨h, _⟩ | ⟨m', e, hm, h1, h2⟩
  · omega
  · obtain rfl : m = m' := by omega
    have hx := (srt_mem xs _).2 (at_mem hm)
    obtain ⟨j, hj, he⟩ := List.mem_iff_getElem.1 hx
    have hkj : k ≤ j := by
      refine Decidable.byContradiction fun hlt => h1 ?_
      rw [List.mem_iff_getElem]
      refine ⟨j, by rw [List.length_take]; omega, ?_⟩
      rw [List.getElem_take]; exact he
    have hk : k < (srt xs).length := by omega
    refine ⟨hk, ?_⟩
    rw [List.take_succ_eq_append_getElem hk]
    have : j = k := by
      refine Decidable.byContradiction fun hne => ?_
      have hr := (List.pairwise_iff_getElem.1 (srt_rises xs)) k j hk hj (by omega)
      obtain ⟨i, hi, he2⟩ := mem_at ((srt_mem xs _).1 (List.getElem_mem hk))
      have hnot : at_ xs i ∉ (srt xs).take k := by
        rw [he2]
        intro hin
        obtain ⟨q, hq, he3⟩ := List.mem_iff_getElem.1 hin
        rw [List.length_take] at hq
        rw [List.getElem_take] at he3
        exact (List.pairwise_iff_getElem.1 (srt_nodup xs)) q k (by omega) hk (by omega) he3
      have h3 := h2 i hi hnot
      rw [he2, ← he, hr] at h3
      cases h3
    subst this
    rw [he]
end NM
theorem idx_neg (ys : List ByteArray) (s : ByteArray) : idx ys s < 0 ↔ s ∉ ys := by
  unfold idx
  rcases NM.fst_cases (fun j => decide (ys.getD j ⟨#[]⟩ = s)) ys.length with ⟨k, hk, e, hp, h0⟩ | ⟨e, h0⟩
  · rw [e]
    constructor
    · intro h; omega
    · intro h
      have hp2 : ys.getD k ⟨#[]⟩ = s := by simpa using hp
      exact absurd (hp2 ▸ NM.at_mem hk) h
  · rw [e]
    constructor
    · intro _ hm
      obtain ⟨j, hj, he⟩ := NM.mem_at hm
      have := h0 j hj
      rw [decide_eq_false_iff_not] at this
      exact this he
    · intro _; omega

/-- A slice of strings of the call's own. -/
def OwnS (w : World) (B : Nat) (A : Option Addr) (c : Nat) (xs : List ByteArray) : Prop := w.ownsRow B 9 1 (.slice A xs.length c) xs.length (scells xs)
theorem OwnS.strs {w : World} {B c : Nat} {A : Option Addr} {xs : List ByteArray} (h : OwnS w B A c xs) : Strs w A xs := Sl.of_own h
theorem scells_snoc (xs : List ByteArray) (x : ByteArray) : scells (xs ++ [x]) = scells xs ++ [.string x] := by simp [scells]

set_option maxHeartbeats 1000000 in
theorem refSort_any (A : Option Addr) (c : Nat) (xs : List ByteArray) (w : World) (hl : xs.length ≤ 4294967296) (hs : ∀ x ∈ xs, x.size ≤ 4294967296) (hA : Strs w A xs) :
    Calls Try.prog 20 #[.slice A xs.length c] w fun e w' => ∃ A' c', e = .returned (.slice A' (NM.srt xs).length c') ∧ Strs w' A' (NM.srt xs) ∧ Below w.heap.size w w' := by
  have HA := Lib.hid hA; clear hA
  have HS := Lib.hid hs; clear hs
  have hsl := NM.srt_len xs
  generalize hn : xs.length = n at *
  have HN := Lib.hid hn; clear hn
  go_enter Try.func20, Try.ntmps20
  go_wp2
  go_loopw [3] (fun v wr => ∃ (k : Nat) (Ao : Option Addr) (co : Nat), k ≤ n ∧ v = .slice Ao k co ∧ k ≤ (NM.srt xs).length ∧ Hid (OwnS wr w.heap.size Ao co ((NM.srt xs).take k)) ∧ Below w.heap.size w wr) (fun v _ => match v with | .slice _ k _ => n + 1 - k | _ => 0)
  case atStart => exact ⟨0, none, 0, by omega, rfl, by omega, World.ownsRow_nil _ _ _ _, Below.refl _ _⟩
  case round =>
    obtain ⟨k, Ao, co, hk, rfl, hks, HO, hb⟩ := hrel
    have hbs := hb.size
    obtain ⟨wo, rfl⟩ : ∃ wo : World, wo = wr := ⟨_, rfl⟩
    have HAo := Lib.hid (HA.out.below hb)
    have hkl : ((NM.srt xs).take k).length = k := by rw [List.length_take]; omega
    have HKL := Lib.hid hkl; clear hkl
    go_wp2
    go_loopw [4, 5] (fun bv iv wr => ∃ (i : Nat) (b : Int), i ≤ n ∧ iv = .int .i64 i ∧ bv = .int .i64 b ∧ -1 ≤ b ∧ b < i ∧ Hid (NM.Best xs k i b) ∧ Dr wo wr) (fun _ iv _ => n - (intOf iv).toNat)
    case atStart => exact ⟨0, -1, by omega, rfl, rfl, by omega, by omega, .inl ⟨rfl, fun j hj => by omega⟩, Dr.refl _⟩
    case round =>
      obtain ⟨i, b, hi, rfl, rfl, hb1, hb2, HB, hd⟩ := hrel
      by_cases hlt : i < n
      · have hAr := HAo.out.dr hd
        obtain ⟨bk, o, rfl, hc⟩ := hAr.at (k := i) (by rw [HN.out]; exact hlt)
        have hci : wr.cell? ⟨bk, o + i, none⟩ = some (.string (NM.at_ xs i)) := hc i (by rw [HN.out]; exact hlt)
        have HC := Lib.hid hc
        have HX := Lib.hid (HS.out _ (NM.at_mem (xs := xs) (i := i) (by rw [HN.out]; exact hlt)))
        have hneg := idx_neg ((NM.srt xs).take k) (NM.at_ xs i)
        have hfind : ∀ q, Calls Try.prog 14 #[.slice Ao k co, .string (NM.at_ xs i)] (wr.drewN q) fun e w' => e = .returned (.int .i64 (idx ((NM.srt xs).take k) (NM.at_ xs i))) ∧ wr.drewN q = w' := by
          intro q
          have h := refFind_any Ao co ((NM.srt xs).take k) (NM.at_ xs i) (wr.drewN q) (by rw [HKL.out]; omega) ((HO.out.strs.dr hd).dr ⟨q, rfl⟩)
          rw [HKL.out] at h
          exact h
        have HF := Lib.hid hfind
        clear hc hfind hAr
        by_cases hcand : NM.at_ xs i ∈ (NM.srt xs).take k
        · have hnn : ¬ idx ((NM.srt xs).take k) (NM.at_ xs i) < 0 := fun h => (hneg.1 h) hcand
          have HBN := Lib.hid (NM.best_old HB.out hcand)
          clear hneg hcand
          generalize NM.at_ xs i = x at *
          generalize idx ((NM.srt xs).take k) x = r at *
          have hrd : decide (r < 0) = false := decide_eq_false hnn
          go_wp2
          go_quiet ((go_at_call 14; exact quiet_same (HF.out _)))
          go_wp2
          go_roundw
          case rel => exact ⟨i + 1, b, by omega, by go_num, rfl, hb1, by omega, HBN.out, hd.more _⟩
          case measure => simp [intOf]; omega
        · have hnn : idx ((NM.srt xs).take k) (NM.at_ xs i) < 0 := hneg.2 hcand
          have HCA := Lib.hid hcand
          clear hneg hcand
          generalize hr : idx ((NM.srt xs).take k) (NM.at_ xs i) = r at *
          clear hr
          have hrd : decide (r < 0) = true := decide_eq_true hnn
          by_cases hbneg : b < 0
          · obtain rfl : b = -1 := by omega
            have HBN := Lib.hid (NM.best_first HB.out HCA.out)
            generalize NM.at_ xs i = x at *
            go_wp2
            go_quiet ((go_at_call 14; exact quiet_same (HF.out _)))
            go_wp2
            go_roundw
            case rel => exact ⟨i + 1, i, by omega, by go_num, rfl, by omega, by omega, HBN.out, hd.more _⟩
            case measure => simp [intOf]; omega
          · obtain ⟨m, rfl⟩ := Int.eq_ofNat_of_zero_le (show 0 ≤ b by omega)
            have hm : m < n := by omega
            have hcm : wr.cell? ⟨bk, o + m, none⟩ = some (.string (NM.at_ xs m)) := HC.out m (by rw [HN.out]; exact hm)
            have HXM := Lib.hid (HS.out _ (NM.at_mem (xs := xs) (i := m) (by rw [HN.out]; exact hm)))
            have hless : ∀ q, Calls Try.prog 12 #[.string (NM.at_ xs i), .string (NM.at_ xs m)] (wr.drewN q) fun e w' => e = .returned (.bool (NM.less (NM.at_ xs i) (NM.at_ xs m))) ∧ Dr (wr.drewN q) w' := fun q => refLess_any _ _ _ HX.out HXM.out
            cases hl : NM.less (NM.at_ xs i) (NM.at_ xs m)
            all_goals
              rw [hl] at hless
              have HL := Lib.hid hless
              clear hless
            · have HBN := Lib.hid (NM.best_keep HB.out hl)
              clear hl
              generalize NM.at_ xs i = x at *
              generalize NM.at_ xs m = y at *
              have hmd : decide ((m : Int) < 0) = false := decide_eq_false (by omega)
              go_wp2
              go_quiet ((first | (go_at_call 14; exact quiet_same (HF.out _)) | (go_at_call 12; exact Dr.quiet (HL.out _))))
              go_wp2
              go_roundw
              case rel => exact ⟨i + 1, m, by omega, by go_num, rfl, by omega, by omega, HBN.out, hd.more _⟩
              case measure => simp [intOf]; omega
            · have HBN := Lib.hid (NM.best_new HB.out HCA.out hl)
              clear hl
              generalize NM.at_ xs i = x at *
              generalize NM.at_ xs m = y at *
              have hmd : decide ((m : Int) < 0) = false := decide_eq_false (by omega)
              go_wp2
              go_quiet ((first | (go_at_call 14; exact quiet_same (HF.out _)) | (go_at_call 12; exact Dr.quiet (HL.out _))))
              go_wp2
              go_roundw
              case rel => exact ⟨i + 1, i, by omega, by go_num, rfl, by omega, by omega, HBN.out, hd.more _⟩
              case measure => simp [intOf]; omega
      · obtain rfl : i = n := by omega
        clear hlt
        by_cases hneg : b < 0
        · obtain rfl : b = -1 := by omega
          have hbn := HB.out
          rw [← HN.out] at hbn
          have HT := Lib.hid (NM.best_none hbn)
          have hkT : k = (NM.srt xs).length := by have := HKL.out; rw [HT.out] at this; exact this.symm
          clear hbn
          have HKT := Lib.hid hkT; clear hkT
          go_wp2
          go_ret
          refine ⟨Ao, co, ret_eq (congrArg (fun q => Value.slice Ao q co) HKT.out), ?_, hb.trans (hd.below.mono hbs)⟩
          have h := HO.out.strs.dr hd
          rw [HT.out] at h
          exact h
        · obtain ⟨m, rfl⟩ := Int.eq_ofNat_of_zero_le (show 0 ≤ b by omega)
          have hbn := HB.out
          rw [← HN.out] at hbn
          obtain ⟨hk2, hT⟩ := NM.best_at hbn
          have HT := Lib.hid hT
          have hm : m < i := by omega
          obtain ⟨bk, o, rfl, hc⟩ := (HAo.out.dr hd).at (k := m) (by rw [HN.out]; exact hm)
          have hcm : wr.cell? ⟨bk, o + m, none⟩ = some (.string (NM.at_ xs m)) := hc m (by rw [HN.out]; exact hm)
          have hown' : wr.ownsRow w.heap.size 9 1 (.slice Ao k co) k (scells ((NM.srt xs).take k)) := by
            have h4 := HO.out
            unfold OwnS at h4
            rw [HKL.out] at h4
            obtain ⟨q, rfl⟩ := hd
            exact h4
          have hsz : wo.heap.size ≤ wr.heap.size := hd.below.size
          have HB2 := Lib.hid (hb.trans (hd.below.mono hbs))
          clear hbn hT hc
          generalize NM.at_ xs m = x at *
          go_wp2_with (at_builtin; refine wpList_more _ rfl _ _ 23 rfl 9 (.string ByteArray.empty) 1 16 Try.underlying23 infoStr rfl (by decide) (by decide) w.heap.size Ao k co (scells ((NM.srt xs).take k)) rfl (hown'.alloc _) wr.heap.size 1 1 [.string x] rfl rfl (by decide) (one_new _ _ _) ?c1 ?c2 ?c3 ?_; (case c1 => simp [Value.oneCell']); (case c2 => omega); (case c3 => simp; omega); intro A2 c2 w2 hown2 hb2 _)
          go_roundw
          case rel =>
            refine ⟨k + 1, A2, c2, by omega, rfl, by omega, ?_, (HB2.out.alloc HB2.out.size _).trans hb2⟩
            show OwnS w2 w.heap.size A2 c2 _
            unfold OwnS
            rw [HT.out, List.length_append, HKL.out, scells_snoc]
            exact hown2
          case measure => simp; omega
end Go.Proofs.Ytjmhnbokojkceaa
