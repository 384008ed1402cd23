/-
  What Join returns, and the document's answer. Conditions: at most 60 strings of at most 200 bytes, 20 bytes between them.
-/
import Derived.Test.YtjmhnbokojkceaaNameF
namespace Go.Proofs.Ytjmhnbokojkceaa
open Go.RowKit

namespace NM
/-- The concatenated strings. -/
def jn (xs : List ByteArray) (b : ByteArray) : ByteArray := ⟨(Lib.join (xs.map bl) (bl b)).toArray⟩
theorem jn_one (x b : ByteArray) : jn [x] b = x := by
  unfold jn
  rw [List.map_cons, List.map_nil, Lib.join_one]; rfl
theorem mk_append (a b : ByteArray) : a ++ b = ⟨(bl a ++ bl b).toArray⟩ := by
  cases a; cases b
  simp [bl, ← ByteArray.append_eq]
  rfl
theorem joinTail_snoc (sep x : List UInt8) (r : List (List UInt8)) : Lib.joinTail sep (r ++ [x]) = Lib.joinTail sep r ++ (sep ++ x) := by
  unfold Lib.joinTail
  rw [List.map_append, List.flatten_append]
  simp
theorem jn_snoc (xs : List ByteArray) (x b : ByteArray) (h : xs ≠ []) : jn (xs ++ [x]) b = jn xs b ++ b ++ x := by
  cases xs with
  | nil => exact absurd rfl h
  | cons y r =>
    rw [mk_append, mk_append]
    unfold jn
    rw [List.map_append, List.map_cons, List.map_cons, List.map_nil, List.cons_append, Lib.join_cons, Lib.join_cons, joinTail_snoc]
    simp only [bl, List.append_assoc]
theorem jn_take (xs : List ByteArray) (b : ByteArray) (k : Nat) (hk : k < xs.length) (h0 : 0 < k) : jn (xs.take (k + 1)) b = jn (xs.take k) b ++ b ++ at_ xs k := by
  have e : xs[k] = at_ xs k := by unfold at_; rw [List.getD_eq_getElem?_getD, List.getElem?_eq_getElem hk]; rfl
  rw [List.take_succ_eq_append_getElem hk, e, jn_snoc]
  intro h
  have := congrArg List.length h
  rw [List.length_take, List.length_nil] at this
  omega
theorem jn_take0 (xs : List ByteArray) (b : ByteArray) (hk : 0 < xs.length) : jn (xs.take 1) b = at_ xs 0 := by
  have e : xs[0] = at_ xs 0 := by unfold at_; rw [List.getD_eq_getElem?_getD, List.getElem?_eq_getElem hk]; rfl
  rw [show (1 : Nat) = 0 + 1 from rfl, List.take_succ_eq_append_getElem hk, e, List.take_zero, List.nil_append, jn_one]
theorem size_app (a b : ByteArray) : (a ++ b).size = a.size + b.size := ByteArray.size_append
theorem jn_size (xs : List ByteArray) (b : ByteArray) (hb : b.size ≤ 20) (hs : ∀ x ∈ xs, x.size ≤ 200) : ∀ k, k ≤ xs.length → (jn (xs.take k) b).size ≤ 220 * k
  | 0, _ => by simp [jn, Lib.join_nil, ByteArray.size]
  | k + 1, hk => by
    have ih := jn_size xs b hb hs k (by omega)
    have hx := hs _ (at_mem (xs := xs) (i := k) (by omega))
    by_cases h0 : 0 < k
    · rw [jn_take xs b k (by omega) h0, size_app, size_app]; omega
    · obtain rfl : k = 0 := by omega
      rw [jn_take0 xs b (by omega)]; omega
end NM

theorem join_any (A : Option Addr) (c : Nat) (xs : List ByteArray) (b : ByteArray) (w : World) (hl : xs.length ≤ 60) (hc : xs.length ≤ c) (hs : ∀ x ∈ xs, x.size ≤ 200) (hb : b.size ≤ 20) (hA : Strs w A xs) :
    Calls Try.prog 21 #[.slice A xs.length c, .string b] w fun e w' => e = .returned (.string (NM.jn xs b)) ∧ Below w.heap.size w w' := by
  have hlib : Calls Try.prog 33 #[.slice A xs.length c, .string b] w fun e w' => e = .returned (.string (NM.jn xs b)) ∧ Below w.heap.size w w' := by
    cases hx : xs with
    | nil =>
      refine (Try.strings_Join_none A c b w).mono ?_
      rintro e w' ⟨rfl, rfl⟩
      exact ⟨rfl, Below.refl _ _⟩
    | cons x r =>
      rw [← hx]
      obtain ⟨bk, o, rfl, hlt, hcs⟩ := hA (by rw [hx]; simp [scells])
      have hsz := NM.jn_size xs b hb hs xs.length (Nat.le_refl _)
      rw [List.take_length] at hsz
      refine (Try.strings_Join bk o c xs b w (fun j x hj => hcs j _ (by unfold scells; rw [List.getElem?_map, hj]; rfl)) hlt (by omega) hc ?_).mono ?_
      · have : (NM.jn xs b).size = (Lib.join (xs.map (·.data.toList)) b.data.toList).length := by unfold NM.jn ByteArray.size; simp; rfl
        omega
      · rintro e w' ⟨rfl, h⟩
        exact ⟨rfl, h⟩
  have HL := Lib.hid hlib; clear hlib
  generalize xs.length = n at *
  go_enter Try.func21, Try.ntmps21
  go_wp2_with fail
  refine HL.out.mono ?_
  rintro e w' ⟨rfl, h⟩
  go_wp2
  go_ret
  exact ⟨rfl, h⟩
set_option maxHeartbeats 400000 in
theorem refJoin_any (A : Option Addr) (c : Nat) (xs : List ByteArray) (b : ByteArray) (w : World) (hl : xs.length ≤ 60) (hs : ∀ x ∈ xs, x.size ≤ 200) (hb : b.size ≤ 20) (hA : Strs w A xs) :
    Calls Try.prog 22 #[.slice A xs.length c, .string b] w fun e w' => e = .returned (.string (NM.jn xs b)) ∧ w = w' := by
  have HA := Lib.hid hA; clear hA
  have HT := Lib.hid (NM.jn_take xs b)
  have HT0 := Lib.hid (NM.jn_take0 xs b)
  have HS := Lib.hid (NM.jn_size xs b hb hs)
  have HSX := Lib.hid hs; clear hs
  have HE : Hid (NM.jn xs b = NM.jn (xs.take xs.length) b) := by
    show NM.jn xs b = NM.jn (xs.take xs.length) b
    rw [List.take_length]
  generalize hn : xs.length = n at *
  have HN := Lib.hid hn; clear hn
  go_enter Try.func22, Try.ntmps22
  go_wp2
  go_loop [5, 6] (fun sv iv => ∃ (i : Nat) (s : ByteArray), i ≤ n ∧ iv = .int .i64 i ∧ sv = .string s ∧ Hid (s = NM.jn (xs.take i) b)) (fun _ iv => n - (intOf iv).toNat)
  case atStart => exact ⟨0, _, by omega, rfl, rfl, rfl⟩
  case round =>
    obtain ⟨i, s, hi, rfl, rfl, HI⟩ := hrel
    by_cases hlt : i < n
    · obtain ⟨bk, o, rfl, hc⟩ := HA.out.at (k := i) (by rw [HN.out]; exact hlt)
      have hci : w.cell? ⟨bk, o + i, none⟩ = some (.string (NM.at_ xs i)) := hc i (by rw [HN.out]; exact hlt)
      have hxi := HSX.out _ (NM.at_mem (xs := xs) (i := i) (by rw [HN.out]; exact hlt))
      have hss := HS.out i hi
      rw [← HI.out] at hss
      clear hc
      by_cases h0 : 0 < i
      · have HTI := Lib.hid (HT.out i hlt h0)
        generalize NM.at_ xs i = x at *
        have hsz1 : (s ++ b).size = s.size + b.size := NM.size_app s b
        have hsz2 : (s ++ b).size ≤ 100000 := by omega
        clear hsz1
        go_wp2
        go_round
        case rel =>
          refine ⟨i + 1, s ++ b ++ x, by omega, by go_num, rfl, ?_⟩
          show _ = _
          rw [HTI.out, HI.out]
        case measure => simp [intOf]; omega
      · obtain rfl : i = 0 := by omega
        have HTI := Lib.hid (HT0.out hlt)
        have hs0 : s = ⟨#[]⟩ := by rw [HI.out]; rfl
        subst hs0
        generalize NM.at_ xs 0 = x at *
        have HX : Hid ((⟨#[]⟩ : ByteArray) ++ x = x) := by
          show (⟨#[]⟩ : ByteArray) ++ x = x
          rw [NM.mk_append]; rfl
        have hz : (⟨#[]⟩ : ByteArray).size ≤ 0 := by decide
        rw [Nat.add_zero] at hci
        go_wp2
        go_round
        case rel =>
          refine ⟨1, _, by omega, rfl, rfl, ?_⟩
          show _ = _
          rw [HTI.out]
          exact HX.out
        case measure => simp [intOf]; omega
    · obtain rfl : i = n := by omega
      go_wp2
      go_ret
      exact ⟨ret_eq (by rw [HE.out, ← HI.out]; rfl), rfl⟩
end Go.Proofs.Ytjmhnbokojkceaa
