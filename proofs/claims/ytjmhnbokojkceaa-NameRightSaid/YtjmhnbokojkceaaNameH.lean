/-
  What the statements' own helper of layer 2 returns: true. Conditions: none.
-/
import Derived.Test.YtjmhnbokojkceaaNameG
namespace Go.Proofs.Ytjmhnbokojkceaa
open Go.RowKit

theorem new_strs (w : World) (xs : List ByteArray) (e : TypeId) : Strs (w.alloc (.cells (scells xs).toArray e)) (some ⟨w.heap.size, 0, none⟩) xs := fun _ => by
  refine ⟨w.heap.size, 0, rfl, by simp, fun j u hu => ?_⟩
  rw [Nat.zero_add, World.cell?_alloc_at _ _ _ _ rfl]
  simpa using hu
def cA : ByteArray := ⟨#[97]⟩
def cB : ByteArray := ⟨#[98]⟩
def cAB : ByteArray := ⟨#[97, 98]⟩
def cA1 : ByteArray := ⟨#[97, 95, 49]⟩
theorem srt_ex : NM.srt [cB, cAB, cB, cA] = [cA, cAB, cB] := by
  have h : ∀ a b, NM.less a b = Op.bytesLess (NM.bl a) (NM.bl b) := fun a b => by unfold NM.less; rw [Lib.toList_data, Lib.toList_data]; rfl
  refine NM.rises_eq (NM.srt_rises _) (by simp only [h]; decide) fun x => ?_
  rw [NM.srt_mem]
  simp only [List.mem_cons, List.not_mem_nil, or_false]
  constructor
  · rintro (h | h | h | h) <;> simp [h]
  · rintro (h | h | h) <;> simp [h]
theorem same_ex : same [cA, cAB, cB] [cA, cAB, cB] = true := decide_eq_true rfl
theorem twc_ex : twc [cA, cB, cA, cB] = 2 := by decide
theorem right_ex : NM.right cA1 = true := by decide
theorem sort_ex (w : World) : Calls Try.prog 19 #[.slice (some ⟨w.heap.size, 0, none⟩) 4 4] (w.alloc (.cells #[.string ⟨#[98]⟩, .string ⟨#[97, 98]⟩, .string ⟨#[98]⟩, .string ⟨#[97]⟩] 9)) fun e w' => ∃ A' c', e = .returned (.slice A' 3 c') ∧ Strs w' A' [cA, cAB, cB] ∧ Below w.heap.size w w' := by
  refine (sort_any (some ⟨w.heap.size, 0, none⟩) 4 [cB, cAB, cB, cA] _ (by decide) (new_strs w [cB, cAB, cB, cA] 9)).mono ?_
  rintro e w' ⟨A', c', rfl, hs, hb⟩
  rw [srt_ex] at hs ⊢
  exact ⟨A', c', rfl, hs, ((Below.refl _ _).alloc (Nat.le_refl _) _).trans (hb.mono (by simp))⟩
set_option maxHeartbeats 800000 in
theorem alive_any (w : World) : Calls Try.prog 8 #[] w fun e w' => e = .returned (.bool true) ∧ Below w.heap.size w w' := by
  go_enter Try.func8, Try.ntmps8
  go_wp2_with fail
  refine (sort_ex w).mono ?_
  rintro e w1 ⟨A, c, rfl, hs1, hb1⟩
  have HB1 := Lib.hid hb1; have HS1 := Lib.hid hs1; clear hb1 hs1
  go_wp2_with fail
  refine (refSame_any A (some ⟨w1.heap.size, 0, none⟩) c 3 [cA, cAB, cB] [cA, cAB, cB] (w1.alloc (.cells #[.string ⟨#[97]⟩, .string ⟨#[97, 98]⟩, .string ⟨#[98]⟩] 9)) (by decide) (HS1.out.below ((Below.refl _ _).alloc (Nat.le_refl _) _)) (new_strs w1 [cA, cAB, cB] 9)).mono ?_
  rintro e w2 ⟨rfl, hd2⟩
  rw [same_ex]
  have HB2 := Lib.hid ((HB1.out.alloc HB1.out.size _).trans (hd2.below.mono (by simp; exact Nat.le_trans HB1.out.size (by omega))))
  clear hd2
  go_wp2_with fail
  refine (twice_any (some ⟨w2.heap.size, 0, none⟩) 4 [cA, cB, cA, cB] (w2.alloc (.cells #[.string ⟨#[97]⟩, .string ⟨#[98]⟩, .string ⟨#[97]⟩, .string ⟨#[98]⟩] 9)) (by decide) (by decide) (new_strs w2 [cA, cB, cA, cB] 9)).mono ?_
  rintro e w3 ⟨rfl, hb3⟩
  rw [twc_ex]
  have HB3 := Lib.hid ((HB2.out.alloc HB2.out.size _).trans (hb3.mono (by simp; exact Nat.le_trans HB2.out.size (by omega))))
  clear hb3
  go_wp2_with fail
  refine (right_any cA1 w3).mono ?_
  rintro e w4 ⟨rfl, hb4⟩
  rw [right_ex]
  have HB4 := Lib.hid (HB3.out.trans (hb4.mono HB3.out.size))
  clear hb4
  go_wp2
  go_ret
  exact ⟨rfl, HB4.out⟩
end Go.Proofs.Ytjmhnbokojkceaa
