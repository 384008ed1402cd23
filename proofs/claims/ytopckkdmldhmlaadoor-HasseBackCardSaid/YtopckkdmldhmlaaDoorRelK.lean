/-
  What Long of package relate returns. Conditions: 64 words below 2^64; the sort sorts rows of that length; the table of math/bits in memory; the ends of ever longer ways run out.
-/
import Derived.Test.YtopckkdmldhmlaaDoorRelJ
namespace Go.Proofs.YtopckkdmldhmlaaDoor
open Go.RowKit RM

/-- Where ways of k + 1 steps end. -/
def ends (L : List Nat) (s : Nat) : Nat → Nat
  | 0 => abv L s
  | k + 1 => abv L (ends L s k)
theorem ends_lt {L : List Nat} (h : RW L) (s : Nat) : ∀ k, ends L s k < 18446744073709551616
  | 0 => abv_lt h _
  | _ + 1 => abv_lt h _
theorem ex_rows (B gr g : Nat) (L : List Nat) (n : Int) (l : List Nat) (w0 w : World) (h1 : RowsAt w gr L) (h2 : RelAt w g n l) (hb : Below B w0 w) :
    ∃ S : World → Prop, Hid (S w.drew) ∧ (∀ w', S w' → RowsAt w' gr L) ∧ (∀ w', S w' → RelAt w' g n l) ∧ Hid (∀ w', S w' → Below B w0 w') ∧ Hid (B ≤ w.heap.size → ∀ wa wb, S wa → Below wa.heap.size wa wb → S wb) :=
  ⟨fun w' => RowsAt w' gr L ∧ RelAt w' g n l ∧ Below B w0 w' ∧ w.heap.size ≤ w'.heap.size, ⟨h1, h2, hb.drew, Nat.le_refl _⟩, fun _ h => h.1, fun _ h => h.2.1, fun _ h => h.2.2.1,
    fun hB _ _ h hb => ⟨h.1.below hb h.1.lt, h.2.1.below hb h.2.1.lt, h.2.2.1.trans (hb.mono (Nat.le_trans hB h.2.2.2)), Nat.le_trans h.2.2.2 hb.size⟩⟩
end Go.Proofs.YtopckkdmldhmlaaDoor
