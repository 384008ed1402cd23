/-
  Sorting at most twelve words; what is asked of the sort. Conditions: the row's cells hold the words.
-/
import Derived.Test.YtopckkdmldhmlaaDoorSortA
import Derived.Test.YtopckkdmldhmlaaDoorShelf
import Derived.Sort.AssemblyPlain
namespace Go.Proofs.YtopckkdmldhmlaaDoor
open Go.RowKit RM
open Go.Sort hiding Below ahead

theorem swo_ltN : SWO ltN := ⟨fun x => by simp [ltN], fun x y z h1 h2 => by simp [ltN] at *; omega, fun x y z h1 h2 => by simp [ltN] at *; omega⟩
/-- What is asked of slices.Sort at rows of at most k words. -/
def SortTo (k : Nat) : Prop := ∀ (blk off cap : Nat) (d : Array Nat) (w : World), d.size ≤ k → Holds eu w blk off d →
  Calls Tryd.prog 56 #[.slice (some ⟨blk, off, none⟩) d.size cap] w fun e w' => e = .returned (.tuple #[]) ∧ ∃ d', PermIn 0 d.size d d' ∧ SortedIn ltN 0 d.size d' ∧ Holds eu w' blk off d' ∧ Mut blk w w'
/-- What is asked of pdqsort. -/
def PdqTo (k : Nat) : Prop := ∀ (blk off cap l : Nat) (d : Array Nat) (w : World), d.size ≤ k → l ≤ 64 → Holds eu w blk off d →
  Calls Tryd.prog 62 #[.slice (some ⟨blk, off, none⟩) d.size cap, .int .i64 0, .int .i64 (d.size : Int), .int .i64 (l : Int)] w fun e w' => e = .returned (.tuple #[]) ∧ ∃ d', PermIn 0 d.size d d' ∧ SortedIn ltN 0 d.size d' ∧ Holds eu w' blk off d' ∧ Mut blk w w'
theorem pdq_12 : PdqTo 12 := by
  intro blk off cap l d w hk hl hH
  have hi := insertion_any blk off cap 0 d.size d w hH (Nat.zero_le _) (Nat.le_refl _) (by omega)
  have hs := insertionSort_holds (lt := ltN) swo_ltN d 0 d.size (Nat.zero_le _) (Nat.le_refl _)
  have HI := Lib.hid hi; clear hi
  have HS := Lib.hid hs; clear hs
  generalize hn : d.size = n at *
  clear hn hH
  go_enter Tryd.func62, Tryd.ntmps62
  go_wp2_with fail
  refine wp_loop_rounds 1 ?_
  rw [rounds_succ]
  go_wp2_with fail
  refine HI.out.mono ?_
  rintro e w1 ⟨rfl, h1, h2⟩
  have H1 := Lib.hid h1; clear h1
  have H2 := Lib.hid h2; clear h2
  go_wp2_with fail
  exact bodyPost_ret (results_none rfl _ _ _) rfl ⟨rfl, _, HS.out.1, HS.out.2, H1.out, H2.out⟩
theorem sort_of_pdq (k : Nat) (hk : k ≤ 64) (hp : PdqTo k) : SortTo k := by
  intro blk off cap d w hd hH
  have hl := fun w => Tryd.bits_Len (d.size : Int) w (by omega) (by omega)
  have hlim : Lib.bitLen d.size ≤ 64 := Lib.bitLen_le d.size 64 (by omega) (by omega)
  have hc := hp blk off cap (Lib.bitLen d.size) d w hd hlim hH
  have wr : IntKind.u64.wrap (d.size : Int) = d.size := by rw [IntKind.wrap_u64]; omega
  rw [Int.toNat_natCast] at hl
  have HC := Lib.hid hc; clear hc hp
  have HL := Lib.hid hl; clear hl hlim
  generalize Lib.bitLen d.size = b at *
  have hn : d.size ≤ 64 := by omega
  clear hd hH
  generalize hdn : d.size = n at *
  clear hdn
  go_enter Tryd.func56, Tryd.ntmps56
  go_wp2_with fail
  refine (HL.out _).mono ?_
  rintro e w1 ⟨rfl, rfl⟩
  go_wp2_with fail
  refine HC.out.mono ?_
  rintro e w1 ⟨rfl, h⟩
  have H := Lib.hid h; clear h
  go_wp2_with fail
  go_end0
  exact ⟨rfl, H.out⟩
theorem sort_12 : SortTo 12 := sort_of_pdq 12 (by omega) pdq_12
end Go.Proofs.YtopckkdmldhmlaaDoor
