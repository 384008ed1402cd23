/-
  What Covers of package relate returns. Conditions: 64 words below 2^64; the sort sorts rows of that length; the table of math/bits in memory.
-/
import Derived.Test.YtopckkdmldhmlaaDoorRelI
namespace Go.Proofs.YtopckkdmldhmlaaDoor
open Go.RowKit RM

theorem infoPair : (Tryd.prog.info? 27).map (fun i => (i.zero, i.size, i.bytes)) = some (some (.agg #[.int .i64 0, .int .i64 0]), 2, 16) := by kernel_rfl
/-- A slice of pairs of the call's own. -/
def OwnP (w : World) (B : Nat) (A : Option Addr) (c : Nat) (xs : List (Int × Int)) : Prop := w.ownsRow B 27 2 (.slice A xs.length c) xs.length (pcells xs)
theorem OwnP.prs {w : World} {B c : Nat} {A : Option Addr} {xs : List (Int × Int)} (h : OwnP w B A c xs) : Prs w A xs := Sl.of_own h
theorem two_cells (w : World) (x y : Value) (e : TypeId) : ∀ j u, [x, y][j]? = some u → (w.alloc (.cells #[x, y] e)).cell? ⟨w.heap.size, j, none⟩ = some u := by
  intro j u hu
  rw [cell_of_row _ w.heap.size j _ e (0, 0) (heap_alloc_new w _)]
  simpa using hu
theorem RowsAt.grown {w w' : World} {g : Nat} {l : List Nat} {row : Option Nat} (h : RowsAt w g l) (hb : w.grownBy w' row) (hg : row ≠ some g) : RowsAt w' g l := (hb.block g h.lt (fun e => hg e.symm)).trans h
theorem own_block {w : World} {base size n g : Nat} {e t : TypeId} {x : Value} {cs : List Value} {cur : Array Value} (h : w.ownsRow base e size x n cs) (hb : w.heap[g]? = some (.cells cur t (0, 0))) (he : e ≠ t) : x.ownBlock ≠ some g := by
  rcases h.2 with ⟨rfl, _⟩ | ⟨g', cap, cur', rfl, _, hh, _⟩
  · simp [Value.ownBlock]
  · intro hx
    have hx' : g' = g := by simpa [Value.ownBlock] using hx
    subst hx'
    rw [hh] at hb
    simp only [Option.some.injEq, Obj.cells.injEq] at hb
    exact he hb.2.1
/-- What stands while the covers of point i are collected. -/
def Cov (B g gi gr : Nat) (L : List Nat) (i : Nat) (w : World) (xs : List (Int × Int)) (W : World) : Prop :=
  ∃ A c, Box W g 68 (.slice A xs.length c) ∧ OwnP W B A c xs ∧ Box W gi 3 (.int .i64 (i : Int)) ∧ RowsAt W gr L ∧ Below B w W
/-- What covers point i: its row without what is above another point of the row. -/
def cvRow (L : List Nat) (i : Nat) : Nat := L.getD i 0 &&& (18446744073709551615 - abv L (L.getD i 0))
theorem cvRow_lt {L : List Nat} (h : RW L) (i : Nat) : cvRow L i < 18446744073709551616 := Nat.lt_of_le_of_lt Nat.and_le_left (h.lt i)
def cvp (i : Nat) (xs : List Nat) : List (Int × Int) := xs.map fun j : Nat => ((i : Int), (j : Int))
/-- The covers of the first k points. -/
def cvs (L : List Nat) : Nat → List (Int × Int)
  | 0 => []
  | k + 1 => cvs L k ++ cvp k (MM.els (cvRow L k))
theorem cvs_length (L : List Nat) : ∀ k, (cvs L k).length ≤ 64 * k
  | 0 => by simp [cvs]
  | k + 1 => by
    have h1 := cvs_length L k
    have h2 := MM.els_length (cvRow L k)
    simp only [cvs, cvp, List.length_append, List.length_map]
    omega
theorem cvp_take (i j : Nat) (xs : List Nat) (h : j < xs.length) : cvp i (xs.take (j + 1)) = cvp i (xs.take j) ++ [((i : Int), ((xs.getD j 0 : Nat) : Int))] := by
  unfold cvp
  rw [List.take_succ_eq_append_getElem h, List.map_append, List.getD_eq_getElem?_getD, List.getElem?_eq_getElem h]; rfl
/-- The covers as the program gives them. -/
def cvL (n : Int) (l : List Nat) : List (Int × Int) := if ordR n l then cvs (strL (cl n l)) 64 else []
end Go.Proofs.YtopckkdmldhmlaaDoor
