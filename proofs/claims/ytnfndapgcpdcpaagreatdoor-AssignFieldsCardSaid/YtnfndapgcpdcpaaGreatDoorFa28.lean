/- Texts that all the claims need. Conditions: those that each states. -/
import Derived.Carry
import Derived.ChangeArms
import Derived.Deep.DeepHandedRow
import Derived.Deep.Slices
import Derived.OpenShut
import Derived.ProofKit
import Derived.SliceStrings
import Derived.Test.YtnfndapgcpdcpaaGreatDoorFa23
set_option linter.unusedSimpArgs false
set_option linter.unusedVariables false
set_option maxRecDepth 100000
set_option maxHeartbeats 40000000
namespace Go.Proofs.YtnfndapgcpdcpaaGreatDoor
section
namespace TM
def vol : List Nd → Nat
 | [] => 0
 | .mk _ _ s _ _ ws _ _ ks :: r => 1 + s.size + (ws.map fun x => x.s.size + 1).sum + vol ks + vol r
theorem vol_cons (x : Nd) (r : List Nd) : vol (x :: r) = vol [x] + vol r := by
 cases x; simp [vol]
theorem cnt_vol : ∀ l, cnt l ≤ vol l := by
 refine ind (by simp [cnt]) fun k p s A c ws B d ks r h1 h2 => ?_
 have hw : ∀ ws : List Wd, ws.length ≤ (ws.map fun x => x.s.size + 1).sum := fun ws => by
  induction ws with
  | nil => simp
  | cons x r ih => simp only [List.map_cons, List.sum_cons, zA8]; omega
 have := hw ws
 rw [cnt, vol]
 omega
def sz (l : List (List UInt8)) : Nat := (l.map fun t => t.length + 1).sum
theorem sz_cons (x : List UInt8) (l : List (List UInt8)) : sz (x :: l) = x.length + 1 + sz l := rfl
theorem jt_sz (l : List (List UInt8)) : (jt l).length ≤ sz l := by
 induction l with
 | nil => simp [jt]
 | cons x r ih => rw [jt, sz_cons, zA8, zA7]; omega
theorem jc_sz (l : List (List UInt8)) : (jc l).length ≤ sz l := by
 cases l with
 | nil => simp [jc]
 | cons x r => have := jt_sz r; rw [jc, sz_cons, zA7]; omega
theorem hd_sz (l : List (List UInt8)) : (l.headD []).length ≤ sz l := by
 cases l with
 | nil => simp
 | cons x r => rw [sz_cons]; simp only [List.headD_cons]; omega
theorem ws_sz (ws : List Wd) : sz (wtx ws) = (ws.map fun x => x.s.size + 1).sum := by
 induction ws with
 | nil => rfl
 | cons x r ih =>
   show sz (LX.lst x.s :: wtx r) = _
   rw [sz_cons, ih, LX.lst_length]; simp
theorem tx1_le (k : Int) (s : List UInt8) (ws ks : List (List UInt8)) : (tx1 k s ws ks).length ≤ 4 + s.length + sz ws + sz ks := by
 have h3 := jc_sz ks
 have h4 := hd_sz ks
 have h5 := jc_sz ws
 generalize sz ws = b at *
 generalize sz ks = a at *
 unfold tx1
 generalize jc ks = J at *
 generalize jc ws = V at *
 generalize ks.headD [] = D at *
 by_cases h1 : k = 1 ∨ k = 2
 ·rw [if_pos h1]; omega
 ·rw [if_neg h1]
  by_cases h2 : k = 7
  ·rw [if_pos h2, zA8]; omega
  ·rw [if_neg h2]
   by_cases h6 : k = 11
   ·rw [if_pos h6, zA7, zA8]; omega
   ·rw [if_neg h6]
    by_cases h7 : k = 4
    ·rw [if_pos h7]; simp only [zA7, zA8, zA9]; omega
    ·rw [if_neg h7]
     by_cases h8 : k = 8
     ·rw [if_pos h8]; simp only [zA7, zA8, zA9]; omega
     ·rw [if_neg h8]
      by_cases h9 : k = 9
      ·rw [if_pos h9]; simp only [zA7, zA8, zA9]; omega
      ·rw [if_neg h9]
       by_cases h10 : k = 5
       ·rw [if_pos h10]; simp only [zA7, zA8, zA9]; omega
       ·rw [if_neg h10]
        by_cases h11 : k = 3
        ·rw [if_pos h11]; simp only [zA7, zA8, zA9]; omega
        ·rw [if_neg h11]
         by_cases h12 : k = 6
         ·rw [if_pos h12]; simp only [zA7, zA8, zA9]; omega
         ·rw [if_neg h12]
          by_cases h13 : k = 10
          ·rw [if_pos h13]
           by_cases h14 : ws = []
           ·rw [if_pos h14]; simp only [zA7, zA8, zA9]; omega
           ·rw [if_neg h14]; simp only [zA7, zA8, zA9]; omega
          ·rw [if_neg h13]; simp
theorem txs_sz : ∀ l, sz (txs l) ≤ 5 * vol l := by
 refine ind (by simp [txs, sz]) fun k p s A c ws B d ks r h1 h2 => ?_
 have h7 := tx1_le k (LX.lst s) (wtx ws) (txs ks)
 rw [ws_sz, LX.lst_length] at h7
 rw [txs, sz_cons, vol]
 omega
theorem tx_vol (x : Nd) : (tx x).length ≤ 5 * vol [x] := by
 have h := txs_sz [x]
 rw [txs_cons, sz_cons] at h
 omega
end TM
open Go.ChangeShapes Go.WideShapes Go.ChangeAt Go.RowKit LX TR TM
section
variable {H : Type} {enc : TypeId × Value → H} {w w2 : World} {r : Reach} {b0 : Nat}
end
end
end Go.Proofs.YtnfndapgcpdcpaaGreatDoor
