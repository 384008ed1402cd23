/- Texts that all the claims need. Conditions: those that each states. -/
import Derived.Carry
import Derived.ChangeArms
import Derived.Deep.DeepHandedRow
import Derived.Deep.Slices
import Derived.OpenShut
import Derived.ProofKit
import Derived.SliceStrings
import Derived.Test.YtmffnkfohmbbeaaGreatDoorCi9
set_option linter.unusedSimpArgs false
set_option linter.unusedVariables false
set_option maxRecDepth 100000
set_option maxHeartbeats 40000000
namespace Go.Proofs.YtmffnkfohmbbeaaGreatDoor
section
namespace TM
def vol : List Nd → Nat
 | [] => 0
 | .mk _ _ s _ _ ws _ _ ks :: r => 1 + s.size + (ws.map fun x => x.s.size + 1).sum + vol ks + vol r
theorem vol_cons (x : Nd) (r : List Nd) : vol (x :: r) = vol [x] + vol r := by
 cases x; simp [vol]
theorem vol_sum (l : List Nd) : vol l = (l.map fun z => vol [z]).sum := by
 induction l with
 | nil => simp [vol]
 | cons x r ih => rw [vol_cons, List.map_cons, List.sum_cons, ih]
theorem cnt_vol : ∀ l, cnt l ≤ vol l := by
 refine ind (by simp [cnt]) fun k p s A c ws B d ks r h1 h2 => ?_
 have hw : ∀ ws : List Wd, ws.length ≤ (ws.map fun x => x.s.size + 1).sum := fun ws => by
  induction ws with
  | nil => simp
  | cons x r ih => simp only [List.map_cons, List.sum_cons, zA8]; omega
 have := hw ws
 rw [cnt, vol]
 omega
def sz (l : List (List UInt8)) : Nat := (l.map fun t => t.length + 1).sum
theorem sz_cons (x : List UInt8) (l : List (List UInt8)) : sz (x :: l) = x.length + 1 + sz l := rfl
theorem jt_sz (l : List (List UInt8)) : (jt l).length ≤ sz l := by
 induction l with
 | nil => simp [jt]
 | cons x r ih => rw [jt, sz_cons, zA8, zA7]; omega
theorem jc_sz (l : List (List UInt8)) : (jc l).length ≤ sz l := by
 cases l with
 | nil => simp [jc]
 | cons x r => have := jt_sz r; rw [jc, sz_cons, zA7]; omega
theorem hd_sz (l : List (List UInt8)) : (l.headD []).length ≤ sz l := by
 cases l with
 | nil => simp
 | cons x r => rw [sz_cons]; simp only [List.headD_cons]; omega
theorem ws_sz (ws : List Wd) : sz (wtx ws) = (ws.map fun x => x.s.size + 1).sum := by
 induction ws with
 | nil => rfl
 | cons x r ih =>
   show sz (LX.lst x.s :: wtx r) = _
   rw [sz_cons, ih, LX.lst_length]; simp
theorem tx1_le (k : Int) (s : List UInt8) (ws ks : List (List UInt8)) : (tx1 k s ws ks).length ≤ 4 + s.length + sz ws + sz ks := by
 have h3 := jc_sz ks
 have h4 := hd_sz ks
 have h5 := jc_sz ws
 generalize sz ws = b at *
 generalize sz ks = a at *
 unfold tx1
 generalize jc ks = J at *
 generalize jc ws = V at *
 generalize ks.headD [] = D at *
 by_cases h1 : k = 1 ∨ k = 2
 ·rw [if_pos h1]; omega
 ·rw [if_neg h1]
  by_cases h2 : k = 7
  ·rw [if_pos h2, zA8]; omega
  ·rw [if_neg h2]
   by_cases h6 : k = 11
   ·rw [if_pos h6, zA7, zA8]; omega
   ·rw [if_neg h6]
    by_cases h7 : k = 4
    ·rw [if_pos h7]; simp only [zA7, zA8, zA9]; omega
    ·rw [if_neg h7]
     by_cases h8 : k = 8
     ·rw [if_pos h8]; simp only [zA7, zA8, zA9]; omega
     ·rw [if_neg h8]
      by_cases h9 : k = 9
      ·rw [if_pos h9]; simp only [zA7, zA8, zA9]; omega
      ·rw [if_neg h9]
       by_cases h10 : k = 5
       ·rw [if_pos h10]; simp only [zA7, zA8, zA9]; omega
       ·rw [if_neg h10]
        by_cases h11 : k = 3
        ·rw [if_pos h11]; simp only [zA7, zA8, zA9]; omega
        ·rw [if_neg h11]
         by_cases h12 : k = 6
         ·rw [if_pos h12]; simp only [zA7, zA8, zA9]; omega
         ·rw [if_neg h12]
          by_cases h13 : k = 10
          ·rw [if_pos h13]
           by_cases h14 : ws = []
           ·rw [if_pos h14]; simp only [zA7, zA8, zA9]; omega
           ·rw [if_neg h14]; simp only [zA7, zA8, zA9]; omega
          ·rw [if_neg h13]; simp
theorem txs_sz : ∀ l, sz (txs l) ≤ 5 * vol l := by
 refine ind (by simp [txs, sz]) fun k p s A c ws B d ks r h1 h2 => ?_
 have h7 := tx1_le k (LX.lst s) (wtx ws) (txs ks)
 rw [ws_sz, LX.lst_length] at h7
 rw [txs, sz_cons, vol]
 omega
theorem tx_vol (x : Nd) : (tx x).length ≤ 5 * vol [x] := by
 have h := txs_sz [x]
 rw [txs_cons, sz_cons] at h
 omega
end TM
open Go.ChangeShapes Go.WideShapes Go.ChangeAt Go.RowKit LX TR TM
section
variable {H : Type} {enc : TypeId × Value → H} {w w2 : World} {r : Reach} {b0 : Nat}
theorem list_of_any {α : Type} (z : α) {P : Nat → α → Prop} : ∀ n, (∀ i, i < n → ∃ f, P i f) → ∃ fs : List α, fs.length = n ∧ ∀ i, i < n → P i (fs.getD i z)
 | 0, _ => ⟨[], rfl, fun i hi => by omega⟩
 | n + 1, h => by
   obtain ⟨xs, hl, hx⟩ := list_of_any z n fun i hi => h i (by omega)
   obtain ⟨f, hp⟩ := h n (by omega)
   refine ⟨xs ++ [f], by simp [hl], fun i hi2 => ?_⟩
   by_cases e : i = n
   ·subst e
    rw [List.getD_eq_getElem?_getD, List.getElem?_append_right (by omega), hl]
    simpa using hp
   ·rw [List.getD_eq_getElem?_getD, List.getElem?_append_left (by omega), ← List.getD_eq_getElem?_getD]
    exact hx i (by omega)
theorem bulk_map {α : Type} (z : α) (bulk : α → Nat) : ∀ (l : List α) (es : List (DataW H)), l.length ≤ es.length → (∀ i, i < l.length → bulk (l.getD i z) ≤ Rows.uptoBulk (es.getD i .nil)) → (l.map bulk).sum ≤ Rows.uptoBulkAll es
 | [], _, _, _ => by simp
 | _ :: _, [], h, _ => by simp at h
 | x :: l, d :: es, h, hh => by
   have h1 := hh 0 (by simp)
   have h2 := bulk_map z bulk l es (by simpa using h) (fun i hi => by
     have := hh (i + 1) (by simpa using hi)
     simpa using this)
   simp only [List.getD_cons_zero] at h1
   simp only [List.map_cons, List.sum_cons, Rows.uptoBulkAll]
   omega
theorem slice_gen {α : Type} {rc : α → List Value} {k : Nat} (hk : ∀ x, (rc x).length = k) (hk0 : 0 < k) (z : α) {t e : TypeId} (ht : Tryz.prog.underlying t = some (.slice e)) (hc : Tryz.prog.cellsOf e = k) (bulk : α → Nat) (R : α → Prop) (fuel : Nat)
 (hel : ∀ m, m < fuel → ∀ (cs : List Value) (x : DataW H × List MemPlace), DataW.trod enc Tryz.prog w 0 (fun _ => true) true m e cs = some x → ∃ a, cs = rc a ∧ R a ∧ bulk a ≤ Rows.uptoBulk x.1)
 (cs : List Value) (x : DataW H × List MemPlace) (hf : DataW.trod enc Tryz.prog w 0 (fun _ => true) true fuel t cs = some x) :
 ∃ A c, ∃ l : List α, cs = [.slice A l.length c] ∧ l.length ≤ c ∧ Sl w w.heap.size A (l.flatMap rc) ∧ (∀ a ∈ l, R a) ∧ (l.map bulk).sum + 1 ≤ Rows.uptoBulk x.1 := by
 rcases DataW.trod_slice ht hf with ⟨hcs, rfl⟩ | ⟨a, len, cap, elems, rest, n, rfl, hcs, rfl, _, hl, _, hlen, hel2, _⟩
 ·exact ⟨none, 0, [], hcs, zL _, Sl.nil _ _ _, by simp, by simp [Rows.uptoBulk]⟩
 ·rw [hc] at hel2
  obtain ⟨l, hll, hlx⟩ := list_of_any z (P := fun i x => w.cells? 0 (a.add (i * k)) k = some (rc x) ∧ R x ∧ bulk x ≤ Rows.uptoBulk ((elems.map (·.1)).getD i .nil)) len fun i hi => by
   have h1 := hel2 i hi
   rw [List.getElem?_eq_getElem (by omega)] at h1
   obtain ⟨cs', hc1, hc2⟩ := Option.bind_eq_some_iff.1 h1
   obtain ⟨b, rfl, hR, hb⟩ := hel n (by omega) _ _ hc2
   refine ⟨b, hc1, hR, ?_⟩
   rw [List.getD_eq_getElem?_getD, List.getElem?_map, List.getElem?_eq_getElem (by omega)]
   exact hb
  subst hll
  refine ⟨some a, cap, l, hcs, hl, fun hne => ?_, fun y hy => ?_, ?_⟩
  ·have hp : 0 < l.length := by
        rcases Nat.eq_zero_or_pos l.length with h | h
        ·rw [List.eq_nil_of_length_eq_zero h] at hne; simp at hne
        ·exact h
   have hcell : ∀ i j, i < l.length → j < k → w.cell? ((a.add (i * k)).add j) = (rc (l.getD i z))[j]? := fun i j h1 h2 => by
        obtain ⟨_, _, hat⟩ := World.cells?_some (hlx i h1).1
        exact hat j h2
   obtain ⟨b, off, spot⟩ := a
   have h00 := hcell 0 0 hp hk0
   rw [List.getElem?_eq_getElem (by rw [hk]; exact hk0)] at h00
   have hspot : spot = none := by simpa [Addr.add] using World.cell?_spot h00
   subst hspot
   have hcc : ∀ i j, i < l.length → j < k → w.cell? ⟨b, off + i * k + j, none⟩ = (rc (l.getD i z))[j]? := fun i j h1 h2 => by
        rw [← hcell i j h1 h2, Go.WideShapes.add_plain, Go.WideShapes.add_plain]
   have h00' := hcc 0 0 hp hk0
   rw [List.getElem?_eq_getElem (by rw [hk]; exact hk0)] at h00'
   refine ⟨b, off, rfl, World.block_lt_of_cell? w ⟨b, off + 0 * k + 0, none⟩ h00', fun j u hu => ?_⟩
   have hj : j < l.length * k := by
        have := (List.getElem?_eq_some_iff.1 hu).1
        rw [fm_length hk] at this
        exact this
   have hdiv : j / k < l.length := Nat.div_lt_of_lt_mul (by rw [Nat.mul_comm]; exact hj)
   have hmod : j % k < k := Nat.mod_lt _ hk0
   have hdm : j / k * k + j % k = j := by rw [Nat.mul_comm]; exact Nat.div_add_mod j k
   have h1 := fm_at hk z l (j / k) (j % k) hdiv hmod
   rw [hdm] at h1
   have h2 := hcc (j / k) (j % k) hdiv hmod
   rw [Nat.add_assoc, hdm] at h2
   rw [h2, ← h1]; exact hu
  ·obtain ⟨i, hi, rfl⟩ := List.mem_iff_getElem.1 hy
   have h := hlx i hi
   rw [List.getD_eq_getElem?_getD, List.getElem?_eq_getElem hi, Option.getD_some] at h
   exact h.2.1
  ·have h := bulk_map z bulk l (elems.map (·.1)) (by rw [List.length_map]; omega) (fun i hi => (hlx i hi).2.2)
   simp only [Rows.uptoBulk]
   omega
theorem word_open {fuel : Nat} {cs : List Value} {x : DataW H × List MemPlace} (hf : DataW.trod enc Tryz.prog w 0 (fun _ => true) true fuel 23 cs = some x) : ∃ t : Wd, cs = wcells t ∧ True ∧ t.s.size + 1 ≤ Rows.uptoBulk x.1 := by
 obtain ⟨xs, m, _, hx, hsz, hlen, hat⟩ := DataW.trod_struct Tryz.underlying23 hf
 rw [show Tryz.prog.cellsOf 23 = 2 by kernel_rfl] at hsz
 have hlen2 : xs.length = 2 := hlen
 have h0 : DataW.trod enc Tryz.prog w 0 (fun _ => true) true m 9 (List.take (Tryz.prog.cellsOf 9) (List.drop 0 cs)) = xs[0]? := hat 0 _ rfl
 have h1 : DataW.trod enc Tryz.prog w 0 (fun _ => true) true m 3 (List.take (Tryz.prog.cellsOf 3) (List.drop 1 cs)) = xs[1]? := hat 1 _ rfl
 rw [List.getElem?_eq_getElem (by omega)] at h0 h1
 rw [show Tryz.prog.cellsOf 9 = 1 by kernel_rfl] at h0
 rw [show Tryz.prog.cellsOf 3 = 1 by kernel_rfl] at h1
 obtain ⟨s, e0, f0, _⟩ := DataW.trod_string Tryz.underlying9 h0
 obtain ⟨p, e1, _, _⟩ := DataW.trod_int Tryz.underlying3 h1
 refine ⟨⟨s, p⟩, ?_, trivial, ?_⟩
 ·match cs, hsz with
  | [c0, c1], _ =>
    simp at e0 e1
    subst e0 e1
    rfl
 ·rw [hx]
  match xs, hlen2 with
  | [y0, y1], _ =>
    have f0' : y0 = (.lit (.string s.data.toList), []) := f0
    subst f0'
    simp only [Rows.uptoBulk, Rows.uptoBulkAll, List.map_cons, List.map_nil]
    have : s.data.toList.length = s.size := by rw [Array.length_toList]; rfl
    show s.size + 1 ≤ _
    omega
theorem node_open : ∀ (fuel : Nat) (cs : List Value) (x : DataW H × List MemPlace), DataW.trod enc Tryz.prog w 0 (fun _ => true) true fuel 28 cs = some x → ∃ z : Nd, cs = ncells z ∧ Nods w w.heap.size [z] ∧ vol [z] ≤ Rows.uptoBulk x.1 := by
 intro fuel
 induction fuel using Nat.strongRecOn with
 | ind fuel ih =>
   intro cs x hf
   obtain ⟨xs, m, hm, hx, hsz, hlen, hat⟩ := DataW.trod_struct Tryz.underlying28 hf
   rw [show Tryz.prog.cellsOf 28 = 5 by kernel_rfl] at hsz
   have hlen5 : xs.length = 5 := hlen
   have h0 : DataW.trod enc Tryz.prog w 0 (fun _ => true) true m 3 (List.take (Tryz.prog.cellsOf 3) (List.drop 0 cs)) = xs[0]? := hat 0 _ rfl
   have h1 : DataW.trod enc Tryz.prog w 0 (fun _ => true) true m 3 (List.take (Tryz.prog.cellsOf 3) (List.drop 1 cs)) = xs[1]? := hat 1 _ rfl
   have h2 : DataW.trod enc Tryz.prog w 0 (fun _ => true) true m 9 (List.take (Tryz.prog.cellsOf 9) (List.drop 2 cs)) = xs[2]? := hat 2 _ rfl
   have h3 : DataW.trod enc Tryz.prog w 0 (fun _ => true) true m 24 (List.take (Tryz.prog.cellsOf 24) (List.drop 3 cs)) = xs[3]? := hat 3 _ rfl
   have h4 : DataW.trod enc Tryz.prog w 0 (fun _ => true) true m 26 (List.take (Tryz.prog.cellsOf 26) (List.drop 4 cs)) = xs[4]? := hat 4 _ rfl
   rw [List.getElem?_eq_getElem (by omega)] at h0 h1 h2 h3 h4
   rw [show Tryz.prog.cellsOf 3 = 1 by kernel_rfl] at h0 h1
   rw [show Tryz.prog.cellsOf 9 = 1 by kernel_rfl] at h2
   rw [show Tryz.prog.cellsOf 24 = 1 by kernel_rfl] at h3
   rw [show Tryz.prog.cellsOf 26 = 1 by kernel_rfl] at h4
   obtain ⟨k, e0, _, _⟩ := DataW.trod_int Tryz.underlying3 h0
   obtain ⟨p, e1, _, _⟩ := DataW.trod_int Tryz.underlying3 h1
   obtain ⟨s, e2, f2, _⟩ := DataW.trod_string Tryz.underlying9 h2
   obtain ⟨A, c, ws, e3, hc3, hS3, _, hb3⟩ := slice_gen wcells_length (by omega) w0 Tryz.underlying24 (show Tryz.prog.cellsOf 23 = 2 by kernel_rfl) (fun a : Wd => a.s.size + 1) (fun _ => True) m (fun m' _ cs x h => word_open h) _ _ h3
   obtain ⟨B, d, ks, e4, hc4, hS4, hR4, hb4⟩ := slice_gen ncells_length (by omega) n0 Tryz.underlying26 (show Tryz.prog.cellsOf 28 = 5 by kernel_rfl) (fun z => vol [z]) (fun z => Nods w w.heap.size [z]) m (fun m' hm' cs x h => ih m' (by omega) cs x h) _ _ h4
   refine ⟨.mk k p s A c ws B d ks, ?_, ?_, ?_⟩
   ·match cs, hsz with
    | [v0, v1, v2, v3, v4], _ =>
      simp at e0 e1 e2 e3 e4
      subst e0 e1 e2 e3 e4
      rfl
   ·intro y hy
    rw [all_cons] at hy
    simp only [TM.all, List.append_nil, List.mem_cons] at hy
    rcases hy with rfl | hy
    ·exact ⟨⟨hS3, hc3⟩, hS4, hc4⟩
    ·have hall : ∀ (l : List Nd), (∀ z ∈ l, Nods w w.heap.size [z]) → Nods w w.heap.size l := fun l => by
      induction l with
      | nil => intro _ y hy; simp [TM.all] at hy
      | cons z r ihr =>
        intro h y hy
        rw [all_cons] at hy
        rcases List.mem_cons.1 hy with rfl | hy
        ·exact h y (by simp) y (mem_all (List.mem_singleton.2 rfl))
        ·rcases List.mem_append.1 hy with hy | hy
         ·exact h z (by simp) y (by rw [all_cons]; simp [hy])
         ·exact ihr (fun z hz => h z (by simp [hz])) y hy
     exact hall ks hR4 y hy
   ·rw [hx]
    match xs, hlen5 with
    | [y0, y1, y2, y3, y4], _ =>
      have f2' : y2 = (.lit (.string s.data.toList), []) := f2
      subst f2'
      have hb3' : (ws.map fun a : Wd => a.s.size + 1).sum + 1 ≤ Rows.uptoBulk y3.1 := hb3
      have hb4' : (ks.map fun z => vol [z]).sum + 1 ≤ Rows.uptoBulk y4.1 := hb4
      rw [← vol_sum] at hb4'
      have hs : s.data.toList.length = s.size := by rw [Array.length_toList]; rfl
      rw [vol]
      simp only [Rows.uptoBulk, Rows.uptoBulkAll, List.map_cons, List.map_nil]
      show 1 + s.size + (ws.map fun x => x.s.size + 1).sum + vol ks + vol [] ≤ _
      rw [vol]
      omega
end
end
end Go.Proofs.YtmffnkfohmbbeaaGreatDoor
