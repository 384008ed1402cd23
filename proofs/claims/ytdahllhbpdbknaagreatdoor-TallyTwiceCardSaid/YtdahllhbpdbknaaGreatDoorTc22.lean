/- Texts that all the claims need. Conditions: those that each states. -/
import Derived.Great.BuildSlice
import Derived.Lib.SliceRun
import Derived.SliceStrings
import Derived.Test.YtdahllhbpdbknaaGreatDoorTc11
import Derived.Test.YtdahllhbpdbknaaGreatDoorTc21
set_option linter.unusedSimpArgs false
set_option linter.unusedVariables false
set_option maxRecDepth 100000
set_option maxHeartbeats 40000000
namespace Go.Proofs.YtdahllhbpdbknaaGreatDoor
section
open Go.ChangeShapes Go.WideShapes Go.ChangeAt Go.RowKit RM
section
variable {H : Type} {enc : TypeId × Value → H} {w w2 : World} {r : Reach} {b0 : Nat}
theorem rel_open {base fuel : Nat} {spare : Nat → Bool} {held : Bool} {cs : List Value} {x : DataW H × List MemPlace} (hf : DataW.trod enc Tryz.prog w base spare held fuel 59 cs = some x) : ∃ n l, cs = rvl n l ∧ RW l := by
 obtain ⟨xs, m, _, _, hsz, hlen, hat⟩ := DataW.trod_struct Tryz.underlying59 hf
 rw [show Tryz.prog.cellsOf 59 = 65 by kernel_rfl] at hsz
 have hlen2 : xs.length = 2 := hlen
 have h0 : DataW.trod enc Tryz.prog w base spare held m 3 (List.take (Tryz.prog.cellsOf 3) (List.drop 0 cs)) = xs[0]? := hat 0 _ rfl
 have h1 : DataW.trod enc Tryz.prog w base spare held m 57 (List.take (Tryz.prog.cellsOf 57) (List.drop 1 cs)) = xs[1]? := hat 1 _ rfl
 rw [List.getElem?_eq_getElem (by omega)] at h0 h1
 rw [show Tryz.prog.cellsOf 3 = 1 by kernel_rfl] at h0
 rw [show Tryz.prog.cellsOf 57 = 64 by kernel_rfl] at h1
 obtain ⟨n, e0, _, _⟩ := DataW.trod_int Tryz.underlying3 h0
 obtain ⟨ys, m2, _, _, _, hyl, hya⟩ := DataW.trod_array Tryz.underlying57 h1
 match cs, hsz with
 | c0 :: t, hsz =>
   have ht : t.length = 64 := by simpa using hsz
   have e0' : c0 = .int .i64 n := by simpa using e0
   subst e0'
   obtain ⟨k, hk, hb⟩ := words_of t fun v hv => by
    obtain ⟨i, hi, he⟩ := List.mem_iff_getElem.1 hv
    have h2 := hya i (by omega)
    rw [List.getElem?_eq_getElem (by omega), show Tryz.prog.cellsOf 38 = 1 by kernel_rfl] at h2
    obtain ⟨q, e1, _, hw⟩ := DataW.trod_int Tryz.underlying38 h2
    have e2 : (List.take 1 (List.drop (i * 1) (List.take 64 (List.drop 1 (Value.int IntKind.i64 n :: t))))) = [t[i]] := by
        simp only [List.drop_succ_cons, List.drop_zero, Nat.mul_one]
        rw [List.take_of_length_le (l := t) (by omega), List.drop_eq_getElem_cons hi]
        rfl
    have e3 : [t[i]] = [Value.int .u64 q] := e2.symm.trans e1
    rw [he] at e3
    have e4 : v = .int .u64 q := by simpa using e3
    have hbd := bounds_u64 hw
    obtain ⟨z, rfl⟩ := Int.eq_ofNat_of_zero_le (show 0 ≤ q by omega)
    exact ⟨z, e4, by omega⟩
   refine ⟨n, k, ?_, ?_, hb⟩
   ·rw [hk]; rfl
   ·have := congrArg List.length hk
    rw [List.length_map] at this
    omega
theorem names_open {fuel : Nat} {cs : List Value} {x : DataW H × List MemPlace} (hf : DataW.trod enc Tryz.prog w 0 (fun _ => true) true fuel 56 cs = some x) :
 ∃ A c, ∃ xs : List ByteArray, cs = [.slice A xs.length c] ∧ (A = none → c = 0) ∧ xs.length ≤ c ∧ c ≤ maxLen ∧ Strs w A xs := by
 rcases open_strings Tryz.underlying56 Tryz.underlying9 (by kernel_rfl) hf with ⟨hcs, hx⟩ | ⟨a, len', cap', zs, hcs, _, hl, hm, hz, hx, hcell, hwz⟩
 ·exact ⟨none, 0, [], hcs, fun _ => rfl, zL _, Nat.zero_le _, Sl.nil _ _ _⟩
 ·have hlz : len' ≤ zs.length := by rw [hz]; split <;> omega
  refine ⟨some a, cap', zs.take len', by rw [hcs, List.length_take, Nat.min_eq_left hlz], (fun h => by cases h), by rw [List.length_take]; omega, hm, fun hne => ?_⟩
  have hp : 0 < zs.length := by
   rcases Nat.eq_zero_or_pos zs.length with h | h
   ·rw [List.eq_nil_of_length_eq_zero h] at hne; simp [scells] at hne
   ·exact h
  obtain ⟨b, off, spot⟩ := a
  have hspot : spot = none := by simpa [Addr.add] using World.cell?_spot (hcell 0 hp)
  subst hspot
  have hcc : ∀ j, j < zs.length → w.cell? ⟨b, off + j, none⟩ = some (.string (zs.getD j ByteArray.empty)) := fun j hj => by rw [← Go.WideShapes.add_plain]; exact hcell j hj
  refine ⟨b, off, rfl, World.block_lt_of_cell? w ⟨b, off + 0, none⟩ (hcc 0 hp), fun jj u hu => ?_⟩
  unfold scells at hu
  rw [List.map_take, List.getElem?_take] at hu
  split at hu
  ·rename_i hjl
   rw [List.getElem?_map, List.getElem?_eq_getElem (show jj < zs.length by omega)] at hu
   have := hcc jj (by omega)
   rw [List.getD_eq_getElem?_getD, List.getElem?_eq_getElem (show jj < zs.length by omega)] at this
   rw [← hu]; exact this
  ·cases hu
theorem fac_open {fuel : Nat} {cs : List Value} {x : DataW H × List MemPlace} (hf : DataW.trod enc Tryz.prog w 0 (fun _ => true) true fuel 61 cs = some x) : ∃ f, cs = fcells f ∧ FacOk w f := by
 obtain ⟨xs, m, _, _, hsz, hlen, hat⟩ := DataW.trod_struct Tryz.underlying61 hf
 rw [show Tryz.prog.cellsOf 61 = 67 by kernel_rfl] at hsz
 have hlen3 : xs.length = 3 := hlen
 have h0 : DataW.trod enc Tryz.prog w 0 (fun _ => true) true m 3 (List.take (Tryz.prog.cellsOf 3) (List.drop 0 cs)) = xs[0]? := hat 0 _ rfl
 have h1 : DataW.trod enc Tryz.prog w 0 (fun _ => true) true m 56 (List.take (Tryz.prog.cellsOf 56) (List.drop 1 cs)) = xs[1]? := hat 1 _ rfl
 have h2 : DataW.trod enc Tryz.prog w 0 (fun _ => true) true m 59 (List.take (Tryz.prog.cellsOf 59) (List.drop 2 cs)) = xs[2]? := hat 2 _ rfl
 rw [List.getElem?_eq_getElem (by omega)] at h0 h1 h2
 rw [show Tryz.prog.cellsOf 3 = 1 by kernel_rfl] at h0
 rw [show Tryz.prog.cellsOf 56 = 1 by kernel_rfl] at h1
 rw [show Tryz.prog.cellsOf 59 = 65 by kernel_rfl] at h2
 obtain ⟨k, e0, _, _⟩ := DataW.trod_int Tryz.underlying3 h0
 obtain ⟨A, c, ns, e1, hnil, hcap, hmax, hst⟩ := names_open h1
 obtain ⟨n, l, e2, hl⟩ := rel_open h2
 match cs, hsz with
 | c0 :: c1 :: t, hsz =>
   have ht : t.length = 65 := by simpa using hsz
   have e0' : c0 = .int .i64 k := by simpa using e0
   have e1' : c1 = .slice A ns.length c := by simpa using e1
   have e2' : t = rvl n l := by
    rw [List.drop_succ_cons, List.drop_succ_cons, List.drop_zero, List.take_of_length_le (by omega)] at e2
    exact e2
   exact ⟨⟨k, A, c, ns, n, l⟩, by rw [e0', e1', e2']; rfl, hst, hl, hnil, hcap, hmax⟩
theorem list_of_fac {P : Nat → Fac → Prop} : ∀ n, (∀ i, i < n → ∃ f, P i f) → ∃ fs : List Fac, fs.length = n ∧ ∀ i, i < n → P i (fs.getD i f0)
 | 0, _ => ⟨[], rfl, fun i hi => by omega⟩
 | n + 1, h => by
   obtain ⟨xs, hl, hx⟩ := list_of_fac n fun i hi => h i (by omega)
   obtain ⟨f, hp⟩ := h n (by omega)
   refine ⟨xs ++ [f], by simp [hl], fun i hi2 => ?_⟩
   by_cases e : i = n
   ·subst e
    rw [List.getD_eq_getElem?_getD, List.getElem?_append_right (by omega), hl]
    simpa using hp
   ·rw [List.getD_eq_getElem?_getD, List.getElem?_append_left (by omega), ← List.getD_eq_getElem?_getD]
    exact hx i (by omega)
theorem facs_open {fuel : Nat} {cs : List Value} {x : DataW H × List MemPlace} (hf : DataW.trod enc Tryz.prog w 0 (fun _ => true) true fuel 22 cs = some x) :
 ∃ A c, ∃ fs : List Fac, cs = [.slice A fs.length c] ∧ (A = none → c = 0) ∧ fs.length ≤ c ∧ Facs w A fs := by
 rcases Go.Deep.open_slice Tryz.underlying22 hf with ⟨hcs, _⟩ | ⟨a, len', cap', m, k, D, Pl, hcs, _, hl, hm, hmm, _, hi⟩
 ·exact ⟨none, 0, [], hcs, fun _ => rfl, zL _, Facs.nil _ _⟩
 ·have hlm : len' ≤ m := by rw [hmm]; split <;> omega
  rw [show Tryz.prog.cellsOf 61 = 67 by kernel_rfl] at hi
  obtain ⟨fs, hfl, hfx⟩ := list_of_fac (P := fun i f => w.cells? 0 (a.add (i * 67)) 67 = some (fcells f) ∧ FacOk w f) len' fun i hi2 => by
   obtain ⟨cs', h1, h2⟩ := hi i (by omega)
   obtain ⟨f, rfl, hok⟩ := fac_open h2
   exact ⟨f, h1, hok⟩
  subst hfl
  have hok : ∀ f ∈ fs, FacOk w f := fun f hf => by
   obtain ⟨i, hi2, rfl⟩ := List.mem_iff_getElem.1 hf
   have := (hfx i hi2).2
   rw [List.getD_eq_getElem?_getD, List.getElem?_eq_getElem hi2] at this
   exact this
  refine ⟨some a, cap', fs, hcs, (fun h => by cases h), hl, fun hne => ?_, hok⟩
  have hrw : ∀ f ∈ fs, RW f.l := fun f hf => (hok f hf).rows
  have hp : 0 < fs.length := by
   rcases Nat.eq_zero_or_pos fs.length with h | h
   ·rw [List.eq_nil_of_length_eq_zero h] at hne; simp [fscells] at hne
   ·exact h
  have hcell : ∀ i j, i < fs.length → j < 67 → w.cell? ((a.add (i * 67)).add j) = (fcells (fs.getD i f0))[j]? := fun i j h1 h2 => by
   obtain ⟨_, _, hat⟩ := World.cells?_some (hfx i h1).1
   exact hat j h2
  have hl0 := fcells_length (fs.getD 0 f0) (hok _ (getD_memF hp)).rows
  obtain ⟨b, off, spot⟩ := a
  have h00 := hcell 0 0 hp (by omega)
  rw [List.getElem?_eq_getElem (by rw [hl0]; omega)] at h00
  have hspot : spot = none := by simpa [Addr.add] using World.cell?_spot h00
  subst hspot
  have hcc : ∀ i j, i < fs.length → j < 67 → w.cell? ⟨b, off + i * 67 + j, none⟩ = (fcells (fs.getD i f0))[j]? := fun i j h1 h2 => by
   rw [← hcell i j h1 h2, Go.WideShapes.add_plain, Go.WideShapes.add_plain]
  have h00' := hcc 0 0 hp (by omega)
  rw [List.getElem?_eq_getElem (by rw [hl0]; omega)] at h00'
  refine ⟨b, off, rfl, World.block_lt_of_cell? w ⟨b, off + 0 * 67 + 0, none⟩ h00', fun j u hu => ?_⟩
  have hj : j < fs.length * 67 := by
   have := (List.getElem?_eq_some_iff.1 hu).1
   rw [fscells_length fs hrw] at this
   exact this
  have h1 := fscells_at fs hrw (j / 67) (j % 67) (by omega) (Nat.mod_lt _ (by omega))
  rw [show j / 67 * 67 + j % 67 = j by omega] at h1
  have h2 := hcc (j / 67) (j % 67) (by omega) (Nat.mod_lt _ (by omega))
  rw [show off + j / 67 * 67 + j % 67 = off + j by omega] at h2
  rw [h2, ← h1]; exact hu
theorem open_shape {v : Value} {d : DataW H} {ps : List MemPlace} (hval : Value.okWide Tryz.prog w2 r b0 24 v) (hd : DataW.Trod enc Tryz.prog w 0 (fun _ => true) true 24 v d ps) :
 ∃ t A c, ∃ fs : List Fac, v = .agg (sv t A fs.length c) ∧ (A = none → c = 0) ∧ Facs w A fs := by
 obtain ⟨cs, rfl, hsz⟩ := okWide_struct Tryz.underlying24 hval
 rw [show Tryz.prog.cellsOf 24 = 2 by kernel_rfl] at hsz
 obtain ⟨l⟩ := cs
 replace hsz : l.length = 2 := hsz
 obtain ⟨fuel, hf⟩ := hd
 obtain ⟨xs, m, _, _, _, hlen, hat⟩ := DataW.trod_struct Tryz.underlying24 hf
 have hlen2 : xs.length = 2 := hlen
 have h0 : DataW.trod enc Tryz.prog w 0 (fun _ => true) true m 4 (List.take (Tryz.prog.cellsOf 4) (List.drop 0 l)) = xs[0]? := hat 0 _ rfl
 have h1 : DataW.trod enc Tryz.prog w 0 (fun _ => true) true m 22 (List.take (Tryz.prog.cellsOf 22) (List.drop 1 l)) = xs[1]? := hat 1 _ rfl
 rw [List.getElem?_eq_getElem (by omega)] at h0 h1
 rw [show Tryz.prog.cellsOf 4 = 1 by kernel_rfl] at h0
 rw [show Tryz.prog.cellsOf 22 = 1 by kernel_rfl] at h1
 obtain ⟨t, e0, _⟩ := DataW.trod_bool Tryz.underlying4 h0
 obtain ⟨A, c, fs, e1, hnil, _, hF⟩ := facs_open h1
 match l, hsz with
 | [u, v], _ =>
   simp at e0 e1
   subst e0 e1
   exact ⟨t, A, c, fs, rfl, hnil, hF⟩
theorem elem_open {base fuel : Nat} {spare : Nat → Bool} {held : Bool} {cs : List Value} {x : DataW H × List MemPlace} (hf : DataW.trod enc Tryz.prog w base spare held fuel 40 cs = some x) : ∃ e, cs = ucells e ∧ EW e := by
 obtain ⟨ys, m, _, _, hsz, hyl, hya⟩ := DataW.trod_array Tryz.underlying40 hf
 rw [show Tryz.prog.cellsOf 40 = 8 by kernel_rfl] at hsz
 obtain ⟨k, hk, hb⟩ := words_of cs fun v hv => by
  obtain ⟨i, hi, he⟩ := List.mem_iff_getElem.1 hv
  have h2 := hya i (by omega)
  rw [List.getElem?_eq_getElem (by omega), show Tryz.prog.cellsOf 38 = 1 by kernel_rfl] at h2
  obtain ⟨q, e1, _, hw⟩ := DataW.trod_int Tryz.underlying38 h2
  have e2 : (List.take 1 (List.drop (i * 1) cs)) = [cs[i]] := by
   rw [Nat.mul_one, List.drop_eq_getElem_cons hi]
   rfl
  have e3 : [cs[i]] = [Value.int .u64 q] := e2.symm.trans e1
  rw [he] at e3
  have e4 : v = .int .u64 q := by simpa using e3
  have hbd := bounds_u64 hw
  obtain ⟨z, rfl⟩ := Int.eq_ofNat_of_zero_le (show 0 ≤ q by omega)
  exact ⟨z, e4, by omega⟩
 refine ⟨k, hk, ?_, hb⟩
 have := congrArg List.length hk
 rw [List.length_map] at this
 omega
end
end
end Go.Proofs.YtdahllhbpdbknaaGreatDoor
