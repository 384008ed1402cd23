/- Texts that all the claims need. Conditions: those that each states. -/

import Derived.Test.YtkgonoejnochjaaGreatDoorY21
import Derived.Test.YtkgonoejnochjaaGreatDoorY24
import Derived.Test.YtkgonoejnochjaaGreatDoorY26
set_option linter.unusedSimpArgs false
set_option linter.unusedVariables false
set_option maxRecDepth 8000
namespace Go.Proofs.YtkgonoejnochjaaGreatDoor
open Go.RowKit LX TR TM SP RM
namespace SP
def pq : List ByteArray := [⟨#[112]⟩, ⟨#[113]⟩]
def lG : List Nat := 3 :: 2 :: List.replicate 62 0
def fG (g : Nat) : Fac := ⟨3, some ⟨g, 0, none⟩, 2, pq, 2, lG⟩
theorem rwG : RW lG := by
 refine ⟨rfl, fun x hx => ?_⟩
 unfold lG at hx
 simp only [List.mem_cons, List.mem_replicate] at hx
 omega
def e1 : List Nat := [1, 0, 0, 0, 0, 0, 0, 0]
theorem ew1 : EW e1 := ⟨rfl, fun x hx => by unfold e1 at hx; simp at hx; omega⟩
def kG (A : Option Addr) : Nd := .mk 6 0 ⟨#[112]⟩ A 1 [⟨⟨#[113]⟩, 0⟩] none 0 []
def xG (A B : Option Addr) : Nd := .mk 5 0 ⟨#[]⟩ none 0 [] B 1 [kG A]
theorem g_named : namedB pq = true := by kernel_rfl
theorem g_rel : relB 3 2 lG 2 = true := by kernel_rfl
theorem g_right (g : Nat) : rightS false [fG g] = true := by
 have h1 : facB (fG g) = true := by
  show (namedB pq && relB 3 2 lG 2) = true
  rw [g_named, g_rel]; rfl
 unfold rightS
 simp only [List.all_cons, h1]
 rfl
theorem g_fl (A B : Option Addr) : (fl (xG A B)).c = true := by
 have h : fl (kG A) = fl1 6 ⟨#[112]⟩ [⟨⟨#[113]⟩, 0⟩] [] := by
  show fl1 6 ⟨#[112]⟩ [⟨⟨#[113]⟩, 0⟩] (fls []) = _
  rw [fls]
 show cB 5 ⟨#[]⟩ [] (fls [kG A]) = true
 rw [fls_cons, fls, h]
 kernel_rfl
theorem g_word (g : Nat) (A B : Option Addr) : wordC (fG g) (xG A B) = .ok 1 := by kernel_rfl
theorem g_elem (g : Nat) (A B : Option Addr) : elemR false [fG g] (xG A B) = .ok e1 := by
 unfold elemR
 rw [g_right, g_fl, if_pos (by rfl), if_neg (by simp)]
 have h := elw_good (fs := [fG g]) (xs := [xG A B]) (fun j hj => by
  have : j = 0 := by simp at hj; omega
  subst this
  show erW (wordC (fG g) (xG A B)) = none
  rw [g_word]; rfl)
 rw [h]
 have e : ∀ i, (if i < 1 then okW (wordC ([fG g].getD i f0) ([xG A B].getD i n0)) else 0) = if i < 1 then 1 else 0 := fun i => by
  by_cases hi : i < 1
  ·rw [if_pos hi, if_pos hi]
   have : i = 0 := by omega
   subst this
   show okW (wordC (fG g) (xG A B)) = 1
   rw [g_word]; rfl
  ·rw [if_neg hi, if_neg hi]
 unfold sdTo
 show Except.ok ((List.range 8).map fun i => if i < 1 then okW (wordC ([fG g].getD i f0) ([xG A B].getD i n0)) else 0) = _
 simp only [e]
 rfl
theorem g_closed : gClosed 2 lG 1 = true := by kernel_rfl
theorem g_fits (g : Nat) : fitsE false [fG g] e1 = true := by
 unfold fitsE
 rw [g_right, Bool.true_and, List.all_eq_true]
 intro i hi
 have hi := List.mem_range.1 hi
 unfold slotB
 match i, hi with
 | 0, _ =>
   show wordB (fG g) 1 = true
   unfold wordB
   rw [if_neg (by show (3 : Int) ≠ 1; decide), if_neg (by show (3 : Int) ≠ 2; decide), if_pos (by rfl)]
   exact g_closed
 | 1, _ => rfl
 | 2, _ => rfl
 | 3, _ => rfl
 | 4, _ => rfl
 | 5, _ => rfl
 | 6, _ => rfl
 | 7, _ => rfl
theorem g_conN (g : Nat) : conN (fG g) 1 = nd 5 0 ⟨#[]⟩ [] [nd 6 0 ⟨#[112]⟩ [⟨⟨#[113]⟩, 0⟩] []] := by kernel_rfl
theorem g_con (g : Nat) : tx (conN (fG g) 1) = [91, 112, 58, 123, 113, 125, 93] := by
 have h : tx (nd 6 0 ⟨#[112]⟩ [⟨⟨#[113]⟩, 0⟩] []) = tx1 6 (lst ⟨#[112]⟩) (wtx [⟨⟨#[113]⟩, 0⟩]) [] := by
  show tx1 6 (lst ⟨#[112]⟩) (wtx [⟨⟨#[113]⟩, 0⟩]) (txs []) = _
  rw [txs]
 rw [g_conN]
 show tx1 5 (lst ⟨#[]⟩) (wtx []) (txs [nd 6 0 ⟨#[112]⟩ [⟨⟨#[113]⟩, 0⟩] []]) = _
 rw [txs_cons, txs, h]
 kernel_rfl
theorem g_text (g : Nat) : tx (nodeE false [fG g] e1) = [91, 112, 58, 123, 113, 125, 93] := by
 unfold nodeE
 rw [if_pos (g_fits g), if_neg (by simp)]
 exact g_con g
end SP
end Go.Proofs.YtkgonoejnochjaaGreatDoor
namespace Go.Proofs.YtkgonoejnochjaaGreatDoor
open Go.RowKit LX TR TM SP RM
theorem SP.fG_ok (w : World) : FacOk (w.alloc (.cells (scells pq).toArray 9)) (fG w.heap.size) := ⟨strs_new w pq, rwG, (fun h => by cases h), Nat.le_refl _, (by show 2 ≤ maxLen; simp [maxLen])⟩
theorem SP.sl_new (w : World) (t : TypeId) (cs : Array Value) : Sl (w.alloc (.cells cs t)) (w.heap.size + 1) (some ⟨w.heap.size, 0, none⟩) cs.toList := fun _ =>
 ⟨w.heap.size, 0, rfl, by omega, fun j u hu => by
  rw [Nat.zero_add]
  exact (RowAt.cell (RowAt.new w t cs) j).trans (by simpa using hu)⟩
theorem SP.xG_nods {w : World} {A B : Option Addr} (h1 : Sl w w.heap.size A (wcs [⟨⟨#[113]⟩, 0⟩])) (h2 : Sl w w.heap.size B (ncs [kG A])) : Nods w w.heap.size [xG A B] := by
 have hk : Nods w w.heap.size [kG A] := fun x hx => by
  have : x = kG A := by simpa [kG, TM.all] using hx
  subst this
  exact ⟨⟨h1, Nat.le_refl _⟩, Sl.nil _ _ _, Nat.le_refl _⟩
 intro x hx
 have hx2 : x = xG A B ∨ x ∈ TM.all [kG A] := by
  unfold xG at hx
  rw [TM.all, TM.all] at hx
  rcases List.mem_cons.1 hx with h | h
  ·exact .inl h
  ·exact .inr (by simpa using h)
 rcases hx2 with rfl | hx2
 ·exact ⟨⟨Sl.nil _ _ _, Nat.le_refl _⟩, h2, Nat.le_refl _⟩
 ·exact hk x hx2
theorem SP.two_zero (w : World) : RowAt ((w.alloc (.cells #[.int .u64 0, .int .u64 0, .int .u64 0, .int .u64 0, .int .u64 0, .int .u64 0, .int .u64 0, .int .u64 0] 34)).alloc (.cells #[.int .i64 0, .int .i64 0] 36)) w.heap.size 34 (uv (List.replicate 8 0)) := by
 rw [← zero_elem]
 exact (RowAt.new _ _ _).alloc _
theorem SP.two_mid {w w8 : World} {c : Array Value} (he : Else w.heap.size ((w.alloc (.cells c 34)).alloc (.cells #[.int .i64 0, .int .i64 0] 36)) w8) : RowAt w8 (w.heap.size + 1) 36 #[.int .i64 0, .int .i64 0] := by
 have h := RowAt.new (w.alloc (.cells c 34)) 36 #[.int .i64 0, .int .i64 0]
 rw [show (w.alloc (.cells c 34)).heap.size = w.heap.size + 1 by simp] at h
 exact h.other he (by omega)
theorem SP.two_end {w w8 : World} {c : Array Value} {l : List Nat} (he : Else w.heap.size ((w.alloc (.cells c 34)).alloc (.cells #[.int .i64 0, .int .i64 0] 36)) w8) (q : RowAt w8 w.heap.size 34 (uv l)) (a b : Value) :
 RowAt ((w8.setCell ⟨w.heap.size + 1, 0, none⟩ a).setCell ⟨w.heap.size + 1, 1, none⟩ b) w.heap.size 34 (uv l) ∧ RowAt ((w8.setCell ⟨w.heap.size + 1, 0, none⟩ a).setCell ⟨w.heap.size + 1, 1, none⟩ b) (w.heap.size + 1) 36 #[a, b] ∧ Below w.heap.size w ((w8.setCell ⟨w.heap.size + 1, 0, none⟩ a).setCell ⟨w.heap.size + 1, 1, none⟩ b) := by
 have hb0 : Below w.heap.size w ((w.alloc (.cells c 34)).alloc (.cells #[.int .i64 0, .int .i64 0] 36)) := ((Below.refl _ _).alloc (Nat.le_refl _) _).alloc (by simp) _
 have hb := hb0.trans (he.below (Nat.le_refl _))
 exact ⟨(q.far (p := ⟨w.heap.size + 1, 0, none⟩) (by show w.heap.size + 1 ≠ w.heap.size; omega) a).far (p := ⟨w.heap.size + 1, 1, none⟩) (by show w.heap.size + 1 ≠ w.heap.size; omega) b,
  ((two_mid he).put 0 a).put 1 b, (hb.setCell (p := ⟨w.heap.size + 1, 0, none⟩) (by show w.heap.size ≤ w.heap.size + 1; omega) a).setCell (p := ⟨w.heap.size + 1, 1, none⟩) (by show w.heap.size ≤ w.heap.size + 1; omega) b⟩
end Go.Proofs.YtkgonoejnochjaaGreatDoor
namespace Go.Proofs.YtkgonoejnochjaaGreatDoor
open Go.ChangeShapes Go.WideShapes Go.ChangeAt Go.RowKit RM
section
variable {H : Type} {enc : TypeId × Value → H} {w w2 : World} {r : Reach} {b0 : Nat}
theorem rel_open {base fuel : Nat} {spare : Nat → Bool} {held : Bool} {cs : List Value} {x : DataW H × List MemPlace} (hf : DataW.trod enc Tryz.prog w base spare held fuel 49 cs = some x) : ∃ n l, cs = rvl n l ∧ RW l := by
 obtain ⟨xs, m, _, _, hsz, hlen, hat⟩ := DataW.trod_struct Tryz.underlying49 hf
 rw [show Tryz.prog.cellsOf 49 = 65 by kernel_rfl] at hsz
 have hlen2 : xs.length = 2 := hlen
 have h0 : DataW.trod enc Tryz.prog w base spare held m 3 (List.take (Tryz.prog.cellsOf 3) (List.drop 0 cs)) = xs[0]? := hat 0 _ rfl
 have h1 : DataW.trod enc Tryz.prog w base spare held m 47 (List.take (Tryz.prog.cellsOf 47) (List.drop 1 cs)) = xs[1]? := hat 1 _ rfl
 rw [List.getElem?_eq_getElem (by omega)] at h0 h1
 rw [show Tryz.prog.cellsOf 3 = 1 by kernel_rfl] at h0
 rw [show Tryz.prog.cellsOf 47 = 64 by kernel_rfl] at h1
 obtain ⟨n, e0, _, _⟩ := DataW.trod_int Tryz.underlying3 h0
 obtain ⟨ys, m2, _, _, _, hyl, hya⟩ := DataW.trod_array Tryz.underlying47 h1
 match cs, hsz with
 | c0 :: t, hsz =>
   have ht : t.length = 64 := by simpa using hsz
   have e0' : c0 = .int .i64 n := by simpa using e0
   subst e0'
   obtain ⟨k, hk, hb⟩ := words_of t fun v hv => by
    obtain ⟨i, hi, he⟩ := List.mem_iff_getElem.1 hv
    have h2 := hya i (by omega)
    rw [List.getElem?_eq_getElem (by omega), show Tryz.prog.cellsOf 32 = 1 by kernel_rfl] at h2
    obtain ⟨q, e1, _, hw⟩ := DataW.trod_int Tryz.underlying32 h2
    have e2 : (List.take 1 (List.drop (i * 1) (List.take 64 (List.drop 1 (Value.int IntKind.i64 n :: t))))) = [t[i]] := by
        simp only [List.drop_succ_cons, List.drop_zero, Nat.mul_one]
        rw [List.take_of_length_le (l := t) (by omega), List.drop_eq_getElem_cons hi]
        rfl
    have e3 : [t[i]] = [Value.int .u64 q] := e2.symm.trans e1
    rw [he] at e3
    have e4 : v = .int .u64 q := by simpa using e3
    have hbd := bounds_u64 hw
    obtain ⟨z, rfl⟩ := Int.eq_ofNat_of_zero_le (show 0 ≤ q by omega)
    exact ⟨z, e4, by omega⟩
   refine ⟨n, k, ?_, ?_, hb⟩
   ·rw [hk]; rfl
   ·have := congrArg List.length hk
    rw [List.length_map] at this
    omega
theorem names_open {fuel : Nat} {cs : List Value} {x : DataW H × List MemPlace} (hf : DataW.trod enc Tryz.prog w 0 (fun _ => true) true fuel 46 cs = some x) :
 ∃ A c, ∃ xs : List ByteArray, cs = [.slice A xs.length c] ∧ (A = none → c = 0) ∧ xs.length ≤ c ∧ c ≤ maxLen ∧ Strs w A xs := by
 rcases open_strings Tryz.underlying46 Tryz.underlying9 (by kernel_rfl) hf with ⟨hcs, hx⟩ | ⟨a, len', cap', zs, hcs, _, hl, hm, hz, hx, hcell, hwz⟩
 ·exact ⟨none, 0, [], hcs, fun _ => rfl, Nat.le_refl _, Nat.zero_le _, Sl.nil _ _ _⟩
 ·have hlz : len' ≤ zs.length := by rw [hz]; split <;> omega
  refine ⟨some a, cap', zs.take len', by rw [hcs, List.length_take, Nat.min_eq_left hlz], (fun h => by cases h), by rw [List.length_take]; omega, hm, fun hne => ?_⟩
  have hp : 0 < zs.length := by
   rcases Nat.eq_zero_or_pos zs.length with h | h
   ·rw [List.eq_nil_of_length_eq_zero h] at hne; simp [scells] at hne
   ·exact h
  obtain ⟨b, off, spot⟩ := a
  have hspot : spot = none := by simpa [Addr.add] using World.cell?_spot (hcell 0 hp)
  subst hspot
  have hcc : ∀ j, j < zs.length → w.cell? ⟨b, off + j, none⟩ = some (.string (zs.getD j ByteArray.empty)) := fun j hj => by rw [← Go.WideShapes.add_plain]; exact hcell j hj
  refine ⟨b, off, rfl, World.block_lt_of_cell? w ⟨b, off + 0, none⟩ (hcc 0 hp), fun jj u hu => ?_⟩
  unfold scells at hu
  rw [List.map_take, List.getElem?_take] at hu
  split at hu
  ·rename_i hjl
   rw [List.getElem?_map, List.getElem?_eq_getElem (show jj < zs.length by omega)] at hu
   have := hcc jj (by omega)
   rw [List.getD_eq_getElem?_getD, List.getElem?_eq_getElem (show jj < zs.length by omega)] at this
   rw [← hu]; exact this
  ·cases hu
theorem fac_open {fuel : Nat} {cs : List Value} {x : DataW H × List MemPlace} (hf : DataW.trod enc Tryz.prog w 0 (fun _ => true) true fuel 51 cs = some x) : ∃ f, cs = fcells f ∧ FacOk w f := by
 obtain ⟨xs, m, _, _, hsz, hlen, hat⟩ := DataW.trod_struct Tryz.underlying51 hf
 rw [show Tryz.prog.cellsOf 51 = 67 by kernel_rfl] at hsz
 have hlen3 : xs.length = 3 := hlen
 have h0 : DataW.trod enc Tryz.prog w 0 (fun _ => true) true m 3 (List.take (Tryz.prog.cellsOf 3) (List.drop 0 cs)) = xs[0]? := hat 0 _ rfl
 have h1 : DataW.trod enc Tryz.prog w 0 (fun _ => true) true m 46 (List.take (Tryz.prog.cellsOf 46) (List.drop 1 cs)) = xs[1]? := hat 1 _ rfl
 have h2 : DataW.trod enc Tryz.prog w 0 (fun _ => true) true m 49 (List.take (Tryz.prog.cellsOf 49) (List.drop 2 cs)) = xs[2]? := hat 2 _ rfl
 rw [List.getElem?_eq_getElem (by omega)] at h0 h1 h2
 rw [show Tryz.prog.cellsOf 3 = 1 by kernel_rfl] at h0
 rw [show Tryz.prog.cellsOf 46 = 1 by kernel_rfl] at h1
 rw [show Tryz.prog.cellsOf 49 = 65 by kernel_rfl] at h2
 obtain ⟨k, e0, _, _⟩ := DataW.trod_int Tryz.underlying3 h0
 obtain ⟨A, c, ns, e1, hnil, hcap, hmax, hst⟩ := names_open h1
 obtain ⟨n, l, e2, hl⟩ := rel_open h2
 match cs, hsz with
 | c0 :: c1 :: t, hsz =>
   have ht : t.length = 65 := by simpa using hsz
   have e0' : c0 = .int .i64 k := by simpa using e0
   have e1' : c1 = .slice A ns.length c := by simpa using e1
   have e2' : t = rvl n l := by
    rw [List.drop_succ_cons, List.drop_succ_cons, List.drop_zero, List.take_of_length_le (by omega)] at e2
    exact e2
   exact ⟨⟨k, A, c, ns, n, l⟩, by rw [e0', e1', e2']; rfl, hst, hl, hnil, hcap, hmax⟩
theorem list_of_fac {P : Nat → Fac → Prop} : ∀ n, (∀ i, i < n → ∃ f, P i f) → ∃ fs : List Fac, fs.length = n ∧ ∀ i, i < n → P i (fs.getD i f0)
 | 0, _ => ⟨[], rfl, fun i hi => by omega⟩
 | n + 1, h => by
   obtain ⟨xs, hl, hx⟩ := list_of_fac n fun i hi => h i (by omega)
   obtain ⟨f, hp⟩ := h n (by omega)
   refine ⟨xs ++ [f], by simp [hl], fun i hi2 => ?_⟩
   by_cases e : i = n
   ·subst e
    rw [List.getD_eq_getElem?_getD, List.getElem?_append_right (by omega), hl]
    simpa using hp
   ·rw [List.getD_eq_getElem?_getD, List.getElem?_append_left (by omega), ← List.getD_eq_getElem?_getD]
    exact hx i (by omega)
theorem facs_open {fuel : Nat} {cs : List Value} {x : DataW H × List MemPlace} (hf : DataW.trod enc Tryz.prog w 0 (fun _ => true) true fuel 22 cs = some x) :
 ∃ A c, ∃ fs : List Fac, cs = [.slice A fs.length c] ∧ (A = none → c = 0) ∧ fs.length ≤ c ∧ Facs w A fs := by
 rcases Go.Deep.open_slice Tryz.underlying22 hf with ⟨hcs, _⟩ | ⟨a, len', cap', m, k, D, Pl, hcs, _, hl, hm, hmm, _, hi⟩
 ·exact ⟨none, 0, [], hcs, fun _ => rfl, Nat.le_refl _, Facs.nil _ _⟩
 ·have hlm : len' ≤ m := by rw [hmm]; split <;> omega
  rw [show Tryz.prog.cellsOf 51 = 67 by kernel_rfl] at hi
  obtain ⟨fs, hfl, hfx⟩ := list_of_fac (P := fun i f => w.cells? 0 (a.add (i * 67)) 67 = some (fcells f) ∧ FacOk w f) len' fun i hi2 => by
   obtain ⟨cs', h1, h2⟩ := hi i (by omega)
   obtain ⟨f, rfl, hok⟩ := fac_open h2
   exact ⟨f, h1, hok⟩
  subst hfl
  have hok : ∀ f ∈ fs, FacOk w f := fun f hf => by
   obtain ⟨i, hi2, rfl⟩ := List.mem_iff_getElem.1 hf
   have := (hfx i hi2).2
   rw [List.getD_eq_getElem?_getD, List.getElem?_eq_getElem hi2] at this
   exact this
  refine ⟨some a, cap', fs, hcs, (fun h => by cases h), hl, fun hne => ?_, hok⟩
  have hrw : ∀ f ∈ fs, RW f.l := fun f hf => (hok f hf).rows
  have hp : 0 < fs.length := by
   rcases Nat.eq_zero_or_pos fs.length with h | h
   ·rw [List.eq_nil_of_length_eq_zero h] at hne; simp [fscells] at hne
   ·exact h
  have hcell : ∀ i j, i < fs.length → j < 67 → w.cell? ((a.add (i * 67)).add j) = (fcells (fs.getD i f0))[j]? := fun i j h1 h2 => by
   obtain ⟨_, _, hat⟩ := World.cells?_some (hfx i h1).1
   exact hat j h2
  have hl0 := fcells_length (fs.getD 0 f0) (hok _ (getD_memF hp)).rows
  obtain ⟨b, off, spot⟩ := a
  have h00 := hcell 0 0 hp (by omega)
  rw [List.getElem?_eq_getElem (by rw [hl0]; omega)] at h00
  have hspot : spot = none := by simpa [Addr.add] using World.cell?_spot h00
  subst hspot
  have hcc : ∀ i j, i < fs.length → j < 67 → w.cell? ⟨b, off + i * 67 + j, none⟩ = (fcells (fs.getD i f0))[j]? := fun i j h1 h2 => by
   rw [← hcell i j h1 h2, Go.WideShapes.add_plain, Go.WideShapes.add_plain]
  have h00' := hcc 0 0 hp (by omega)
  rw [List.getElem?_eq_getElem (by rw [hl0]; omega)] at h00'
  refine ⟨b, off, rfl, World.block_lt_of_cell? w ⟨b, off + 0 * 67 + 0, none⟩ h00', fun j u hu => ?_⟩
  have hj : j < fs.length * 67 := by
   have := (List.getElem?_eq_some_iff.1 hu).1
   rw [fscells_length fs hrw] at this
   exact this
  have h1 := fscells_at fs hrw (j / 67) (j % 67) (by omega) (Nat.mod_lt _ (by omega))
  rw [show j / 67 * 67 + j % 67 = j by omega] at h1
  have h2 := hcc (j / 67) (j % 67) (by omega) (Nat.mod_lt _ (by omega))
  rw [show off + j / 67 * 67 + j % 67 = off + j by omega] at h2
  rw [h2, ← h1]; exact hu
theorem open_shape {v : Value} {d : DataW H} {ps : List MemPlace} (hval : Value.okWide Tryz.prog w2 r b0 24 v) (hd : DataW.Trod enc Tryz.prog w 0 (fun _ => true) true 24 v d ps) :
 ∃ t A c, ∃ fs : List Fac, v = .agg (sv t A fs.length c) ∧ (A = none → c = 0) ∧ Facs w A fs := by
 obtain ⟨cs, rfl, hsz⟩ := okWide_struct Tryz.underlying24 hval
 rw [show Tryz.prog.cellsOf 24 = 2 by kernel_rfl] at hsz
 obtain ⟨l⟩ := cs
 replace hsz : l.length = 2 := hsz
 obtain ⟨fuel, hf⟩ := hd
 obtain ⟨xs, m, _, _, _, hlen, hat⟩ := DataW.trod_struct Tryz.underlying24 hf
 have hlen2 : xs.length = 2 := hlen
 have h0 : DataW.trod enc Tryz.prog w 0 (fun _ => true) true m 4 (List.take (Tryz.prog.cellsOf 4) (List.drop 0 l)) = xs[0]? := hat 0 _ rfl
 have h1 : DataW.trod enc Tryz.prog w 0 (fun _ => true) true m 22 (List.take (Tryz.prog.cellsOf 22) (List.drop 1 l)) = xs[1]? := hat 1 _ rfl
 rw [List.getElem?_eq_getElem (by omega)] at h0 h1
 rw [show Tryz.prog.cellsOf 4 = 1 by kernel_rfl] at h0
 rw [show Tryz.prog.cellsOf 22 = 1 by kernel_rfl] at h1
 obtain ⟨t, e0, _⟩ := DataW.trod_bool Tryz.underlying4 h0
 obtain ⟨A, c, fs, e1, hnil, _, hF⟩ := facs_open h1
 match l, hsz with
 | [u, v], _ =>
   simp at e0 e1
   subst e0 e1
   exact ⟨t, A, c, fs, rfl, hnil, hF⟩
end
end Go.Proofs.YtkgonoejnochjaaGreatDoor

