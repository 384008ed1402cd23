/-
  What Sort returns, as the program sorts. Conditions: lists below 2^32 strings.
-/
import Derived.Test.YtjmhnbokojkceaaNameD
import Derived.Test.YtjmhnbokojkceaaNameSort
import Derived.Test.YtjmhnbokojkceaaShelf
import Derived.OwnWalk
import Derived.Laws.CopyOwn
namespace Go.Proofs.Ytjmhnbokojkceaa
open Go.RowKit
open Go.Sort hiding Below ahead

theorem infoStr : (Try.prog.info? 9).map (fun i => (i.zero, i.size, i.bytes)) = some (some (.string ByteArray.empty), 1, 16) := by kernel_rfl
theorem sizeStr : (Try.prog.info? 9).map (·.size) = some 1 := by kernel_rfl
theorem holds_new {w : World} {g : Nat} {xs : List ByteArray} (h : w.heap[g]? = some (.cells (scells xs).toArray 9 (0, 0))) : Holds encStr w g 0 (xs.map NM.bl).toArray := by
  intro j hj
  have hj2 : j < xs.length := by simpa using hj
  rw [Nat.zero_add]
  refine ⟨?_, ?_⟩
  · rw [cell_of_row w g j _ 9 (0, 0) h]
    have e1 : (scells xs).toArray[j]? = some (.string xs[j]) := by
      unfold scells
      simp [hj2]
    have e2 : (xs.map NM.bl).toArray[j]! = NM.bl xs[j] := by simp [hj2]
    rw [e1, e2]
    rfl
  · simp [World.frozen?, h]
theorem below_putRow {w : World} {B g off : Nat} (hB : B ≤ g) (d : Array (List UInt8)) : Below B w (putRow encStr w g off d) := by
  refine ⟨rfl, rfl, rfl, by simp, fun k hk => ?_⟩
  unfold putRow mapBlock
  simp only [Array.getElem?_modify, if_neg (show g ≠ k by omega)]
theorem below_grow {w : World} {B : Nat} (hB : B ≤ w.heap.size) (os : Array Obj) : Below B w (grow w os) :=
  ⟨rfl, rfl, rfl, by simp [grow], fun k hk => by unfold grow; rw [Array.getElem?_append_left (by omega)]⟩
theorem below_ahead {w : World} {B : Nat} (n : Nat) : Below B w (Go.Sort.ahead w n) := ⟨rfl, rfl, rfl, Nat.le_refl _, fun _ _ => rfl⟩

/-- Sort's two library calls, at a row that reads as xs. -/
theorem sort_row (g : Nat) (xs : List ByteArray) (w : World) (hl : xs.length ≤ 4294967296) (h : w.heap[g]? = some (.cells (scells xs).toArray 9 (0, 0))) :
    Calls Try.prog 31 #[.slice (some ⟨g, 0, none⟩) xs.length xs.length] w fun e w' => e = .returned (.tuple #[]) ∧ Below g w w' ∧
      Calls Try.prog 32 #[.slice (some ⟨g, 0, none⟩) xs.length xs.length] w' fun e w'' => e = .returned (.slice (some ⟨g, 0, none⟩) (NM.srt xs).length xs.length) ∧ Below g w' w'' ∧ Strs w'' (some ⟨g, 0, none⟩) (NM.srt xs) := by
  have hH := holds_new h
  have hg : g < w.heap.size := (Array.getElem?_eq_some_iff.1 h).1
  have hlen : xs.length = (xs.map NM.bl).length := by simp
  have h1 := Try.slices_Sort_string g 0 xs.length (xs.map NM.bl) w hH hg (by rw [← hlen]; omega)
  rw [← hlen] at h1
  refine h1.mono ?_
  rintro e w' ⟨rfl, n, os, rfl⟩
  have hm : ((xs.map NM.bl).mergeSort fun x y => decide (x ≤ y)).length = xs.length := by rw [List.length_mergeSort, ← hlen]
  have hH2 : Holds encStr (putRow encStr (Go.Sort.ahead w n) g 0 ((xs.map NM.bl).mergeSort fun x y => decide (x ≤ y)).toArray) g 0 ((xs.map NM.bl).mergeSort fun x y => decide (x ≤ y)).toArray :=
    holds_putRow encStr (Go.Sort.ahead w n) g 0 (xs.map NM.bl).toArray _ (holds_ahead _ _ _ _ _ _ hH) (by simp)
  have hg2 : g < (putRow encStr (Go.Sort.ahead w n) g 0 ((xs.map NM.bl).mergeSort fun x y => decide (x ≤ y)).toArray).heap.size := by simpa using hg
  have hH3 := holds_grow encStr (putRow encStr (Go.Sort.ahead w n) g 0 ((xs.map NM.bl).mergeSort fun x y => decide (x ≤ y)).toArray) os g 0 _ hg2 hH2
  refine ⟨rfl, ((below_ahead n).trans (below_putRow (Nat.le_refl _) _)).trans (below_grow (by simpa using Nat.le_of_lt hg) _), ?_⟩
  have h2 := Try.slices_Compact_string g 0 xs.length ((xs.map NM.bl).mergeSort fun x y => decide (x ≤ y)) _ hH3 (by rw [hm]; omega) (by rw [hm]; exact Nat.le_refl _)
  rw [hm] at h2
  refine h2.mono ?_
  rintro e w'' ⟨rfl, q, rfl⟩
  have hsrt : Lib.compact ((xs.map NM.bl).mergeSort fun x y => decide (x ≤ y)) = (NM.srt xs).map NM.bl := by
    unfold NM.srt
    rw [List.map_map]
    show NM.srtL _ = _
    exact (List.map_id _).symm
  have hslen : (Lib.compact ((xs.map NM.bl).mergeSort fun x y => decide (x ≤ y))).length = (NM.srt xs).length := by rw [hsrt, List.length_map]
  have hle := NM.srt_len xs
  refine ⟨by rw [hslen], (below_ahead q).trans (below_putRow (Nat.le_refl _) _), ?_⟩
  intro _
  refine ⟨g, 0, rfl, by simpa using Nat.lt_of_lt_of_le hg2 (by simp), ?_⟩
  intro j u hu
  have hj : j < (NM.srt xs).length := by
    have := (List.getElem?_eq_some_iff.1 hu).1
    unfold scells at this
    simpa using this
  rw [cell?_putRow encStr _ g 0 _ _ (holds_ahead _ _ _ _ _ _ hH3) (by simp [hm, hslen]; omega) j (by simp [hslen]; omega)]
  rw [← hu, hsrt]
  unfold scells
  have e1 : (((NM.srt xs).map NM.bl ++ List.replicate (xs.length - ((NM.srt xs).map NM.bl).length) []).toArray)[j]! = NM.bl (NM.srt xs)[j] := by
    simp [hj, List.getElem?_append]
  rw [e1, List.getElem?_map, List.getElem?_eq_getElem hj]
  rfl

/-- The block of a row of the call's own that is not nil. -/
theorem own_block {w : World} {base g n c : Nat} {e : TypeId} {cs : List Value} (h : w.ownsRow base e 1 (.slice (some ⟨g, 0, none⟩) n c) n cs) :
    ∃ cur : List Value, w.heap[g]? = some (.cells cur.toArray e (0, 0)) ∧ n ≤ cur.length ∧ cur.length = c ∧ base ≤ g := by
  rcases h.2 with ⟨hv, _⟩ | ⟨g', cap, cur, hv, hb, hh, h1, _, h3, _⟩
  · cases hv
  · injection hv with e1 e2 e3
    injection e1 with e1
    injection e1 with e1
    subst e1 e3
    exact ⟨cur.toList, hh, by simpa [h3] using h1, by simpa using h3, hb⟩
theorem scells_length (xs : List ByteArray) : (scells xs).length = xs.length := by simp [scells]
theorem scells_one (xs : List ByteArray) : ∀ v ∈ scells xs, v.oneCell' = true := by
  intro v hv
  unfold scells at hv
  rw [List.mem_map] at hv
  obtain ⟨x, _, rfl⟩ := hv
  simp [Value.oneCell']
theorem copy_src {w : World} {A : Option Addr} {xs : List ByteArray} (h : Strs w A xs) (h0 : 0 < (scells xs).length) :
    ∃ ad, A = some ad ∧ ∀ j v, (scells xs)[j]? = some v → w.cell? (ad.add j) = some v := by
  obtain ⟨b, o, rfl, _, hc⟩ := h (by intro e; rw [e] at h0; simp at h0)
  have hadd : ∀ j, (⟨b, o, none⟩ : Addr).add j = ⟨b, o + j, none⟩ := fun j => by unfold Addr.add; split <;> simp_all
  exact ⟨_, rfl, fun j v hv => by rw [hadd]; exact hc j v hv⟩
theorem splice_all {cur cs : List Value} (h : cs.length = cur.length) : splice cur 0 cs = cs := by
  unfold splice
  rw [List.take_zero, List.nil_append, Nat.zero_add, h, List.drop_length, List.append_nil]
set_option maxHeartbeats 400000 in
theorem sort_any (A : Option Addr) (c : Nat) (xs : List ByteArray) (w : World) (hl : xs.length ≤ 4294967296) (hA : Strs w A xs) :
    Calls Try.prog 19 #[.slice A xs.length c] w fun e w' => ∃ A' c', e = .returned (.slice A' (NM.srt xs).length c') ∧ Strs w' A' (NM.srt xs) ∧ Below w.heap.size w w' := by
  obtain ⟨i0, hi, hz0, hz1, hz2⟩ := info_parts infoStr
  have hbytes : i0.bytes * xs.length ≤ 281474976710656 := by
    rw [hz2]; omega
  have HBY := Lib.hid hbytes
  have HI := Lib.hid hi; have HZ0 := Lib.hid hz0; have HZ1 := Lib.hid hz1
  clear hi hz0 hz1 hz2 hbytes
  have HA := Lib.hid hA; clear hA
  have HR := Lib.hid (fun g W h => sort_row g xs W hl h)
  generalize hn : xs.length = n at *
  have HN := Lib.hid hn; clear hn
  go_enter Try.func19, Try.ntmps19
  go_wp2_with (first
    | (at_make; refine wpList_make_full _ rfl (.tmp 5) (.tmp 5) 23 rfl w.heap.size 9 i0 _ 1 Try.underlying23 HI.out HZ0.out HZ1.out .i64 .i64 _ _ n rfl rfl rfl rfl HBY.out (by unfold maxLen; omega) (Nat.le_refl _) ?_; intro w1 hown hgr; obtain ⟨cur, hO, _, hcl, _⟩ := own_block hown; have HO := Lib.hid hO; have HCL := Lib.hid hcl; have HGR := Lib.hid ((Below.refl w.heap.size w).grown hgr (Nat.le_refl _) (fun j hj => by cases hj)); clear hown hgr hO hcl)
    | (with_reducible refine wpList_copy_splice rfl (.tmp 7) (.tmp 8) 23 23 rfl 9 Try.underlying23 sizeStr (some ⟨w.heap.size, 0, none⟩) A n n n c rfl rfl w.heap.size 0 cur 9 HO.out (scells xs) (by rw [scells_length, HN.out]; exact (Nat.min_self n).symm) (fun _ => ⟨rfl, copy_src (HA.out.below HGR.out) (by assumption)⟩) (by rw [scells_length, HN.out, HCL.out]; omega) (scells_one xs) w.heap.size w HGR.out (Nat.le_refl _) ?_; intro w2 HG2 hb2; have HB2 := Lib.hid hb2; clear hb2))
  have hrow : w2.heap[w.heap.size]? = some (.cells (scells xs).toArray 9 (0, 0)) := by
    rw [HG2.out, splice_all (by rw [scells_length, HN.out, HCL.out])]
  have HC := Lib.hid (HR.out w.heap.size w2 hrow)
  clear hrow
  go_wp2_with fail
  refine HC.out.mono ?_
  rintro e w3 ⟨rfl, hb3, hc3⟩
  have HB3 := Lib.hid (HB2.out.trans hb3)
  have HC3 := Lib.hid hc3
  clear hb3 hc3
  go_wp2_with fail
  refine HC3.out.mono ?_
  rintro e w4 ⟨rfl, hb4, hs4⟩
  have HB4 := Lib.hid (HB3.out.trans hb4)
  have HS4 := Lib.hid hs4
  clear hb4 hs4
  go_wp2
  go_ret
  exact ⟨_, _, rfl, HS4.out, HB4.out⟩
end Go.Proofs.Ytjmhnbokojkceaa
