/-
  The program's reader: constants. Conditions: at most 2^32 trees.
-/
import Derived.Test.YtapnefhmonpgdaaTermG
namespace Go.Proofs.Ytapnefhmonpgdaa
open Go.RowKit LX TR TM

/-- A variable for a node whose kids are read, and one for the reader. -/
def BoxN (b r g : Nat) (k p : Int) (s0 : ByteArray) (w : World) (x : List Nd) : Prop :=
  (∃ A c zs, TM.er zs = x ∧ zs.length ≤ c ∧ RowAt w g 32 #[.int .i64 k, .int .i64 p, .string s0, .slice none 0 0, .slice A zs.length c] ∧ SlC w (fun k => g < k) A (ncs zs) ∧ DeepN w (fun k => g < k) zs) ∧ RowAt w r 62 #[.pointer (some ⟨b, 0, none⟩)]
theorem size_of_block {wa wb : World} {k : Nat} (hk : k < wa.heap.size) (h : wb.heap[k]? = wa.heap[k]?) : k < wb.heap.size := by
  rw [Array.getElem?_eq_getElem hk] at h
  exact (Array.getElem?_eq_some_iff.1 h).1
theorem SlC.keep9 {wa wb : World} {ok : Nat → Prop} {A : Option Addr} {cs : List Value} (h : SlC wa ok A cs) (hk : ∀ k, k < wa.heap.size → ok k → wb.heap[k]? = wa.heap[k]?) : SlC wb ok A cs := fun hne => by
  obtain ⟨b', o, hA, hlt, hok, hc⟩ := h hne
  have hs := hk b' hlt hok
  exact ⟨b', o, hA, size_of_block hlt hs, hok, fun j u hu => (World.cell?_of_block (a := ⟨b', o + j, none⟩) hs).trans (hc j u hu)⟩
theorem DeepN.keep9 {wa wb : World} {ok : Nat → Prop} {l : List Nd} (h : DeepN wa ok l) (hk : ∀ k, k < wa.heap.size → ok k → wb.heap[k]? = wa.heap[k]?) : DeepN wb ok l := fun x hx =>
  ⟨⟨(h x hx).1.1.keep9 hk, (h x hx).1.2⟩, (h x hx).2.1.keep9 hk, (h x hx).2.2⟩
theorem BoxN.keep {b r g : Nat} {k p : Int} {s0 : ByteArray} {wa wb : World} {x : List Nd} (h : BoxN b r g k p s0 wa x) (hr : r ≠ b) (hb : b < g) (hk : ∀ k, k < wa.heap.size → k ≠ b → wb.heap[k]? = wa.heap[k]?) : BoxN b r g k p s0 wb x := by
  obtain ⟨⟨A, c, zs, h0, h1, h2, h3, h5⟩, h4⟩ := h
  exact ⟨⟨A, c, zs, h0, h1, (hk g h2.lt (by omega)).trans h2, h3.keep9 fun k hlt hok => hk k hlt (by omega), h5.keep9 fun k hlt hok => hk k hlt (by omega)⟩, (hk r h4.lt hr).trans h4⟩

set_option maxRecDepth 100000 in
set_option maxHeartbeats 1600000 in
theorem const1_in {x0 : List Nd} {rd : Rdr Nd} (N b r g : Nat) (k p : Int) (s0 : ByteArray) (hb : b < g) (hr : r ≠ b) (hrg : r ≠ g) (hN : N ≤ 4294967296) (HF : Reads 59 NodeV rd N) : Content 86 #[.pointer (some ⟨r, 0, none⟩), .pointer (some ⟨g, 0, none⟩)] (BoxN b r g k p s0) (someR rd) b g N x0 := by
  intro w A c l e hv h hNl
  obtain ⟨⟨A0, c0, zs0, _, _, hg0, _, _⟩, hr0⟩ := hv
  have r0 := (hr0.cell 0).trans rfl
  have hll := length_nodes l
  have HC := Lib.hid (listN_any (fun _ _ => by kernel_rfl) HF h (by simpa [rest] using hNl) (by omega))
  have hbw := h.lt
  have hgw := hg0.lt
  have HG0 := Lib.hid hg0
  have HR0 := Lib.hid hr0
  clear h hg0 hr0
  go_enter Try.func86, Try.ntmps86
  go_wp2_with fail
  refine HC.out.mono ?_
  rintro e' w1 ⟨v, x, i2, f2, rfl, ⟨X, d, zs, rfl, hd, rfl, hsl, hdp⟩, hs, hm, hst⟩
  have HG1 := Lib.hid (HG0.out.mv hm (by omega))
  have HR1 := Lib.hid (HR0.out.mv hm (by omega))
  have g4 := (HG1.out.cell 4).trans rfl
  have u4 := HG1.out.free 4
  have HS1 := Lib.hid hs
  have HM1 := Lib.hid hm
  have HST := Lib.hid hst
  have hoth : ∀ k, k ≠ g → (w1.setCell ⟨g, 4, none⟩ (.slice X zs.length d)).heap[k]? = w1.heap[k]? := fun k hk => by
    simp only [World.setCell, Array.getElem?_modify]
    rw [if_neg (Ne.symm hk)]
  have HSL : Hid (SlC (w1.setCell ⟨g, 4, none⟩ (.slice X zs.length d)) (fun k => g < k) X (ncs zs)) := hsl.keep (by simp [World.setCell]) (fun k _ hk => hoth k (by omega)) fun k _ hk => by omega
  have HDP : Hid (DeepN (w1.setCell ⟨g, 4, none⟩ (.slice X zs.length d)) (fun k => g < k) zs) := hdp.keep (by simp [World.setCell]) (fun k _ hk => hoth k (by omega)) fun k _ hk => by omega
  have HOT := Lib.hid hoth
  clear hs hm hst hsl hdp hoth
  go_wp2_with fail
  go_end0
  exact ⟨TM.er zs, i2, f2, rfl, ⟨⟨X, d, zs, rfl, hd, HG1.out.put 4 _, HSL.out, HDP.out⟩, HR1.out.far (p := ⟨g, 4, none⟩) (Ne.symm hrg) _⟩, HS1.out.far (by omega), HM1.out.low.setCell (p := ⟨g, 4, none⟩) (by show b ≤ g; omega) _,
    fun k hk h1 h2 => (HOT.out k h2).trans (HM1.out.block k hk h1), HST.out⟩

set_option maxRecDepth 100000 in
set_option maxHeartbeats 1600000 in
theorem const2_in {x0 : List Nd} {rd : Rdr Nd} (N b r g : Nat) (k p : Int) (s0 : ByteArray) (hb : b < g) (hr : r ≠ b) (hrg : r ≠ g) (hN : N ≤ 4294967296) (HF : Reads 90 NodeV rd N) : Content 88 #[.pointer (some ⟨r, 0, none⟩), .pointer (some ⟨g, 0, none⟩)] (BoxN b r g k p s0) (optR rd) b g N x0 := by
  intro w A c l e hv h hNl
  obtain ⟨⟨A0, c0, zs0, _, _, hg0, _, _⟩, hr0⟩ := hv
  have r0 := (hr0.cell 0).trans rfl
  have hll := length_nodes l
  have HC := Lib.hid (optN_any (fun _ _ => by kernel_rfl) HF h (by simpa [rest] using hNl) (by omega))
  have hbw := h.lt
  have hgw := hg0.lt
  have HG0 := Lib.hid hg0
  have HR0 := Lib.hid hr0
  clear h hg0 hr0
  go_enter Try.func88, Try.ntmps88
  go_wp2_with fail
  refine HC.out.mono ?_
  rintro e' w1 ⟨v, x, i2, f2, rfl, ⟨X, d, zs, rfl, hd, rfl, hsl, hdp⟩, hs, hm, hst⟩
  have HG1 := Lib.hid (HG0.out.mv hm (by omega))
  have HR1 := Lib.hid (HR0.out.mv hm (by omega))
  have g4 := (HG1.out.cell 4).trans rfl
  have u4 := HG1.out.free 4
  have HS1 := Lib.hid hs
  have HM1 := Lib.hid hm
  have HST := Lib.hid hst
  have hoth : ∀ k, k ≠ g → (w1.setCell ⟨g, 4, none⟩ (.slice X zs.length d)).heap[k]? = w1.heap[k]? := fun k hk => by
    simp only [World.setCell, Array.getElem?_modify]
    rw [if_neg (Ne.symm hk)]
  have HSL : Hid (SlC (w1.setCell ⟨g, 4, none⟩ (.slice X zs.length d)) (fun k => g < k) X (ncs zs)) := hsl.keep (by simp [World.setCell]) (fun k _ hk => hoth k (by omega)) fun k _ hk => by omega
  have HDP : Hid (DeepN (w1.setCell ⟨g, 4, none⟩ (.slice X zs.length d)) (fun k => g < k) zs) := hdp.keep (by simp [World.setCell]) (fun k _ hk => hoth k (by omega)) fun k _ hk => by omega
  have HOT := Lib.hid hoth
  clear hs hm hst hsl hdp hoth
  go_wp2_with fail
  go_end0
  exact ⟨TM.er zs, i2, f2, rfl, ⟨⟨X, d, zs, rfl, hd, HG1.out.put 4 _, HSL.out, HDP.out⟩, HR1.out.far (p := ⟨g, 4, none⟩) (Ne.symm hrg) _⟩, HS1.out.far (by omega), HM1.out.low.setCell (p := ⟨g, 4, none⟩) (by show b ≤ g; omega) _,
    fun k hk h1 h2 => (HOT.out k h2).trans (HM1.out.block k hk h1), HST.out⟩

set_option maxRecDepth 100000 in
set_option maxHeartbeats 1600000 in
theorem bound1_in {x0 : List Nd} {rd : Rdr Nd} (N b r g : Nat) (k p : Int) (s0 : ByteArray) (hb : b < g) (hr : r ≠ b) (hrg : r ≠ g) (hN : N ≤ 4294967296) (HF : Reads 60 NodeV rd N) : Content 109 #[.pointer (some ⟨r, 0, none⟩), .pointer (some ⟨g, 0, none⟩)] (BoxN b r g k p s0) (someR rd) b g N x0 := by
  intro w A c l e hv h hNl
  obtain ⟨⟨A0, c0, zs0, _, _, hg0, _, _⟩, hr0⟩ := hv
  have r0 := (hr0.cell 0).trans rfl
  have hll := length_nodes l
  have HC := Lib.hid (listN_any (fun _ _ => by kernel_rfl) HF h (by simpa [rest] using hNl) (by omega))
  have hbw := h.lt
  have hgw := hg0.lt
  have HG0 := Lib.hid hg0
  have HR0 := Lib.hid hr0
  clear h hg0 hr0
  go_enter Try.func109, Try.ntmps109
  go_wp2_with fail
  refine HC.out.mono ?_
  rintro e' w1 ⟨v, x, i2, f2, rfl, ⟨X, d, zs, rfl, hd, rfl, hsl, hdp⟩, hs, hm, hst⟩
  have HG1 := Lib.hid (HG0.out.mv hm (by omega))
  have HR1 := Lib.hid (HR0.out.mv hm (by omega))
  have g4 := (HG1.out.cell 4).trans rfl
  have u4 := HG1.out.free 4
  have HS1 := Lib.hid hs
  have HM1 := Lib.hid hm
  have HST := Lib.hid hst
  have hoth : ∀ k, k ≠ g → (w1.setCell ⟨g, 4, none⟩ (.slice X zs.length d)).heap[k]? = w1.heap[k]? := fun k hk => by
    simp only [World.setCell, Array.getElem?_modify]
    rw [if_neg (Ne.symm hk)]
  have HSL : Hid (SlC (w1.setCell ⟨g, 4, none⟩ (.slice X zs.length d)) (fun k => g < k) X (ncs zs)) := hsl.keep (by simp [World.setCell]) (fun k _ hk => hoth k (by omega)) fun k _ hk => by omega
  have HDP : Hid (DeepN (w1.setCell ⟨g, 4, none⟩ (.slice X zs.length d)) (fun k => g < k) zs) := hdp.keep (by simp [World.setCell]) (fun k _ hk => hoth k (by omega)) fun k _ hk => by omega
  have HOT := Lib.hid hoth
  clear hs hm hst hsl hdp hoth
  go_wp2_with fail
  go_end0
  exact ⟨TM.er zs, i2, f2, rfl, ⟨⟨X, d, zs, rfl, hd, HG1.out.put 4 _, HSL.out, HDP.out⟩, HR1.out.far (p := ⟨g, 4, none⟩) (Ne.symm hrg) _⟩, HS1.out.far (by omega), HM1.out.low.setCell (p := ⟨g, 4, none⟩) (by show b ≤ g; omega) _,
    fun k hk h1 h2 => (HOT.out k h2).trans (HM1.out.block k hk h1), HST.out⟩
end Go.Proofs.Ytapnefhmonpgdaa
