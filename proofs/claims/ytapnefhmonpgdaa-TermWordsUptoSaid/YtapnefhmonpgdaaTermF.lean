/-
  The program's reader: sets, names in braces. Conditions: lists of trees of at most 2^41.
-/
import Derived.Test.YtapnefhmonpgdaaTermE
namespace Go.Proofs.Ytapnefhmonpgdaa
open Go.RowKit LX TR TM

theorem Mv.fresh {b g : Nat} {w w' w2 : World} (h : Mv b w w') (hbw : b < w.heap.size) (h2 : Mv2 b g w' w2) (hg : w.heap.size ≤ g) : Mv b w w2 :=
  h.on h2.low fun k hk hne => h2.block k (Nat.lt_of_lt_of_le hk h.size) hne (by omega)
/-- A variable for names, and one for the reader. -/
def BoxW (s b r g : Nat) (w : World) (x : List Wd) : Prop :=
  (∃ A c, RowAt w g 25 #[.slice A x.length c] ∧ x.length ≤ c ∧ SlC w (fun k => s ≤ k ∧ k ≠ g) A (wcs x)) ∧ RowAt w r 62 #[.pointer (some ⟨b, 0, none⟩)]
theorem BoxW.keep {s b r g : Nat} {wa wb : World} {x : List Wd} (h : BoxW s b r g wa x) (hr : r ≠ b) (hg : g ≠ b) (hb : b < s) (hk : ∀ k, k < wa.heap.size → k ≠ b → wb.heap[k]? = wa.heap[k]?) : BoxW s b r g wb x := by
  obtain ⟨⟨A, c, h1, h2, h3⟩, h4⟩ := h
  refine ⟨⟨A, c, (hk g h1.lt hg).trans h1, h2, ?_⟩, (hk r h4.lt hr).trans h4⟩
  intro hne
  obtain ⟨b', o, hA, hlt, hok, hc⟩ := h3 hne
  have hs : wb.heap[b']? = wa.heap[b']? := hk b' hlt (by omega)
  refine ⟨b', o, hA, ?_, hok, fun j u hu => (World.cell?_of_block (a := ⟨b', o + j, none⟩) hs).trans (hc j u hu)⟩
  rw [Array.getElem?_eq_getElem hlt] at hs
  exact (Array.getElem?_eq_some_iff.1 hs).1

set_option maxRecDepth 100000 in
set_option maxHeartbeats 1600000 in
theorem names_in {x0 : List Wd} (N s b r g : Nat) (hb : b < s) (hr : s ≤ r) (hg : s ≤ g) (hrg : r ≠ g) : Content 64 #[.pointer (some ⟨r, 0, none⟩), .pointer (some ⟨g, 0, none⟩)] (BoxW s b r g) (someR nameR) b g N x0 := by
  intro w A c l e hv h hN
  obtain ⟨⟨A0, c0, hg0, _, _⟩, hr0⟩ := hv
  have r0 := (hr0.cell 0).trans rfl
  have HC := Lib.hid (listW_any (fun _ _ => by kernel_rfl) (name_any N) h (by simpa [rest] using hN) trivial)
  have hbw := h.lt
  have hgw := hg0.lt
  have HG0 := Lib.hid hg0
  have HR0 := Lib.hid hr0
  clear h hg0 hr0
  go_enter Try.func64, Try.ntmps64
  go_wp2_with fail
  refine HC.out.mono ?_
  rintro e' w1 ⟨v, x, i2, f2, rfl, ⟨X, d, rfl, hd, hsl⟩, hs, hm, hst⟩
  have HG1 := Lib.hid (HG0.out.mv hm (by omega))
  have HR1 := Lib.hid (HR0.out.mv hm (by omega))
  have g0 := (HG1.out.cell 0).trans rfl
  have u0 := HG1.out.free 0
  have HS1 := Lib.hid hs
  have HM1 := Lib.hid hm
  have HST := Lib.hid hst
  have HSL : Hid (SlC (w1.setCell ⟨g, 0, none⟩ (.slice X x.length d)) (fun k => s ≤ k ∧ k ≠ g) X (wcs x)) := hsl.keep (by simp [World.setCell]) (fun k _ hk => by
    simp only [World.setCell, Array.getElem?_modify]
    rw [if_neg (by omega)]) fun k _ hk => ⟨by omega, by omega⟩
  clear hs hm hst hsl
  go_wp2_with fail
  go_end0
  exact ⟨x, i2, f2, rfl, ⟨⟨X, d, HG1.out.put 0 _, hd, HSL.out⟩, HR1.out.far (p := ⟨g, 0, none⟩) (Ne.symm hrg) _⟩, HS1.out.far (by omega), HM1.out.low.setCell (p := ⟨g, 0, none⟩) (by show b ≤ g; omega) _,
    fun k hk h1 h2 => by
      rw [show (w1.setCell ⟨g, 0, none⟩ (.slice X x.length d)).heap[k]? = w1.heap[k]? by
        simp only [World.setCell, Array.getElem?_modify]
        rw [if_neg (Ne.symm h2)]]
      exact HM1.out.block k hk h1, HST.out⟩
set_option maxRecDepth 100000 in
set_option maxHeartbeats 1600000 in
theorem names_any {w : World} {b : Nat} {A : Option Addr} {c : Nat} {l : List Tr} {i e : Int} {f : Option Int} (h : Rs w b A c l i e f) :
    Calls Try.prog 32 #[.pointer (some ⟨b, 0, none⟩)] w fun e' w' => ∃ v x i2 f2, e' = .returned v ∧ WordsV w' w.heap.size x v ∧ Rs w' b A c l i2 e f2 ∧ Mv b w w' ∧ Step namesR l i e f x i2 f2 := by
  have hbw := h.lt
  have hmf : ∀ (fn : Fn) (first cap : Array Value) (w : World), (Instr.makeFunc fn first cap).run Try.prog w = .ok (.func fn first cap) w := fun _ _ _ _ => rfl
  have hbz : Below w.heap.size w ((w.alloc (.cells #[.pointer (some ⟨b, 0, none⟩)] 62)).alloc (.cells #[.slice none 0 0] 25)) := ((Below.refl _ _).alloc (Nat.le_refl _) _).alloc (by simp) _
  have HS0 := Lib.hid (h.below hbz)
  have HM0 := Lib.hid (Mv.below hbw hbz)
  have hr0 := RowAt.new w 62 #[.pointer (some ⟨b, 0, none⟩)]
  have hg0 := RowAt.new (w.alloc (.cells #[.pointer (some ⟨b, 0, none⟩)] 62)) 25 #[.slice none 0 0]
  rw [show (w.alloc (.cells #[.pointer (some ⟨b, 0, none⟩)] 62)).heap.size = w.heap.size + 1 by simp] at hg0
  have hr1 := hr0.alloc (.cells #[.slice none 0 0] 25)
  have HB0 : Hid (BoxW w.heap.size b w.heap.size (w.heap.size + 1) ((w.alloc (.cells #[.pointer (some ⟨b, 0, none⟩)] 62)).alloc (.cells #[.slice none 0 0] 25)) []) :=
    ⟨⟨none, 0, hg0, Nat.le_refl _, SlC.nil _ _ _⟩, hr1⟩
  have HW := Lib.hid (within_any (N := (nodes (rest l i)).length) 123 (by decide) (fun _ => by kernel_rfl) HS0.out (by omega) hg0.lt (by omega) (names_in _ w.heap.size b w.heap.size (w.heap.size + 1) hbw (Nat.le_refl _) (by omega) (by omega)) HB0.out
    (fun wa wb x hv hk => hv.keep (by omega) (by omega) hbw hk))
  have r0 := (hr1.cell 0).trans rfl
  clear h hbz hr0 hr1 hg0
  go_enter Try.func32, Try.ntmps32
  go_wp2_with fail
  refine HW.out.mono ?_
  rintro e' w1 ⟨x, i2, f2, rfl, ⟨⟨X, d, hg1, hd, hsl⟩, _⟩, hs, hm, hst⟩
  have HG1 := Lib.hid hg1
  have HS1 := Lib.hid hs
  have HM1 := Lib.hid (HM0.out.fresh hbw hm (by omega))
  have HST := Lib.hid hst
  have g0 := (hg1.cell 0).trans rfl
  have u0 := hg1.free 0
  have HSL : Hid (SlC (w1.setCell ⟨w.heap.size + 1, 0, none⟩ (.slice X x.length d)) (fun k => w.heap.size ≤ k) X (wcs x)) := hsl.keep (by simp [World.setCell]) (fun k _ hk => by
    simp only [World.setCell, Array.getElem?_modify]
    rw [if_neg (Ne.symm hk.2)]) fun k _ hk => hk.1
  clear hg1 hs hm hst hsl HW
  go_wp2_with fail
  have hgf := HG1.out.put 0 (.slice X x.length d)
  have gf := (hgf.cell 0).trans rfl
  exact bodyPost_ret (ret_one rfl _ _ (w.heap.size + 1) _ rfl gf Try.underlying25) rfl ⟨_, x, i2, f2, rfl, ⟨X, d, rfl, hd, HSL.out⟩, HS1.out.far (by omega), HM1.out.setCell (p := ⟨w.heap.size + 1, 0, none⟩) (.inr (by show w.heap.size ≤ w.heap.size + 1; omega)) hbw _, HST.out⟩

set_option maxRecDepth 100000 in
set_option maxHeartbeats 1600000 in
theorem set_in {x0 : List Wd} (N s b r g : Nat) (hb : b < s) (hr : s ≤ r) (hg : s ≤ g) (hrg : r ≠ g) : Content 107 #[.pointer (some ⟨r, 0, none⟩), .pointer (some ⟨g, 0, none⟩)] (BoxW s b r g) (optR nameR) b g N x0 := by
  intro w A c l e hv h hN
  obtain ⟨⟨A0, c0, hg0, _, _⟩, hr0⟩ := hv
  have r0 := (hr0.cell 0).trans rfl
  have HC := Lib.hid (optW_any (fun _ _ => by kernel_rfl) (name_any N) h (by simpa [rest] using hN) trivial)
  have hbw := h.lt
  have hgw := hg0.lt
  have HG0 := Lib.hid hg0
  have HR0 := Lib.hid hr0
  clear h hg0 hr0
  go_enter Try.func107, Try.ntmps107
  go_wp2_with fail
  refine HC.out.mono ?_
  rintro e' w1 ⟨v, x, i2, f2, rfl, ⟨X, d, rfl, hd, hsl⟩, hs, hm, hst⟩
  have HG1 := Lib.hid (HG0.out.mv hm (by omega))
  have HR1 := Lib.hid (HR0.out.mv hm (by omega))
  have g0 := (HG1.out.cell 0).trans rfl
  have u0 := HG1.out.free 0
  have HS1 := Lib.hid hs
  have HM1 := Lib.hid hm
  have HST := Lib.hid hst
  have HSL : Hid (SlC (w1.setCell ⟨g, 0, none⟩ (.slice X x.length d)) (fun k => s ≤ k ∧ k ≠ g) X (wcs x)) := hsl.keep (by simp [World.setCell]) (fun k _ hk => by
    simp only [World.setCell, Array.getElem?_modify]
    rw [if_neg (by omega)]) fun k _ hk => ⟨by omega, by omega⟩
  clear hs hm hst hsl
  go_wp2_with fail
  go_end0
  exact ⟨x, i2, f2, rfl, ⟨⟨X, d, HG1.out.put 0 _, hd, HSL.out⟩, HR1.out.far (p := ⟨g, 0, none⟩) (Ne.symm hrg) _⟩, HS1.out.far (by omega), HM1.out.low.setCell (p := ⟨g, 0, none⟩) (by show b ≤ g; omega) _,
    fun k hk h1 h2 => by
      rw [show (w1.setCell ⟨g, 0, none⟩ (.slice X x.length d)).heap[k]? = w1.heap[k]? by
        simp only [World.setCell, Array.getElem?_modify]
        rw [if_neg (Ne.symm h2)]]
      exact HM1.out.block k hk h1, HST.out⟩
set_option maxRecDepth 100000 in
set_option maxHeartbeats 1600000 in
theorem set_any {w : World} {b : Nat} {A : Option Addr} {c : Nat} {l : List Tr} {i e : Int} {f : Option Int} (h : Rs w b A c l i e f) :
    Calls Try.prog 85 #[.pointer (some ⟨b, 0, none⟩)] w fun e' w' => ∃ v x i2 f2, e' = .returned v ∧ WordsV w' w.heap.size x v ∧ Rs w' b A c l i2 e f2 ∧ Mv b w w' ∧ Step setR l i e f x i2 f2 := by
  have hbw := h.lt
  have hmf : ∀ (fn : Fn) (first cap : Array Value) (w : World), (Instr.makeFunc fn first cap).run Try.prog w = .ok (.func fn first cap) w := fun _ _ _ _ => rfl
  have hbz : Below w.heap.size w ((w.alloc (.cells #[.pointer (some ⟨b, 0, none⟩)] 62)).alloc (.cells #[.slice none 0 0] 25)) := ((Below.refl _ _).alloc (Nat.le_refl _) _).alloc (by simp) _
  have HS0 := Lib.hid (h.below hbz)
  have HM0 := Lib.hid (Mv.below hbw hbz)
  have hr0 := RowAt.new w 62 #[.pointer (some ⟨b, 0, none⟩)]
  have hg0 := RowAt.new (w.alloc (.cells #[.pointer (some ⟨b, 0, none⟩)] 62)) 25 #[.slice none 0 0]
  rw [show (w.alloc (.cells #[.pointer (some ⟨b, 0, none⟩)] 62)).heap.size = w.heap.size + 1 by simp] at hg0
  have hr1 := hr0.alloc (.cells #[.slice none 0 0] 25)
  have HB0 : Hid (BoxW w.heap.size b w.heap.size (w.heap.size + 1) ((w.alloc (.cells #[.pointer (some ⟨b, 0, none⟩)] 62)).alloc (.cells #[.slice none 0 0] 25)) []) :=
    ⟨⟨none, 0, hg0, Nat.le_refl _, SlC.nil _ _ _⟩, hr1⟩
  have HW := Lib.hid (within_any (N := (nodes (rest l i)).length) 123 (by decide) (fun _ => by kernel_rfl) HS0.out (by omega) hg0.lt (by omega) (set_in _ w.heap.size b w.heap.size (w.heap.size + 1) hbw (Nat.le_refl _) (by omega) (by omega)) HB0.out
    (fun wa wb x hv hk => hv.keep (by omega) (by omega) hbw hk))
  have r0 := (hr1.cell 0).trans rfl
  clear h hbz hr0 hr1 hg0
  go_enter Try.func85, Try.ntmps85
  go_wp2_with fail
  refine HW.out.mono ?_
  rintro e' w1 ⟨x, i2, f2, rfl, ⟨⟨X, d, hg1, hd, hsl⟩, _⟩, hs, hm, hst⟩
  have HG1 := Lib.hid hg1
  have HS1 := Lib.hid hs
  have HM1 := Lib.hid (HM0.out.fresh hbw hm (by omega))
  have HST := Lib.hid hst
  have g0 := (hg1.cell 0).trans rfl
  have u0 := hg1.free 0
  have HSL : Hid (SlC (w1.setCell ⟨w.heap.size + 1, 0, none⟩ (.slice X x.length d)) (fun k => w.heap.size ≤ k) X (wcs x)) := hsl.keep (by simp [World.setCell]) (fun k _ hk => by
    simp only [World.setCell, Array.getElem?_modify]
    rw [if_neg (Ne.symm hk.2)]) fun k _ hk => hk.1
  clear hg1 hs hm hst hsl HW
  go_wp2_with fail
  have hgf := HG1.out.put 0 (.slice X x.length d)
  have gf := (hgf.cell 0).trans rfl
  exact bodyPost_ret (ret_one rfl _ _ (w.heap.size + 1) _ rfl gf Try.underlying25) rfl ⟨_, x, i2, f2, rfl, ⟨X, d, rfl, hd, HSL.out⟩, HS1.out.far (by omega), HM1.out.setCell (p := ⟨w.heap.size + 1, 0, none⟩) (.inr (by show w.heap.size ≤ w.heap.size + 1; omega)) hbw _, HST.out⟩
end Go.Proofs.Ytapnefhmonpgdaa
