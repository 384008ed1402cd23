/-
  The program's reader: names, variables; what a reader's function does, said once. Conditions: lists of trees of at most 2^41.
-/
import Derived.Test.YtapnefhmonpgdaaTermA
namespace Go.Proofs.Ytapnefhmonpgdaa
open Go.RowKit LX TR TM

/-- What a function of the reader does: it reads one thing. -/
def Reads {α : Type} (F : FuncId) (V : World → Nat → α → Value → Prop) (rd : Rdr α) (N : Nat) : Prop :=
  ∀ (w : World) (b : Nat) (A : Option Addr) (c : Nat) (l : List Tr) (i e : Int) (f : Option Int), Rs w b A c l i e f → (nodes (rest l i)).length ≤ N →
    Calls Try.prog F #[.pointer (some ⟨b, 0, none⟩)] w fun e' w' => ∃ v x i2 f2, e' = .returned v ∧ V w' w.heap.size x v ∧ Rs w' b A c l i2 e f2 ∧ Mv b w w' ∧ Step rd l i e f x i2 f2
def wcells (x : Wd) : List Value := [.string x.s, .int .i64 x.p]
def wv (x : Wd) : Array Value := #[.string x.s, .int .i64 x.p]
theorem wcells_length (x : Wd) : (wcells x).length = 2 := rfl
def wcs (l : List Wd) : List Value := l.flatMap wcells
theorem wcs_append (a b : List Wd) : wcs (a ++ b) = wcs a ++ wcs b := by simp [wcs]
theorem wcs_one (x : Wd) : wcs [x] = wcells x := by simp [wcs]
theorem wcs_length (l : List Wd) : (wcs l).length = l.length * 2 := fm_length wcells_length l
def WordV (_w : World) (_s : Nat) (x : Wd) (v : Value) : Prop := v = .agg (wv x)
theorem name_step {l : List Tr} {i e : Int} {f : Option Int} {t : Tk} {i2 : Int} {f2 : Option Int} (h : Step (takeR 97) l i e f t i2 f2) : Step nameR l i e f ⟨t.s, t.p⟩ i2 f2 := by
  have h2 := h.map (fun t : Tk => (⟨t.s, t.p⟩ : Wd))
  exact h2

set_option maxRecDepth 100000 in
set_option maxHeartbeats 800000 in
theorem name_any (N : Nat) : Reads 66 WordV nameR N := by
  intro w b A c l i e f h _
  have hbw := h.lt
  have HM0 : Hid (Mv b w (w.alloc (.cells #[.string ⟨#[]⟩, .int .i64 0] 69))) := (Mv.refl b w).alloc hbw _
  have HG := Lib.hid (RowAt.new w 69 #[.string ⟨#[]⟩, .int .i64 0])
  have HT := Lib.hid (take_any (h.mv HM0.out (h.at_.alloc _)) 97 (by decide))
  clear h
  go_enter Try.func66, Try.ntmps66
  go_wp2_with fail
  refine HT.out.mono ?_
  rintro e' w1 ⟨⟨k, s, p⟩, i2, f2, rfl, hs, hm, hst⟩
  have HG1 := HG.out.mv hm (Nat.ne_of_gt hbw)
  have hsz := HG1.lt
  have HS1 := Lib.hid hs
  have HM1 := Lib.hid (HM0.out.trans hm)
  have hn5 := RowAt.new w1 55 #[.int .u8 (k : Int), .string s, .int .i64 p]
  have HST := Lib.hid (name_step hst)
  obtain ⟨g0, g1, u0, u1⟩ := row2 HG1
  obtain ⟨m0, m1, m2, _, _, _⟩ := row3 hn5
  have HG2 := Lib.hid HG1
  clear hs hm hst HG1 hn5
  unfold tv
  go_wp2_with fail
  have hgf := ((HG2.out.put 0 (.string s)).put 1 (.int .i64 p)).alloc (.cells #[.int .u8 (k : Int), .string s, .int .i64 p] 55)
  exact bodyPost_ret (ret_cell rfl _ _ w.heap.size _ _ (0, 0) _ rfl hgf Try.underlying69 rfl (word_info _ _)) rfl ⟨.agg (wv ⟨s, p⟩), ⟨s, p⟩, i2, f2, rfl, rfl, ((HS1.out.far hbw).far hbw).alloc _,
      ((HM1.out.setCell (p := ⟨w.heap.size, 0, none⟩) (.inr (Nat.le_refl _)) hbw _).setCell (p := ⟨w.heap.size, 1, none⟩) (.inr (Nat.le_refl _)) hbw _).alloc hbw _, HST.out⟩
end Go.Proofs.Ytapnefhmonpgdaa
