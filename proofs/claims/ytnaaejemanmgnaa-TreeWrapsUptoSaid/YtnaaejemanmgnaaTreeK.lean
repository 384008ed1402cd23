/-
  What Flat and Depth of package tree return. Conditions: fewer than 2^29 trees.
-/
import Derived.Test.YtnaaejemanmgnaaTreeJ
namespace Go.Proofs.Ytnaaejemanmgnaa
open Go.RowKit LX TR

/-- What stands behind some tokens: a variable in block gf holds the list so far. -/
def InvF (gf : Nat) (acc : List (Tk × Int)) (V : Nat → Prop) (W : World) : Prop :=
  ∃ X d, Box W gf 22 (.slice X (acc.map (·.1)).length d) ∧ W.ownsRow (gf + 1) 36 3 (.slice X (acc.map (·.1)).length d) (acc.map (·.1)).length (tkcells (acc.map (·.1))) ∧ ∀ b, V b ↔ b = gf ∨ (Value.slice X (acc.map (·.1)).length d).ownBlock = some b
theorem InvF.out {gf : Nat} {acc : List (Tk × Int)} {V : Nat → Prop} {wa wb : World} (h : InvF gf acc V wa) (ho : Out V wa wb) : InvF gf acc V wb := by
  obtain ⟨X, d, h1, h2, h3⟩ := h
  exact ⟨X, d, (ho.block gf h1.lt ((h3 gf).2 (.inl rfl))).trans h1, own_like h2 (fun b hb e => ho.block b hb ((h3 b).2 (.inr e))), h3⟩
theorem InvF.range {gf : Nat} {acc : List (Tk × Int)} {V : Nat → Prop} {W : World} (h : InvF gf acc V W) : ∀ b, V b → gf ≤ b ∧ b < W.heap.size := fun b hb => by
  obtain ⟨X, d, h1, h2, h3⟩ := h
  rcases (h3 b).1 hb with rfl | e
  · exact ⟨Nat.le_refl _, h1.lt⟩
  · have := h2.lt b e
    omega

set_option maxHeartbeats 800000 in
theorem flat1_any (gf : Nat) (acc : List (Tk × Int)) (t : Tk) (s : Int) (V : Nat → Prop) (W : World) (hn : acc.length ≤ 4294967295) (h : InvF gf acc V W) :
    Calls Try.prog 27 #[.agg (tv t), .int .i64 s, .pointer (some ⟨gf, 0, none⟩)] W fun e W' => e = .returned (.tuple #[]) ∧ ∃ V', InvF gf (acc ++ [(t, s)]) V' W' ∧ Below gf W W' ∧ W.heap.size ≤ W'.heap.size ∧ (∀ b, b < W.heap.size → ¬ V b → W'.heap[b]? = W.heap[b]?) ∧ (∀ b, b < W.heap.size → V' b → V b) := by
  obtain ⟨X, d, hbox, hown, hV⟩ := h
  obtain ⟨k, x, p⟩ := t
  have hml : (acc.map (·.1)).length = acc.length := List.length_map _
  have hfl : (acc ++ [((⟨k, x, p⟩ : Tk), s)]).map (·.1) = acc.map (·.1) ++ [⟨k, x, p⟩] := by simp
  generalize acc.map (·.1) = l at *
  have hll : l.length ≤ 4294967295 := by omega
  have hne := own_ne hown hbox (by decide)
  have hlt := hbox.lt
  have hb1 := (hbox.alloc (.cells #[.int .u8 (k : Int), .string x, .int .i64 p] 36)).alloc (.cells #[.int .u8 (k : Int), .string x, .int .i64 p] 36)
  have ho1 := (hown.alloc (.cells #[.int .u8 (k : Int), .string x, .int .i64 p] 36)).alloc (.cells #[.int .u8 (k : Int), .string x, .int .i64 p] 36)
  have HBB : Hid (Below W.heap.size W ((W.alloc (.cells #[.int .u8 (k : Int), .string x, .int .i64 p] 36)).alloc (.cells #[.int .u8 (k : Int), .string x, .int .i64 p] 36))) := ((Below.refl _ _).alloc (Nat.le_refl _) _).alloc (by simp) _
  have HNW : Hid (Sl ((W.alloc (.cells #[.int .u8 (k : Int), .string x, .int .i64 p] 36)).alloc (.cells #[.int .u8 (k : Int), .string x, .int .i64 p] 36)) (W.heap.size + 1 + 1) (some ⟨W.heap.size + 1, 0, none⟩) [.int .u8 (k : Int), .string x, .int .i64 p]) := by
    have h := Sl.new (W.alloc (.cells #[.int .u8 (k : Int), .string x, .int .i64 p] 36)) 36 [.int .u8 (k : Int), .string x, .int .i64 p]
    rw [show (W.alloc (.cells #[.int .u8 (k : Int), .string x, .int .i64 p] 36)).heap.size = W.heap.size + 1 by simp] at h
    exact h
  have hcell := hbox.cell
  have HB1 := Lib.hid hb1
  have HO1 := Lib.hid ho1
  have HNE := Lib.hid hne
  have HVV := Lib.hid hV
  have HFL := Lib.hid hfl
  have HBOX := Lib.hid hbox
  have HOWN := Lib.hid hown
  clear hb1 ho1 hne hV hfl hbox hown hml
  generalize hm : l.length = m at *
  have HM := Lib.hid hm; clear hm
  show Calls Try.prog 27 #[.agg #[.int .u8 (k : Int), .string x, .int .i64 p], .int .i64 s, .pointer (some ⟨gf, 0, none⟩)] W _
  go_enter Try.func27, Try.ntmps27
  go_wp2_with (first | (at_builtin; refine wpList_catAt rfl _ _ 22 rfl 36 (.agg #[.int .u8 0, .string ⟨#[]⟩, .int .i64 0]) 3 32 Try.underlying22 infoTok rfl (by decide) (by decide) (gf + 1) X m d (tkcells l) rfl HO1.out _ (some ⟨W.heap.size + 1, 0, none⟩) 1 1 [.int .u8 (k : Int), .string x, .int .i64 p] rfl rfl (by decide) HNW.out (by simp [Value.oneCell']) (by omega) (by simp; omega) ?_; intro X2 d2 w2 hown2 hb2 hg2 hat2; have hbox2 := HB1.out.grown hg2 HNE.out; have hcell2 := hbox2.cell; have hfree2 := hbox2.free; have HBX2 := Lib.hid hbox2; have HOW2 := Lib.hid hown2; have HB2 := Lib.hid hb2; have HG2 := Lib.hid hg2; have HAT2 := Lib.hid hat2; clear hbox2 hown2 hb2 hg2 hat2))
  go_end0
  have hbp := HBX2.out.put (.slice X2 (m + 1) d2)
  have hsz2 := HG2.out.size
  have hs2 : W.heap.size ≤ w2.heap.size := by simp at hsz2; omega
  have hch : ∀ b, b < W.heap.size → b ≠ gf → (Value.slice X m d).ownBlock ≠ some b → (w2.setCell ⟨gf, 0, none⟩ (.slice X2 (m + 1) d2)).heap[b]? = W.heap[b]? := fun b hb h1 h2 => by
    simp only [World.setCell, Array.getElem?_modify, if_neg (fun e => h1 (Eq.symm e))]
    refine (HG2.out.block b (by simp; omega) (fun e => h2 e.symm)).trans (HBB.out.block b hb)
  have hat : ∀ b, b < W.heap.size → (Value.slice X2 (m + 1) d2).ownBlock = some b → (Value.slice X m d).ownBlock = some b := fun b hb e => by
    rcases HAT2.out with h | h
    · rw [← h]; exact e
    · rw [h] at e; injection e with e; simp at e; omega
  refine ⟨rfl, fun b => b = gf ∨ (Value.slice X2 (m + 1) d2).ownBlock = some b, ?_, ?_, by simp [World.setCell]; omega, fun b hb hv => ?_, fun b hb hv => ?_⟩
  · unfold InvF
    rw [HFL.out, List.length_append, List.length_singleton, HM.out, tkcells_append, tkcells_one]
    exact ⟨X2, d2, hbp, own_put HOW2.out HBX2.out (by decide) _, fun b => Iff.rfl⟩
  · refine ⟨HBB.out.os |> fun h => HG2.out.os.trans h, HG2.out.tape.trans HBB.out.tape, HG2.out.output.trans HBB.out.output, by simp [World.setCell]; omega, fun b hb => hch b (by omega) (by omega) (fun e => ?_)⟩
    have := (HOWN.out.lt b e).1
    omega
  · exact hch b hb (fun e => hv ((HVV.out b).2 (.inl e))) (fun e => hv ((HVV.out b).2 (.inr e)))
  · exact (HVV.out b).2 (hv.imp id (hat b hb))

set_option maxHeartbeats 800000 in
theorem flat9_any (A : Option Addr) (c : Nat) (l : List Tr) (w : World) (hN : (nodes l).length ≤ 536870912) (hA : Trs w w.heap.size A l) (hc : l.length ≤ c) :
    Calls Try.prog 14 #[.slice A l.length c] w fun e w' => (∃ X d, e = .returned (.slice X (flat l).length d) ∧ w'.ownsRow w.heap.size 36 3 (.slice X (flat l).length d) (flat l).length (tkcells (flat l))) ∧ Below w.heap.size w w' := by
  have hmf : ∀ (fn : Fn) (first cap : Array Value) (w : World), (Instr.makeFunc fn first cap).run Try.prog w = .ok (.func fn first cap) w := fun _ _ _ _ => rfl
  have HW0 : Hid (Below w.heap.size w (w.alloc (.cells #[.slice none 0 0] 22))) := (Below.refl _ _).alloc (Nat.le_refl _) _
  have hev : (evs l).length ≤ 2 * (nodes l).length := by
    have h : ∀ l : List Tr, (evs l).length ≤ 2 * (nodes l).length := ind (by simp [evs]) fun t A c ks e r h1 h2 => by
      rw [evs_cons, nodes_cons]
      by_cases h : cl (Tr.mk t A c ks e).t.k = 0
      · rw [if_pos h]; simp only [List.length_cons]; omega
      · rw [if_neg h]
        have h1' : (evs (Tr.mk t A c ks e).ks).length ≤ 2 * (nodes (Tr.mk t A c ks e).ks).length := h1
        simp only [List.length_cons, List.length_append]; omega
    exact h l
  have HC := Lib.hid (walk_any A c l 27 #[.pointer (some ⟨w.heap.size, 0, none⟩)] (fun _ _ => by kernel_rfl) w.heap.size (w.alloc (.cells #[.slice none 0 0] 22)) (by simp) (by omega) (hA.below HW0.out) hc
    (InvF w.heap.size) (fun _ _ _ _ h ho => h.out ho) (fun _ _ _ h => h.range) (fun b => b = w.heap.size)
    ⟨none, 0, Box.new _ _ _, World.ownsRow_nil _ _ _ _, fun b => by simp [Value.ownBlock]⟩
    (fun acc t s V W hz h => flat1_any w.heap.size acc t s V W (by
      obtain ⟨z, hz⟩ := hz
      have h := congrArg List.length hz
      simp only [List.length_append, List.length_singleton] at h
      omega) h))
  have hfe : flat l = (evs l).map (·.1) := rfl
  rw [hfe]
  clear hA hc hev hN hfe
  generalize evs l = E at *
  generalize l.length = n at *
  go_enter Try.func14, Try.ntmps14
  go_wp2_with fail
  refine HC.out.mono ?_
  rintro e w1 ⟨rfl, ⟨V, X, d, hbox, hown, _⟩, hb⟩
  have HB := Lib.hid (HW0.out.trans hb)
  have hcell := hbox.cell
  have HOW := Lib.hid (own_mono hown (Nat.le_succ _))
  clear hbox hown hb
  obtain ⟨m, hm⟩ : ∃ m, (E.map (·.1)).length = m := ⟨_, rfl⟩
  rw [hm] at hcell
  have HM := Lib.hid hm; clear hm
  go_wp2
  go_ret
  exact ⟨⟨X, d, by rw [HM.out]; rfl, HOW.out⟩, HB.out⟩

/-- What stands behind some tokens: how many brackets are open, and how many at most. -/
def InvD (ga gb : Nat) (acc : List (Tk × Int)) (V : Nat → Prop) (W : World) : Prop :=
  Box W ga 3 (.int .i64 (walkD acc 0 0).1) ∧ Box W gb 3 (.int .i64 (walkD acc 0 0).2) ∧ ∀ b, V b ↔ b = ga ∨ b = gb
theorem walkD_bound : ∀ (l : List (Tk × Int)) (o m : Int), (∀ x ∈ l, -1 ≤ x.2 ∧ x.2 ≤ 1) → o - l.length ≤ (walkD l o m).1 ∧ (walkD l o m).1 ≤ o + l.length ∧ m ≤ (walkD l o m).2 ∧ (walkD l o m).2 ≤ max m (o + l.length)
  | [], o, m, _ => by simp [walkD]; omega
  | (t, s) :: l, o, m, h => by
    have h1 := h (t, s) (by simp)
    have h2 := walkD_bound l (o + s) (max m (o + s)) (fun x hx => h x (by simp [hx]))
    simp only [walkD, List.length_cons]
    simp only at h1
    omega
theorem evs_step : ∀ l : List Tr, ∀ x ∈ evs l, -1 ≤ x.2 ∧ x.2 ≤ 1 := by
  refine ind (by simp [evs]) fun t A c ks e r h1 h2 x hx => ?_
  rw [evs] at hx
  split at hx
  · rcases List.mem_cons.1 hx with rfl | hx
    · exact ⟨by simp, by simp⟩
    · exact h2 x hx
  · rcases List.mem_cons.1 hx with rfl | hx
    · exact ⟨by simp, by simp⟩
    · rcases List.mem_append.1 hx with hx | hx
      · exact h1 x hx
      · rcases List.mem_cons.1 hx with rfl | hx
        · exact ⟨by simp, by simp⟩
        · exact h2 x hx
theorem InvD.out {ga gb : Nat} {acc : List (Tk × Int)} {V : Nat → Prop} {wa wb : World} (h : InvD ga gb acc V wa) (ho : Out V wa wb) : InvD ga gb acc V wb :=
  ⟨(ho.block ga h.1.lt ((h.2.2 ga).2 (.inl rfl))).trans h.1, (ho.block gb h.2.1.lt ((h.2.2 gb).2 (.inr rfl))).trans h.2.1, h.2.2⟩

set_option maxHeartbeats 800000 in
theorem depth1_any (ga gb B : Nat) (acc : List (Tk × Int)) (t : Tk) (s : Int) (V : Nat → Prop) (W : World) (hab : ga ≠ gb) (hBa : B ≤ ga) (hBb : B ≤ gb) (hn : acc.length ≤ 4294967295) (hs : ∀ x ∈ acc ++ [(t, s)], -1 ≤ x.2 ∧ x.2 ≤ 1) (h : InvD ga gb acc V W) :
    Calls Try.prog 29 #[.agg (tv t), .int .i64 s, .pointer (some ⟨ga, 0, none⟩), .pointer (some ⟨gb, 0, none⟩)] W fun e W' => e = .returned (.tuple #[]) ∧ ∃ V', InvD ga gb (acc ++ [(t, s)]) V' W' ∧ Below B W W' ∧ W.heap.size ≤ W'.heap.size ∧ (∀ b, b < W.heap.size → ¬ V b → W'.heap[b]? = W.heap[b]?) ∧ (∀ b, b < W.heap.size → V' b → V b) := by
  obtain ⟨ha, hb, hV⟩ := h
  obtain ⟨k, x, p⟩ := t
  have hbd := walkD_bound acc 0 0 (fun y hy => hs y (by simp [hy]))
  have hs1 := hs (⟨k, x, p⟩, s) (by simp)
  simp only at hs1
  have hw : walkD (acc ++ [((⟨k, x, p⟩ : Tk), s)]) 0 0 = ((walkD acc 0 0).1 + s, max (walkD acc 0 0).2 ((walkD acc 0 0).1 + s)) := by rw [walkD_append]; rfl
  have hla := ha.lt
  have hlb := hb.lt
  have ha1 := ha.alloc (.cells #[.int .u8 (k : Int), .string x, .int .i64 p] 36)
  have hb1 := hb.alloc (.cells #[.int .u8 (k : Int), .string x, .int .i64 p] 36)
  have HW := Lib.hid hw; clear hw
  generalize hO : (walkD acc 0 0).1 = o at *
  generalize hM : (walkD acc 0 0).2 = m at *
  have c1 := ha1.cell
  have f1 := ha1.free
  have c2 := hb1.cell
  have f2 := hb1.free
  have hbp := hb1.far (p := ⟨ga, 0, none⟩) hab (.int .i64 (o + s))
  have c3 := hbp.cell
  have f3 := hbp.free
  have hap := ha1.put (.int .i64 (o + s))
  have c4 := hap.cell
  have hap2 := hap.far (p := ⟨gb, 0, none⟩) (fun e => hab e.symm) (.int .i64 (max m (o + s)))
  have hbp2 := hbp.put (.int .i64 (max m (o + s)))
  have HAP := Lib.hid hap2
  have HBP := Lib.hid hbp2
  have HVV := Lib.hid hV
  have HAB := Lib.hid hab
  clear ha hb ha1 hb1 hap hap2 hbp2 hV hab hs hbp hO hM
  have hwr : IntKind.i64.wrap (o + s) = o + s := by rw [IntKind.wrap_i64] <;> omega
  show Calls Try.prog 29 #[.agg #[.int .u8 (k : Int), .string x, .int .i64 p], .int .i64 s, .pointer (some ⟨ga, 0, none⟩), .pointer (some ⟨gb, 0, none⟩)] W _
  have HVS : Hid ((W.alloc (.cells #[.int .u8 (k : Int), .string x, .int .i64 p] 36)).heap.size = W.heap.size + 1 ∧ (∀ b, b < W.heap.size → (W.alloc (.cells #[.int .u8 (k : Int), .string x, .int .i64 p] 36)).heap[b]? = W.heap[b]?) ∧ Below B W (W.alloc (.cells #[.int .u8 (k : Int), .string x, .int .i64 p] 36))) := ⟨by simp, fun b hb => heap_alloc_old W _ hb, (Below.refl B W).alloc (by omega) _⟩
  go_enter Try.func29, Try.ntmps29
  go_upto_region 1 with fail
  generalize (W.alloc (.cells #[.int .u8 (k : Int), .string x, .int .i64 p] 36)) = v at *
  have hfin : ∃ V', InvD ga gb (acc ++ [((⟨k, x, p⟩ : Tk), s)]) V' ((v.setCell ⟨ga, 0, none⟩ (.int .i64 (o + s))).setCell ⟨gb, 0, none⟩ (.int .i64 (max m (o + s)))) ∧ Below B W ((v.setCell ⟨ga, 0, none⟩ (.int .i64 (o + s))).setCell ⟨gb, 0, none⟩ (.int .i64 (max m (o + s)))) ∧ W.heap.size ≤ ((v.setCell ⟨ga, 0, none⟩ (.int .i64 (o + s))).setCell ⟨gb, 0, none⟩ (.int .i64 (max m (o + s)))).heap.size ∧ (∀ b, b < W.heap.size → ¬ V b → ((v.setCell ⟨ga, 0, none⟩ (.int .i64 (o + s))).setCell ⟨gb, 0, none⟩ (.int .i64 (max m (o + s)))).heap[b]? = W.heap[b]?) ∧ (∀ b, b < W.heap.size → V' b → V b) := by
    have hsz := HVS.out.1
    refine ⟨V, ⟨by rw [HW.out]; exact HAP.out, by rw [HW.out]; exact HBP.out, HVV.out⟩, (HVS.out.2.2.setCell (p := ⟨ga, 0, none⟩) hBa _).setCell (p := ⟨gb, 0, none⟩) hBb _, by simp [World.setCell]; omega, fun b hb hv => ?_, fun b _ h => h⟩
    have h1 : ga ≠ b := fun e => hv ((HVV.out b).2 (.inl e.symm))
    have h2 : gb ≠ b := fun e => hv ((HVV.out b).2 (.inr e.symm))
    simp only [World.setCell, Array.getElem?_modify, if_neg h1, if_neg h2]
    exact HVS.out.2.1 b hb
  have HFIN := Lib.hid hfin; clear hfin
  go_wp2
  go_end0
  exact ⟨rfl, HFIN.out⟩

set_option maxHeartbeats 800000 in
theorem depth9_any (A : Option Addr) (c : Nat) (l : List Tr) (w : World) (hN : (nodes l).length ≤ 536870912) (hA : Trs w w.heap.size A l) (hc : l.length ≤ c) :
    Calls Try.prog 16 #[.slice A l.length c] w fun e w' => e = .returned (.int .i64 ((dep l : Nat) : Int)) ∧ Below w.heap.size w w' := by
  have hmf : ∀ (fn : Fn) (first cap : Array Value) (w : World), (Instr.makeFunc fn first cap).run Try.prog w = .ok (.func fn first cap) w := fun _ _ _ _ => rfl
  have HW0 : Hid (Below w.heap.size w ((w.alloc (.cells #[.int .i64 0] 3)).alloc (.cells #[.int .i64 0] 3))) := ((Below.refl _ _).alloc (Nat.le_refl _) _).alloc (by simp) _
  have hev : (evs l).length ≤ 2 * (nodes l).length := by
    have h : ∀ l : List Tr, (evs l).length ≤ 2 * (nodes l).length := ind (by simp [evs]) fun t A c ks e r h1 h2 => by
      rw [evs_cons, nodes_cons]
      by_cases h : cl (Tr.mk t A c ks e).t.k = 0
      · rw [if_pos h]; simp only [List.length_cons]; omega
      · rw [if_neg h]
        have h1' : (evs (Tr.mk t A c ks e).ks).length ≤ 2 * (nodes (Tr.mk t A c ks e).ks).length := h1
        simp only [List.length_cons, List.length_append]; omega
    exact h l
  have hbx : Box ((w.alloc (.cells #[.int .i64 0] 3)).alloc (.cells #[.int .i64 0] 3)) (w.heap.size + 1) 3 (.int .i64 0) := by
    have h := Box.new (w.alloc (.cells #[.int .i64 0] 3)) 3 (.int .i64 0)
    rw [show (w.alloc (.cells #[.int .i64 0] 3)).heap.size = w.heap.size + 1 by simp] at h
    exact h
  have HC := Lib.hid (walk_any A c l 29 #[.pointer (some ⟨w.heap.size, 0, none⟩), .pointer (some ⟨w.heap.size + 1, 0, none⟩)] (fun _ _ => by kernel_rfl) w.heap.size ((w.alloc (.cells #[.int .i64 0] 3)).alloc (.cells #[.int .i64 0] 3)) (by simp; omega) (by omega) (hA.below HW0.out) hc
    (InvD w.heap.size (w.heap.size + 1)) (fun _ _ _ _ h ho => h.out ho) (fun _ _ _ h b hb => by
      rcases (h.2.2 b).1 hb with rfl | rfl
      · exact ⟨Nat.le_refl _, h.1.lt⟩
      · exact ⟨Nat.le_succ _, h.2.1.lt⟩) (fun b => b = w.heap.size ∨ b = w.heap.size + 1)
    ⟨(Box.new w _ _).alloc _, hbx, fun b => Iff.rfl⟩
    (fun acc t s V W hz h => by
      obtain ⟨z, hz⟩ := hz
      refine depth1_any w.heap.size (w.heap.size + 1) w.heap.size acc t s V W (by omega) (Nat.le_refl _) (Nat.le_succ _) (by
        have h := congrArg List.length hz
        simp only [List.length_append, List.length_singleton] at h
        omega) (fun y hy => evs_step l y (by rw [← hz]; exact List.mem_append_left _ hy)) h))
  have hfe : (walkD (evs l) 0 0).2 = dep l := by rw [walkD_evs _ _ _ (Int.le_refl 0)]; simp
  rw [← hfe]
  clear hA hc hev hN hfe hbx
  generalize evs l = E at *
  generalize l.length = n at *
  go_enter Try.func16, Try.ntmps16
  go_wp2_with fail
  refine HC.out.mono ?_
  rintro e w1 ⟨rfl, ⟨V, h1, h2, _⟩, hb⟩
  have HB := Lib.hid (HW0.out.trans hb)
  have hcell := h2.cell
  clear h1 h2 hb
  go_wp2
  go_ret
  exact ⟨rfl, HB.out⟩
end Go.Proofs.Ytnaaejemanmgnaa
