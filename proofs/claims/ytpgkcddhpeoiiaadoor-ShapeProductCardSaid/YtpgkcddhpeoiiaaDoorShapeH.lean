/-
  What Product and One of package shape return. Conditions: at most 65536 factors with at most 65536 names each.
-/
import Derived.Test.YtpgkcddhpeoiiaaDoorShapeG
import Derived.Great.BuildSlice
namespace Go.Proofs.YtpgkcddhpeoiiaaDoor
open Go.RowKit RM

theorem own_nil {w : World} {base size m c : Nat} {e : TypeId} {A : Option Addr} {cs : List Value} (h : w.ownsRow base e size (.slice A m c) m cs) : A = none → m = 0 ∧ c = 0 := fun hn => by
  rcases h.2 with ⟨e, h0⟩ | ⟨g, cap, cur, e, _⟩
  · injection e with _ _ e3
    exact ⟨h0, e3⟩
  · injection e with e _ _
    rw [hn] at e; cases e
set_option maxRecDepth 100000 in
/-- Factors onto a row of the call's own. -/
theorem wp_appendF {o : Oper} {a : Act} {w : World} {K : Act → World → Prop} {Q : Exit → Act → World → Prop} (s x : Operand) (ho : o.op = .call { callee := .builtin .append, args := #[s, x], argTypes := #[22, 22] })
    (base : Nat) (Ar : Option Addr) (n cr : Nat) (cs : List Value) (hs : a.eval s = .slice Ar n cr) (hown : w.ownsRow base 36 67 (.slice Ar n cr) n cs)
    (A' : Option Addr) (m c' : Nat) (news : List Value) (hx : a.eval x = .slice A' m c') (hl : news.length = m * 67) (hn : Sl w w.heap.size A' news) (hnil : A' = none → m = 0 ∧ c' = 0) (h1 : ∀ u ∈ news, u.oneCell' = true)
    (hb : n + m ≤ 131072) (hbase : base ≤ w.heap.size)
    (h : ∀ A2 c2 w', w'.ownsRow base 36 67 (.slice A2 (n + m) c2) (n + m) (cs ++ news) → w.grownBy w' (Value.slice Ar n cr).ownBlock → K (a.put o.dst (.slice A2 (n + m) c2)) w') : o.wp Tryd.prog a w K Q := by
  obtain ⟨i0, hi, hz0, hz1, hz2⟩ := info_parts infoFac
  cases A' with
  | some ad =>
    refine wp_append_own w s x 22 ho base 36 i0 _ 67 552 Tryd.underlying22 hi hz0 hz1 hz2 (by kernel_rfl) (by decide) _ n cs hs hown ad m c' news hx hl (fun j u hj => ?_) h1 (by unfold maxLen; omega) (by omega) hbase ?_
    · obtain ⟨b, off, e, _, hc⟩ := hn (fun e => by rw [e] at hj; simp at hj)
      injection e with e
      subst e
      rw [Addr.add_lit]
      exact hc j u hj
    · intro v' w' h2 h3 _
      obtain ⟨A2, c2, rfl, _, _⟩ := own_form h2
      exact h A2 c2 w' h2 h3
  | none =>
    obtain ⟨rfl, rfl⟩ := hnil rfl
    have hnews : news = [] := List.eq_nil_of_length_eq_zero (by omega)
    subst hnews
    have hrun := run_append_owned_none (P := Tryd.prog) (w := w) base 22 o.type 36 i0 67 Tryd.underlying22 hi (.slice Ar n cr) n cs hown
    have h2 : K (a.put o.dst (.slice Ar n cr)) w := by simpa using h Ar cr w (by simpa using hown) ⟨rfl, rfl, rfl, Nat.le_refl _, fun _ _ _ => rfl⟩
    unfold Oper.wp
    simp [execOp, ho, resolve, invoke, builtin, hs, hx, hrun, Result.andThen]
    exact h2

theorem own_other {w w' : World} {base size n g : Nat} {e t : TypeId} {v : Value} {cs : List Value} {rs : Array Value} (h : w.ownsRow base e size v n cs) (he : Else g w w') (ht : e ≠ t) (hr : RowAt w g t rs) : w'.ownsRow base e size v n cs := by
  have hne := own_ne2 h hr ht
  refine ⟨h.1, ?_⟩
  rcases h.2 with hn | ⟨g', cap, cur, rfl, hg, hh, rest⟩
  · exact .inl hn
  · exact .inr ⟨g', cap, cur, rfl, hg, (he.block g' (fun e => hne (by simp [Value.ownBlock, e]))).trans hh, rest⟩

/-! Shapes in a slice. -/
structure Shp where
  t : Bool
  A : Option Addr
  c : Nat
  fs : List Fac
def s0 : Shp := ⟨false, none, 0, []⟩
def flat (L : List Shp) : List Fac := L.flatMap fun s => s.fs
def shc (s : Shp) : List Value := [.bool s.t, .slice s.A s.fs.length s.c]
def shcells (L : List Shp) : List Value := L.flatMap shc
theorem shcells_cons (s : Shp) (L : List Shp) : shcells (s :: L) = shc s ++ shcells L := by simp [shcells]
theorem shcells_at : ∀ (L : List Shp) (i j : Nat), i < L.length → j < 2 → (shcells L)[i * 2 + j]? = (shc (L.getD i s0))[j]?
  | [], i, j, hi, _ => by simp at hi
  | s :: L, 0, j, _, hj => by
    rw [shcells_cons, List.getElem?_append_left (by simp [shc]; omega)]
    simp
  | s :: L, i + 1, j, hi, hj => by
    rw [shcells_cons, List.getElem?_append_right (by simp [shc]; omega), show (i + 1) * 2 + j - (shc s).length = i * 2 + j by simp [shc]; omega]
    exact shcells_at L i j (by simpa using hi) hj
theorem flat_take (L : List Shp) (k : Nat) (h : k < L.length) : flat (L.take (k + 1)) = flat (L.take k) ++ (L.getD k s0).fs := by
  unfold flat
  rw [List.take_succ_eq_append_getElem h, List.flatMap_append, List.getD_eq_getElem?_getD, List.getElem?_eq_getElem h]
  simp
structure ShOk (w : World) (s : Shp) : Prop where
  facs : Facs w s.A s.fs
  nil : s.A = none → s.c = 0
  few : s.fs.length ≤ 65536
  names : ∀ f ∈ s.fs, f.names.length ≤ 65536
theorem ShOk.below {w w' : World} {s : Shp} (h : ShOk w s) (hb : Below w.heap.size w w') : ShOk w' s := ⟨h.facs.below hb, h.nil, h.few, h.names⟩
theorem sget_mem {L : List Shp} {i : Nat} (hi : i < L.length) : L.getD i s0 ∈ L := by
  rw [List.getD_eq_getElem?_getD, List.getElem?_eq_getElem hi]
  exact List.getElem_mem hi
theorem flat_len (L : List Shp) (k : Nat) : (flat (L.take k)).length ≤ (flat L).length := by
  have : flat L = flat (L.take k) ++ flat (L.drop k) := by
    unfold flat
    rw [← List.flatMap_append, List.take_append_drop]
  rw [this, List.length_append]
  omega
theorem shinfo : (Tryd.prog.info? 24).map (·.size) = some 2 := by kernel_rfl
section
variable {ops : Array Oper} {rest : List Oper} {o : Oper} {a : Act} {w : World} {Q : Exit → Act → World → Prop}
theorem wpList_loadShapeIn (hgd : Region.wanted o (yielded ops a.tmps) = true) (x : Operand) (ho : o.op = .load 24 x) (b k : Nat) (hx : a.eval x = .pointer (some ⟨b, k, none⟩))
    (s : Shp) (hg : w.rangeAt b k (shc s)) (h : wpList Tryd.prog ops Q rest (a.put o.dst (.agg (sv s.t s.A s.fs.length s.c))) w) : wpList Tryd.prog ops Q (o :: rest) a w :=
  wpList_wanted hgd fun _ hK => wp_load_mid _ x ho b k hx (shc s) _ hg Tryd.underlying24 rfl shinfo (hK _ _ h)
end
theorem zero_shape_size : (sv false none 0 0).size = 2 := rfl

set_option maxRecDepth 8000 in
set_option maxHeartbeats 4000000 in
theorem product_any (A : Option Addr) (c : Nat) (L : List Shp) (w : World) (hL : Sl w w.heap.size A (shcells L)) (hok : ∀ s ∈ L, ShOk w s) (hlen : L.length ≤ 65536) (hsum : (flat L).length ≤ 65536) :
    Calls Tryd.prog 8 #[.slice A L.length c] w fun e w' => ∃ A' c' gs, e = .returned (.agg (sv true A' gs.length c')) ∧ w'.ownsRow w.heap.size 36 67 (.slice A' gs.length c') gs.length (fscells gs) ∧
      (∀ g ∈ gs, FacO w' w.heap.size g) ∧ gs.map core = (flat L).map core ∧ Below w.heap.size w w' := by
  have HD1 : Hid (36 ≠ 24) := by show (36 : Nat) ≠ 24; decide
  have HD2 : Hid (9 ≠ 36) := by show (9 : Nat) ≠ 36; decide
  have HD3 : Hid (9 ≠ 24) := by show (9 : Nat) ≠ 24; decide
  have HL : Hid (∀ W, Below w.heap.size w W → Sl W w.heap.size A (shcells L)) := fun W h => Sl.below hL h
  have HOK : Hid (∀ W, Below w.heap.size w W → ∀ k, k < L.length → ShOk W (L.getD k s0)) := fun W h k hk => (hok _ (sget_mem hk)).below h
  have HAT : Hid (∀ k, k < L.length → ∀ j u, (shc (L.getD k s0))[j]? = some u → (shcells L)[k * 2 + j]? = some u) := fun k hk j u hu => by
    have hj : j < 2 := by have := (List.getElem?_eq_some_iff.1 hu).1; simpa [shc] using this
    rw [shcells_at L k j hk hj]; exact hu
  have HFT : Hid (∀ k, k < L.length → flat (L.take (k + 1)) = flat (L.take k) ++ (L.getD k s0).fs) := flat_take L
  have HFN : Hid (∀ k, (flat (L.take k)).length ≤ 65536) := fun k => Nat.le_trans (flat_len L k) hsum
  have HFA : Hid (flat (L.take L.length) = flat L) := by rw [List.take_length]; exact rfl
  have HF0 : Hid (flat (L.take 0) = []) := rfl
  clear hL hok hsum
  generalize hn : L.length = n at *
  clear hn
  go_enter Tryd.func8, Tryd.ntmps8
  go_wp2_with fail
  have z1 : RowAt ((w.alloc (.cells (sv false none 0 0) 24)).alloc (.cells (sv true none 0 0) 24)) w.heap.size 24 (sv false none 0 0) := (RowAt.new w _ _).alloc _
  have p1 : RowAt ((w.alloc (.cells (sv false none 0 0) 24)).alloc (.cells (sv true none 0 0) 24)) (w.heap.size + 1) 24 (sv true none 0 0) := by
    have := RowAt.new (w.alloc (.cells (sv false none 0 0) 24)) 24 (sv true none 0 0)
    simpa using this
  have HB1 : Hid (Below w.heap.size w ((w.alloc (.cells (sv false none 0 0) 24)).alloc (.cells (sv true none 0 0) 24))) := ((Below.refl _ w).alloc (Nat.le_refl _) _).alloc (by simp) _
  have HE1 : Hid (∀ g ∈ ([] : List Fac), FacO ((w.alloc (.cells (sv false none 0 0) 24)).alloc (.cells (sv true none 0 0) 24)) w.heap.size g) := fun g hg => by cases hg
  have HO1 : Hid (((w.alloc (.cells (sv false none 0 0) 24)).alloc (.cells (sv true none 0 0) 24)).ownsRow w.heap.size 36 67 (.slice none ([] : List Fac).length 0) ([] : List Fac).length (fscells [])) := World.ownsRow_nil _ _ _ _
  have HG1 : Hid (([] : List Fac).map core = (flat (L.take 0)).map core) := by
    show ([] : List Fac).map core = (flat (L.take 0)).map core
    rw [HF0.out]
  go_loopw [5, 9] (fun _ kv wr => ∃ (k : Nat) (Ar : Option Addr) (cr : Nat) (gs : List Fac), k ≤ n ∧ kv = .int .i64 k ∧ RowAt wr w.heap.size 24 (sv false none 0 0) ∧ RowAt wr (w.heap.size + 1) 24 (sv true Ar gs.length cr) ∧
    Hid (wr.ownsRow w.heap.size 36 67 (.slice Ar gs.length cr) gs.length (fscells gs)) ∧ Hid (∀ g ∈ gs, FacO wr w.heap.size g) ∧ Hid (gs.map core = (flat (L.take k)).map core) ∧ Hid (Below w.heap.size w wr)) (fun _ kv _ => n - (intOf kv).toNat)
  case atStart => exact ⟨0, none, 0, [], by omega, rfl, z1, p1, HO1, HE1, HG1, HB1⟩
  case round =>
    clear z1 p1 HB1 HO1 HE1 HG1
    obtain ⟨k, Ar, cr, gs, hk, rfl, z1, p1, HO, HN, HG, HB1⟩ := hrel
    by_cases hlt : k < n
    · have hs := HOK.out _ HB1.out k hlt
      have hsl := HL.out _ HB1.out
      have hat := HAT.out k hlt
      have hfl := HFT.out k hlt
      have h1 := HFN.out (k + 1)
      rw [hfl, List.length_append] at h1
      have h2 := core_len HG.out
      obtain ⟨b, o, rfl, _, hc⟩ := hsl (fun e => by have := hat 0 _ rfl; rw [e] at this; simp at this)
      have hrg : wr.rangeAt b (o + k * 2) (shc (L.getD k s0)) := fun j u hu => by rw [Nat.add_assoc]; exact hc _ _ (hat j u hu)
      have HCP : Hid (∀ W, Below w.heap.size w W → Calls Tryd.prog 18 #[.slice (L.getD k s0).A (L.getD k s0).fs.length (L.getD k s0).c] W fun e w' => ∃ A' c' gs, e = .returned (.slice A' gs.length c') ∧ w'.ownsRow W.heap.size 36 67 (.slice A' gs.length c') gs.length (fscells gs) ∧
          (∀ g ∈ gs, FacO w' W.heap.size g) ∧ gs.map core = (L.getD k s0).fs.map core ∧ Below W.heap.size W w') := fun W h => by
        have h3 := HOK.out W h k hlt
        exact copied_any _ _ _ W h3.facs h3.few h3.names h3.nil
      have HFL := Lib.hid hfl
      clear hs hsl hat hc hfl
      generalize L.getD k s0 = s at *
      have HGL : Hid (gs.length + s.fs.length ≤ 65536) := by
        show gs.length + s.fs.length ≤ 65536
        omega
      clear h1 h2
      go_wp2_with (first
        | (refine wpList_loadShapeIn (by rfl) _ rfl b (o + k * 2) rfl s hrg ?_)
        | (refine wpList_storeShape (by rfl) _ _ rfl wr.heap.size rfl s.t s.A s.fs.length s.c rfl _ zero_shape_size (RowAt.new _ _ _) ?_; intro w2 r2 he))
      have hb2 : Below wr.heap.size wr w2 := below_made (Below.refl _ _) (Nat.le_refl _) he
      have hp1 := p1.lt
      have p3 := (p1.below hb2 p1.lt).drew
      have z3 := (z1.below hb2 z1.lt).drew
      have HO3 : Hid (w2.drew.ownsRow w.heap.size 36 67 (.slice Ar gs.length cr) gs.length (fscells gs)) := own_below HO.out hb2.drew (Nat.le_refl _)
      have HN3 : Hid (∀ g ∈ gs, FacO w2.drew w.heap.size g) := fun g hg => (HN.out g hg).below hb2.drew (Nat.le_refl _)
      have HB2 : Hid (Below w.heap.size w w2.drew) := HB1.out.trans (hb2.drew.mono HB1.out.size)
      have hc5 := shape_cells r2
      obtain ⟨S, hS⟩ : ∃ S : World → Prop, S = fun w' => Below w.heap.size w w' ∧ RowAt w' wr.heap.size 24 (sv s.t s.A s.fs.length s.c) := ⟨_, rfl⟩
      have HS : Hid (Below w.heap.size w w2.drew ∧ RowAt w2.drew wr.heap.size 24 (sv s.t s.A s.fs.length s.c)) := ⟨HB2.out, r2⟩
      have cS : ∀ w', (Below w.heap.size w w' ∧ RowAt w' wr.heap.size 24 (sv s.t s.A s.fs.length s.c)) → w'.cell? ⟨wr.heap.size, 1, none⟩ = some (.slice s.A s.fs.length s.c) := fun w' h => (shape_cells h.2).2
      clear hS S hb2 he p1 z1 HO HN HB1 hc5 r2 hrg
      have hgl := HGL.out
      refine wp_region_ot (fun w' => Below w.heap.size w w' ∧ RowAt w' wr.heap.size 24 (sv s.t s.A s.fs.length s.c)) (.take 0 (.take 2 (.take 3 (.two 1 (.solo 4 (.solo 5 (.take 6 (.solo 7 .nil)))) 4 (.solo 1 (.solo 5 (.take 6 (.solo 7 .nil)))))))) (by kernel_rfl) (by kernel_rfl) rfl (by kernel_rfl) HS.out ?_
      generalize w2.drew = V at *
      have hc1 := (p3.cell 1).trans rfl
      iterate 3
        (refine wpOT_step (o := ?_) ?_ ?_; rotate_left 1; (simp only [List.getElem?_toArray, List.getElem?_cons_succ, List.getElem?_cons_zero]; with_reducible rfl))
        (first
            | (refine wpOT_skip (by rfl) ?_)
            | (refine wpOT_take (v := ?_) (by rfl) ?_ ?_; rotate_left 1; (intro wx hSx; have hc_0 := cS wx hSx; go_simp; try with_reducible rfl)))
        (try simp only [Act.put, List.setIfInBounds_toArray, List.set_cons_zero, List.set_cons_succ])
      refine wpOT_two ?_ ?_
      · (refine wpOT_solo (o := ?_) ?_ ?_; rotate_left 1; (simp only [List.getElem?_toArray, List.getElem?_cons_succ, List.getElem?_cons_zero]; with_reducible rfl))
        intro K hK
        go_simp
        refine hK.out _ _ HS.out ?_
        clear hK K
        (try simp only [Act.put, List.setIfInBounds_toArray, List.set_cons_zero, List.set_cons_succ])
        clear hc1
        (refine wpOT_solo (o := ?_) ?_ ?_; rotate_left 1; (simp only [List.getElem?_toArray, List.getElem?_cons_succ, List.getElem?_cons_zero]; with_reducible rfl))
        intro K hK
        go_simp
        refine (HCP.out _ HS.out.1).mono ?_
        rintro e w4 ⟨A4, c4, ps, rfl, hpo, hpn, hpc, hb⟩
        have hS : Below w.heap.size w w4 ∧ RowAt w4 wr.heap.size 24 (sv s.t s.A s.fs.length s.c) := ⟨HS.out.1.trans (hb.mono HS.out.1.size), HS.out.2.below hb HS.out.2.lt⟩
        clear HS
        have HS := Lib.hid hS; clear hS
        have p4 := p3.below hb p3.lt
        have z4 := z3.below hb z3.lt
        have HO4 := Lib.hid (own_below HO3.out hb (Nat.le_refl _))
        have HN4 : Hid (∀ g ∈ gs, FacO w4 w.heap.size g) := fun g hg => (HN3.out g hg).below hb (Nat.le_refl _)
        have HPO := Lib.hid hpo
        have HPN := Lib.hid hpn
        have HPC := Lib.hid hpc
        clear hb p3 z3 HO3 HN3 hpo hpn hpc
        refine hK.out _ _ HS.out ?_
        clear hK K
        (try simp only [Act.put, List.setIfInBounds_toArray, List.set_cons_zero, List.set_cons_succ])
        (refine wpOT_solo (o := ?_) ?_ ?_; rotate_left 1; (simp only [List.getElem?_toArray, List.getElem?_cons_succ, List.getElem?_cons_zero]; with_reducible rfl))
        intro K hK
        rw [if_pos (by rfl)]
        have hpl := core_len HPC.out
        refine wp_appendF _ _ rfl w.heap.size Ar gs.length cr (fscells gs) rfl HO4.out A4 ps.length c4 (fscells ps) rfl (by rw [HPO.out.1]) (Sl.of_own HPO.out) (own_nil HPO.out) (fscells_one ps) (by omega) HS.out.1.size ?_
        intro A5 c5 w5 hown5 hgr
        have hbel : Below w.heap.size w4 w5 := (Below.refl _ _).grown hgr HS.out.1.size (fun k hk => (HO4.out.lt k hk).1)
        have hS : Below w.heap.size w w5 ∧ RowAt w5 wr.heap.size 24 (sv s.t s.A s.fs.length s.c) := ⟨HS.out.1.trans hbel, HS.out.2.grown hgr (own_ne2 HO4.out HS.out.2 HD1.out)⟩
        have p5 := p4.grown hgr (own_ne2 HO4.out p4 HD1.out)
        have z5 := z4.grown hgr (own_ne2 HO4.out z4 HD1.out)
        have HN5 : Hid (∀ g ∈ gs ++ ps, FacO w5 w.heap.size g) := fun g hg => by
          rcases List.mem_append.1 hg with h | h
          · exact (HN4.out g h).grown HO4.out HD2.out hgr
          · exact ((HPN.out g h).mono HB2.out.size).grown HO4.out HD2.out hgr
        have ho6 : w5.ownsRow w.heap.size 36 67 (.slice A5 (gs ++ ps).length c5) (gs ++ ps).length (fscells (gs ++ ps)) := by
          rw [fscells_append, List.length_append]; exact hown5
        have hc6 : (gs ++ ps).map core = (flat (L.take (k + 1))).map core := by rw [List.map_append, HG.out, HPC.out, HFL.out, List.map_append]
        have hl6 : gs.length + ps.length = (gs ++ ps).length := List.length_append.symm
        rw [hl6]
        generalize gs ++ ps = g6 at *
        have HC6 := Lib.hid hc6
        have HO5 := Lib.hid ho6
        clear HS
        have HS := Lib.hid hS
        clear hS hbel hgr hown5 ho6 hc6 hl6 hpl HO4 HN4 HPO HPN HPC p4 z4
        refine hK.out _ _ HS.out ?_
        clear hK K
        (try simp only [Act.put, List.setIfInBounds_toArray, List.set_cons_zero, List.set_cons_succ])
        have hce := (p5.cell 1).trans rfl
        have hfe := p5.free 1
        iterate 1
          (refine wpOT_step (o := ?_) ?_ ?_; rotate_left 1; (simp only [List.getElem?_toArray, List.getElem?_cons_succ, List.getElem?_cons_zero]; with_reducible rfl))
          (first
              | (refine wpOT_skip (by rfl) ?_)
              | (refine wpOT_take (v := ?_) (by rfl) ?_ ?_; rotate_left 1; (intro wx hSx; go_simp; try with_reducible rfl)))
          (try simp only [Act.put, List.setIfInBounds_toArray, List.set_cons_zero, List.set_cons_succ])
        (refine wpOT_solo (o := ?_) ?_ ?_; rotate_left 1; (simp only [List.getElem?_toArray, List.getElem?_cons_succ, List.getElem?_cons_zero]; with_reducible rfl))
        intro K hK
        go_simp
        have p6 : RowAt (w5.setCell ⟨w.heap.size + 1, 1, none⟩ (.slice A5 g6.length c5)) (w.heap.size + 1) 24 (sv true A5 g6.length c5) := p5.put 1 (.slice A5 g6.length c5)
        have z6 := z5.far (p := ⟨w.heap.size + 1, 1, none⟩) (by show w.heap.size + 1 ≠ w.heap.size; omega) (.slice A5 g6.length c5)
        have hbs : Below w.heap.size w5 (w5.setCell ⟨w.heap.size + 1, 1, none⟩ (.slice A5 g6.length c5)) := (Else.setCell w5 ⟨w.heap.size + 1, 1, none⟩ (.slice A5 g6.length c5)).below (by show w.heap.size ≤ w.heap.size + 1; omega)
        have HO6 := Lib.hid (own_far HO5.out p5 HD1.out 1 (.slice A5 g6.length c5))
        have HN6 : Hid (∀ g ∈ g6, FacO (w5.setCell ⟨w.heap.size + 1, 1, none⟩ (.slice A5 g6.length c5)) w.heap.size g) := fun g hg => (HN5.out g hg).far p5 HD3.out 1 _
        have HB6 := Lib.hid (HS.out.1.trans hbs)
        refine hK.out _ _ ⟨HB6.out, HS.out.2.far (p := ⟨w.heap.size + 1, 1, none⟩) (by show w.heap.size + 1 ≠ wr.heap.size; omega) _⟩ ?_
        clear hK K HS hbs p5 z5 HO5 HN5 hce hfe
        (try simp only [Act.put])
        refine wpOT_done ?_
        go_wp2_with fail
        go_roundw
        case rel => exact ⟨k + 1, A5, c5, g6, by omega, by go_num, z6, p6, HO6, HN6, HC6, HB6⟩
        case measure => simp [intOf]; omega
      · (refine wpOT_solo (o := ?_) ?_ ?_; rotate_left 1; (simp only [List.getElem?_toArray, List.getElem?_cons_succ, List.getElem?_cons_zero]; with_reducible rfl))
        intro K hK
        go_simp
        refine (HCP.out _ HS.out.1).mono ?_
        rintro e w4 ⟨A4, c4, ps, rfl, hpo, hpn, hpc, hb⟩
        have hS : Below w.heap.size w w4 ∧ RowAt w4 wr.heap.size 24 (sv s.t s.A s.fs.length s.c) := ⟨HS.out.1.trans (hb.mono HS.out.1.size), HS.out.2.below hb HS.out.2.lt⟩
        clear HS
        have HS := Lib.hid hS; clear hS
        have p4 := p3.below hb p3.lt
        have z4 := z3.below hb z3.lt
        have HO4 := Lib.hid (own_below HO3.out hb (Nat.le_refl _))
        have HN4 : Hid (∀ g ∈ gs, FacO w4 w.heap.size g) := fun g hg => (HN3.out g hg).below hb (Nat.le_refl _)
        have HPO := Lib.hid hpo
        have HPN := Lib.hid hpn
        have HPC := Lib.hid hpc
        clear hb p3 z3 HO3 HN3 hpo hpn hpc
        refine hK.out _ _ HS.out ?_
        clear hK K
        (try simp only [Act.put, List.setIfInBounds_toArray, List.set_cons_zero, List.set_cons_succ])
        have hc1 := (p4.cell 1).trans rfl
        (refine wpOT_solo (o := ?_) ?_ ?_; rotate_left 1; (simp only [List.getElem?_toArray, List.getElem?_cons_succ, List.getElem?_cons_zero]; with_reducible rfl))
        intro K hK
        go_simp
        refine hK.out _ _ HS.out ?_
        clear hK K
        (try simp only [Act.put, List.setIfInBounds_toArray, List.set_cons_zero, List.set_cons_succ])
        clear hc1
        (refine wpOT_solo (o := ?_) ?_ ?_; rotate_left 1; (simp only [List.getElem?_toArray, List.getElem?_cons_succ, List.getElem?_cons_zero]; with_reducible rfl))
        intro K hK
        rw [if_pos (by rfl)]
        have hpl := core_len HPC.out
        refine wp_appendF _ _ rfl w.heap.size Ar gs.length cr (fscells gs) rfl HO4.out A4 ps.length c4 (fscells ps) rfl (by rw [HPO.out.1]) (Sl.of_own HPO.out) (own_nil HPO.out) (fscells_one ps) (by omega) HS.out.1.size ?_
        intro A5 c5 w5 hown5 hgr
        have hbel : Below w.heap.size w4 w5 := (Below.refl _ _).grown hgr HS.out.1.size (fun k hk => (HO4.out.lt k hk).1)
        have hS : Below w.heap.size w w5 ∧ RowAt w5 wr.heap.size 24 (sv s.t s.A s.fs.length s.c) := ⟨HS.out.1.trans hbel, HS.out.2.grown hgr (own_ne2 HO4.out HS.out.2 HD1.out)⟩
        have p5 := p4.grown hgr (own_ne2 HO4.out p4 HD1.out)
        have z5 := z4.grown hgr (own_ne2 HO4.out z4 HD1.out)
        have HN5 : Hid (∀ g ∈ gs ++ ps, FacO w5 w.heap.size g) := fun g hg => by
          rcases List.mem_append.1 hg with h | h
          · exact (HN4.out g h).grown HO4.out HD2.out hgr
          · exact ((HPN.out g h).mono HB2.out.size).grown HO4.out HD2.out hgr
        have ho6 : w5.ownsRow w.heap.size 36 67 (.slice A5 (gs ++ ps).length c5) (gs ++ ps).length (fscells (gs ++ ps)) := by
          rw [fscells_append, List.length_append]; exact hown5
        have hc6 : (gs ++ ps).map core = (flat (L.take (k + 1))).map core := by rw [List.map_append, HG.out, HPC.out, HFL.out, List.map_append]
        have hl6 : gs.length + ps.length = (gs ++ ps).length := List.length_append.symm
        rw [hl6]
        generalize gs ++ ps = g6 at *
        have HC6 := Lib.hid hc6
        have HO5 := Lib.hid ho6
        clear HS
        have HS := Lib.hid hS
        clear hS hbel hgr hown5 ho6 hc6 hl6 hpl HO4 HN4 HPO HPN HPC p4 z4
        refine hK.out _ _ HS.out ?_
        clear hK K
        (try simp only [Act.put, List.setIfInBounds_toArray, List.set_cons_zero, List.set_cons_succ])
        have hce := (p5.cell 1).trans rfl
        have hfe := p5.free 1
        iterate 1
          (refine wpOT_step (o := ?_) ?_ ?_; rotate_left 1; (simp only [List.getElem?_toArray, List.getElem?_cons_succ, List.getElem?_cons_zero]; with_reducible rfl))
          (first
              | (refine wpOT_skip (by rfl) ?_)
              | (refine wpOT_take (v := ?_) (by rfl) ?_ ?_; rotate_left 1; (intro wx hSx; go_simp; try with_reducible rfl)))
          (try simp only [Act.put, List.setIfInBounds_toArray, List.set_cons_zero, List.set_cons_succ])
        (refine wpOT_solo (o := ?_) ?_ ?_; rotate_left 1; (simp only [List.getElem?_toArray, List.getElem?_cons_succ, List.getElem?_cons_zero]; with_reducible rfl))
        intro K hK
        go_simp
        have p6 : RowAt (w5.setCell ⟨w.heap.size + 1, 1, none⟩ (.slice A5 g6.length c5)) (w.heap.size + 1) 24 (sv true A5 g6.length c5) := p5.put 1 (.slice A5 g6.length c5)
        have z6 := z5.far (p := ⟨w.heap.size + 1, 1, none⟩) (by show w.heap.size + 1 ≠ w.heap.size; omega) (.slice A5 g6.length c5)
        have hbs : Below w.heap.size w5 (w5.setCell ⟨w.heap.size + 1, 1, none⟩ (.slice A5 g6.length c5)) := (Else.setCell w5 ⟨w.heap.size + 1, 1, none⟩ (.slice A5 g6.length c5)).below (by show w.heap.size ≤ w.heap.size + 1; omega)
        have HO6 := Lib.hid (own_far HO5.out p5 HD1.out 1 (.slice A5 g6.length c5))
        have HN6 : Hid (∀ g ∈ g6, FacO (w5.setCell ⟨w.heap.size + 1, 1, none⟩ (.slice A5 g6.length c5)) w.heap.size g) := fun g hg => (HN5.out g hg).far p5 HD3.out 1 _
        have HB6 := Lib.hid (HS.out.1.trans hbs)
        refine hK.out _ _ ⟨HB6.out, HS.out.2.far (p := ⟨w.heap.size + 1, 1, none⟩) (by show w.heap.size + 1 ≠ wr.heap.size; omega) _⟩ ?_
        clear hK K HS hbs p5 z5 HO5 HN5 hce hfe
        (try simp only [Act.put])
        refine wpOT_done ?_
        go_wp2_with fail
        go_roundw
        case rel => exact ⟨k + 1, A5, c5, g6, by omega, by go_num, z6, p6, HO6, HN6, HC6, HB6⟩
        case measure => simp [intOf]; omega
    · have e1 : k = n := by omega
      subst e1
      have hc6 := HG.out
      rw [HFA.out] at hc6
      have HC6 := Lib.hid hc6; clear hc6
      go_wp2_with (first | (refine wpList_loadShape (by rfl) _ rfl (w.heap.size + 1) rfl true Ar gs.length cr p1 ?_) | (refine wpList_storeShape (by rfl) _ _ rfl w.heap.size rfl true Ar gs.length cr rfl _ zero_shape_size z1 ?_; intro w7 q7 he))
      have hrow : RowAt w7 w.heap.size 24 (sv true Ar gs.length cr) := q7
      refine bodyPost_ret (ret_shape rfl _ _ w.heap.size true Ar gs.length cr rfl hrow) rfl ⟨Ar, cr, gs, rfl, ?_, ?_, HC6.out, HB1.out.trans (he.below (Nat.le_refl _))⟩
      · exact own_other (HO.out) he HD1.out z1
      · exact fun g hg => ⟨own_other (HN.out g hg).own he HD3.out z1, (HN.out g hg).rows⟩
end Go.Proofs.YtpgkcddhpeoiiaaDoor
