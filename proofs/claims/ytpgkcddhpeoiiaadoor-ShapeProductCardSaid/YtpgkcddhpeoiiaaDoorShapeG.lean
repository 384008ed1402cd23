/-
  What slices.Clone returns at strings and at factors, and copied of package shape. Conditions: at most 65536 elements.
-/
import Derived.Test.YtpgkcddhpeoiiaaDoorShapeE
import Derived.Lib.SliceRun
namespace Go.Proofs.YtpgkcddhpeoiiaaDoor
open Go.RowKit RM

theorem infoStr : (Tryd.prog.info? 9).map (fun i => (i.zero, i.size, i.bytes)) = some (some (.string ⟨#[]⟩), 1, 16) := by kernel_rfl
theorem infoFac : (Tryd.prog.info? 36).map (fun i => (i.zero, i.size, i.bytes)) = some (some (.agg Tryd.zeroCells36), 67, 552) := by kernel_rfl

set_option maxRecDepth 8000 in
set_option maxHeartbeats 1000000 in
theorem cloneS_any (A : Option Addr) (n c : Nat) (cs : List Value) (w : World) (hl : cs.length = n * 1) (h1 : ∀ u ∈ cs, u.oneCell' = true) (hn : n ≤ 65536) (hA : Sl w w.heap.size A cs) (hnil : A = none → n = 0 ∧ c = 0) :
    Calls Tryd.prog 28 #[.slice A n c] w fun e w' => ∃ A' c', e = .returned (.slice A' n c') ∧ w'.ownsRow w.heap.size 9 1 (.slice A' n c') n cs ∧ Below w.heap.size w w' := by
  have q : ∀ (w : World) (a : Option Addr) (n c n' c' : Nat), (binOp .eql 30 (.slice a n c) (.slice none n' c')).run Tryd.prog w = .ok (.bool a.isNone) w := fun w a n c n' c' => Lib.run_eql_slice_nil w _ _ a n c n' c' Tryd.underlying30
  cases A with
  | none =>
    obtain ⟨rfl, rfl⟩ := hnil rfl
    have hcs : cs = [] := List.eq_nil_of_length_eq_zero (by omega)
    subst hcs
    clear hA hl h1
    go_enter Tryd.func28, Tryd.ntmps28
    go_wp2_with fail
    go_ret
    exact ⟨none, 0, rfl, World.ownsRow_nil _ _ _ _, Below.refl _ _⟩
  | some ad =>
    obtain ⟨i0, hi, hz0, hz1, hz2⟩ := info_parts infoStr
    have HI := Lib.hid hi; have HZ0 := Lib.hid hz0; have HZ1 := Lib.hid hz1; have HZ2 := Lib.hid hz2
    clear hi hz0 hz1 hz2 hnil
    have HNEW : Hid (∀ o j u, cs[j]? = some u → (w.alloc o).cell? (ad.add j) = some u) := fun o j u hj => by
      obtain ⟨b, off, e, _, hc⟩ := hA (fun e => by rw [e] at hj; simp at hj)
      injection e with e
      subst e
      rw [Addr.add_lit]
      exact Lib.cell?_alloc_some _ (hc j u hj)
    have H1 := Lib.hid h1
    clear hA h1
    go_enter Tryd.func28, Tryd.ntmps28
    go_wp2_with (at_builtin; refine wpList_append_own _ rfl _ _ 30 rfl w.heap.size 9 i0 _ 1 16 Tryd.underlying30 HI.out HZ0.out HZ1.out HZ2.out (by kernel_rfl) (by decide) _ _ _ rfl (World.ownsRow_made w #[] 0 (Nat.le_refl _) (Nat.zero_le _) rfl) ad n c cs rfl hl (HNEW.out _) H1.out (by unfold maxLen; omega) (by omega) (by simp) ?_)
    intro v' w1 hown hgrow _
    have hb : Below w.heap.size w w1 := ((Below.refl _ w).alloc (Nat.le_refl _) _).grown hgrow (by simp) (by intro k hk; simp [Value.ownBlock] at hk; omega)
    replace hown : w1.ownsRow w.heap.size 9 1 v' n cs := by simpa using hown
    obtain ⟨A', c', rfl, _, _⟩ := own_form hown
    have HO := Lib.hid hown; have HB := Lib.hid hb
    clear hown hb hgrow
    go_wp2_with fail
    go_ret
    exact ⟨A', c', rfl, HO.out, HB.out⟩

set_option maxRecDepth 8000 in
set_option maxHeartbeats 1000000 in
theorem cloneF_any (A : Option Addr) (n c : Nat) (cs : List Value) (w : World) (hl : cs.length = n * 67) (h1 : ∀ u ∈ cs, u.oneCell' = true) (hn : n ≤ 65536) (hA : Sl w w.heap.size A cs) (hnil : A = none → n = 0 ∧ c = 0) :
    Calls Tryd.prog 27 #[.slice A n c] w fun e w' => ∃ A' c', e = .returned (.slice A' n c') ∧ w'.ownsRow w.heap.size 36 67 (.slice A' n c') n cs ∧ Below w.heap.size w w' := by
  have q : ∀ (w : World) (a : Option Addr) (n c n' c' : Nat), (binOp .eql 22 (.slice a n c) (.slice none n' c')).run Tryd.prog w = .ok (.bool a.isNone) w := fun w a n c n' c' => Lib.run_eql_slice_nil w _ _ a n c n' c' Tryd.underlying22
  cases A with
  | none =>
    obtain ⟨rfl, rfl⟩ := hnil rfl
    have hcs : cs = [] := List.eq_nil_of_length_eq_zero (by omega)
    subst hcs
    clear hA hl h1
    go_enter Tryd.func27, Tryd.ntmps27
    go_wp2_with fail
    go_ret
    exact ⟨none, 0, rfl, World.ownsRow_nil _ _ _ _, Below.refl _ _⟩
  | some ad =>
    obtain ⟨i0, hi, hz0, hz1, hz2⟩ := info_parts infoFac
    have HI := Lib.hid hi; have HZ0 := Lib.hid hz0; have HZ1 := Lib.hid hz1; have HZ2 := Lib.hid hz2
    clear hi hz0 hz1 hz2 hnil
    have HNEW : Hid (∀ o j u, cs[j]? = some u → (w.alloc o).cell? (ad.add j) = some u) := fun o j u hj => by
      obtain ⟨b, off, e, _, hc⟩ := hA (fun e => by rw [e] at hj; simp at hj)
      injection e with e
      subst e
      rw [Addr.add_lit]
      exact Lib.cell?_alloc_some _ (hc j u hj)
    have H1 := Lib.hid h1
    clear hA h1
    go_enter Tryd.func27, Tryd.ntmps27
    go_wp2_with (at_builtin; refine wpList_append_own _ rfl _ _ 22 rfl w.heap.size 36 i0 _ 67 552 Tryd.underlying22 HI.out HZ0.out HZ1.out HZ2.out (by kernel_rfl) (by decide) _ _ _ rfl (World.ownsRow_made w #[] 0 (Nat.le_refl _) (Nat.zero_le _) rfl) ad n c cs rfl hl (HNEW.out _) H1.out (by unfold maxLen; omega) (by omega) (by simp) ?_)
    intro v' w1 hown hgrow _
    have hb : Below w.heap.size w w1 := ((Below.refl _ w).alloc (Nat.le_refl _) _).grown hgrow (by simp) (by intro k hk; simp [Value.ownBlock] at hk; omega)
    replace hown : w1.ownsRow w.heap.size 36 67 v' n cs := by simpa using hown
    obtain ⟨A', c', rfl, _, _⟩ := own_form hown
    have HO := Lib.hid hown; have HB := Lib.hid hb
    clear hown hb hgrow
    go_wp2_with fail
    go_ret
    exact ⟨A', c', rfl, HO.out, HB.out⟩

/-! Rows of the call's own, kept. -/
section
variable {w w' : World} {base base2 size size2 n m : Nat} {e e2 t : TypeId} {v y : Value} {cs ds : List Value} {g : Nat} {rs : Array Value}
theorem own_ne2 (h : w.ownsRow base e size v n cs) (hr : RowAt w g t rs) (ht : e ≠ t) : v.ownBlock ≠ some g := by
  rcases h.2 with ⟨rfl, _⟩ | ⟨g', cap, cur, rfl, _, hh, _⟩
  · simp [Value.ownBlock]
  · intro hx
    have hx' : g' = g := by simpa [Value.ownBlock] using hx
    subst hx'
    have hr' : w.heap[g']? = some (.cells rs t (0, 0)) := hr
    rw [hh] at hr'
    simp only [Option.some.injEq, Obj.cells.injEq] at hr'
    exact ht hr'.2.1
theorem own_ne3 (h : w.ownsRow base e size v n cs) (h2 : w.ownsRow base2 e2 size2 y m ds) (ht : e ≠ e2) {k : Nat} (hk : y.ownBlock = some k) : v.ownBlock ≠ some k := by
  rcases h2.2 with ⟨rfl, _⟩ | ⟨g', cap, cur, rfl, _, hh, _⟩
  · simp [Value.ownBlock] at hk
  · have hk' : g' = k := by simpa [Value.ownBlock] using hk
    subst hk'
    exact own_ne2 h (show RowAt w g' e2 cur from hh) ht
theorem own_far (h : w.ownsRow base e size v n cs) (hr : RowAt w g t rs) (ht : e ≠ t) (o : Nat) (u : Value) : (w.setCell ⟨g, o, none⟩ u).ownsRow base e size v n cs := by
  have hne := own_ne2 h hr ht
  refine ⟨h.1, ?_⟩
  rcases h.2 with hn | ⟨g', cap, cur, rfl, hg, hh, rest⟩
  · exact .inl hn
  · refine .inr ⟨g', cap, cur, rfl, hg, ?_, rest⟩
    have : g ≠ g' := fun e => hne (by simp [Value.ownBlock, e])
    simp only [World.setCell, Array.getElem?_modify, if_neg this]
    exact hh
theorem own_grown (h : w.ownsRow base e size v n cs) (hg : w.grownBy w' y.ownBlock) (hne : ∀ k, y.ownBlock = some k → v.ownBlock ≠ some k) : w'.ownsRow base e size v n cs := by
  refine ⟨h.1, ?_⟩
  rcases h.2 with hn | ⟨g', cap, cur, rfl, hb, hh, rest⟩
  · exact .inl hn
  · have hlt := (Array.getElem?_eq_some_iff.1 hh).1
    refine .inr ⟨g', cap, cur, rfl, hb, (hg.block g' hlt (fun e => ?_)).trans hh, rest⟩
    exact hne g' e.symm (by simp [Value.ownBlock])
theorem own_set {c : Nat} (h : w.ownsRow base e size (.slice (some ⟨g, 0, none⟩) n c) n cs) (j : Nat) (u : Value) :
    (w.setCell ⟨g, j, none⟩ u).ownsRow base e size (.slice (some ⟨g, 0, none⟩) n c) n (cs.set j u) := by
  refine ⟨by rw [List.length_set]; exact h.1, ?_⟩
  rcases h.2 with ⟨hn, _⟩ | ⟨g', cap, cur, hv, hb, hh, h1, h2, h3, h4⟩
  · cases hn
  · injection hv with e1 e2 e3
    injection e1 with e1
    injection e1 with e1
    subst e1 e3
    refine .inr ⟨g, c, cur.setIfInBounds j u, rfl, hb, ?_, h1, h2, by simpa using h3, ?_⟩
    · simp [World.setCell, Array.getElem?_modify, hh]
    · rw [Array.toList_setIfInBounds, List.take_set, h4]
theorem own_row {c : Nat} (h : w.ownsRow base e size (.slice (some ⟨g, 0, none⟩) n c) n cs) : ∃ rs, RowAt w g e rs := by
  rcases h.2 with ⟨hn, _⟩ | ⟨g', cap, cur, hv, hb, hh, _⟩
  · cases hn
  · injection hv with e1 e2 e3
    injection e1 with e1
    injection e1 with e1
    subst e1
    exact ⟨cur, hh⟩
theorem own_free {c : Nat} (h : w.ownsRow base e size (.slice (some ⟨g, 0, none⟩) n c) n cs) (j : Nat) : w.frozen? ⟨g, j, none⟩ = false := by
  obtain ⟨rs, h⟩ := own_row h
  exact h.free j
theorem own_at {c : Nat} (h : w.ownsRow base e size (.slice (some ⟨g, 0, none⟩) n c) n cs) {j : Nat} {u : Value} (hj : cs[j]? = some u) : w.cell? ⟨g, j, none⟩ = some u := by
  obtain ⟨b, o, hA, _, hc⟩ := Sl.of_own h (fun e => by rw [e] at hj; simp at hj)
  injection hA with hA
  injection hA with h1 h2
  subst h1 h2
  have := hc j u hj
  rw [Nat.zero_add] at this
  exact this
end

/-- What a factor is, but for where its names stand. -/
def core (f : Fac) : Fac := { f with A := none, c := 0 }
theorem core_l {f g : Fac} (h : core f = core g) : f.l = g.l := by
  have := congrArg Fac.l h
  exact this
/-- A factor whose names are the call's own. -/
structure FacO (w : World) (B : Nat) (f : Fac) : Prop where
  own : w.ownsRow B 9 1 (.slice f.A f.names.length f.c) f.names.length (scells f.names)
  rows : RW f.l
theorem FacO.ok {w : World} {B : Nat} {f : Fac} (h : FacO w B f) : FacOk w f := by
  obtain ⟨A', c', e, h1, h2⟩ := own_form h.own
  injection e with e1 e2 e3
  refine ⟨Sl.of_own h.own, h.rows, fun hn => ?_, by omega, by omega⟩
  rcases h.own.2 with ⟨e, _⟩ | ⟨g, cap, cur, e, _⟩
  · injection e
  · injection e with e _ _
    rw [hn] at e; cases e
theorem FacO.below {w w' : World} {B k : Nat} {f : Fac} (h : FacO w B f) (hb : Below k w w') (hk : w.heap.size ≤ k) : FacO w' B f := ⟨own_below h.own hb hk, h.rows⟩
theorem FacO.mono {w : World} {B B' : Nat} {f : Fac} (h : FacO w B f) (hb : B' ≤ B) : FacO w B' f := ⟨own_mono h.own hb, h.rows⟩
theorem FacO.far {w : World} {B g : Nat} {t : TypeId} {rs : Array Value} {f : Fac} (h : FacO w B f) (hr : RowAt w g t rs) (ht : 9 ≠ t) (o : Nat) (u : Value) : FacO (w.setCell ⟨g, o, none⟩ u) B f := ⟨own_far h.own hr ht o u, h.rows⟩
theorem FacO.grown {w w' : World} {B B2 size m : Nat} {e : TypeId} {y : Value} {ds : List Value} {f : Fac} (h : FacO w B f) (hy : w.ownsRow B2 e size y m ds) (ht : 9 ≠ e) (hg : w.grownBy w' y.ownBlock) : FacO w' B f :=
  ⟨own_grown h.own hg fun _ hk => own_ne3 h.own hy ht hk, h.rows⟩
/-- The cells of factors, one of which has its names elsewhere. -/
theorem fscells_set : ∀ (fs : List Fac), (∀ f ∈ fs, RW f.l) → ∀ (k : Nat) (A : Option Addr) (c : Nat), k < fs.length →
    (fscells fs).set (k * 67 + 1) (.slice A (fs.getD k f0).names.length c) = fscells (fs.set k { fs.getD k f0 with A := A, c := c })
  | [], _, k, _, _, h => by simp at h
  | f :: fs, h, 0, A, c, _ => by
    rw [fscells_cons, List.getD_cons_zero, List.set_cons_zero, fscells_cons]
    rfl
  | f :: fs, h, k + 1, A, c, hk => by
    have h1 := fcells_length f (h f (by simp))
    rw [fscells_cons, List.getD_cons_succ, List.set_cons_succ, fscells_cons, List.set_append_right _ _ (by rw [h1]; omega), h1, show (k + 1) * 67 + 1 - 67 = k * 67 + 1 by omega,
      fscells_set fs (fun g hg => h g (by simp [hg])) k A c (by simpa using hk)]
theorem core_len {fs gs : List Fac} (h : gs.map core = fs.map core) : gs.length = fs.length := by simpa using congrArg List.length h
/-- The first k have names of their own, the others are those of fs. -/
structure Part (w : World) (B : Nat) (fs gs : List Fac) (k : Nat) : Prop where
  len : gs.length = fs.length
  same : gs.map core = fs.map core
  own : ∀ i, i < k → i < gs.length → FacO w B (gs.getD i f0)
  rest : ∀ i, k ≤ i → gs.getD i f0 = fs.getD i f0
theorem Part.zero (w : World) (B : Nat) (fs : List Fac) : Part w B fs fs 0 := ⟨rfl, rfl, fun i h => by omega, fun _ _ => rfl⟩
theorem Part.below {w w' : World} {B q k : Nat} {fs gs : List Fac} (h : Part w B fs gs k) (hb : Below q w w') (hq : w.heap.size ≤ q) : Part w' B fs gs k := ⟨h.len, h.same, fun i h1 h2 => (h.own i h1 h2).below hb hq, h.rest⟩
theorem Part.far {w : World} {B g k : Nat} {t : TypeId} {rs : Array Value} {fs gs : List Fac} (h : Part w B fs gs k) (hr : RowAt w g t rs) (ht : 9 ≠ t) (o : Nat) (u : Value) : Part (w.setCell ⟨g, o, none⟩ u) B fs gs k :=
  ⟨h.len, h.same, fun i h1 h2 => (h.own i h1 h2).far hr ht o u, h.rest⟩
theorem getD_set_fac (gs : List Fac) (k i : Nat) (f : Fac) (hk : k < gs.length) : (gs.set k f).getD i f0 = if k = i then f else gs.getD i f0 := by
  rw [List.getD_eq_getElem?_getD, List.getElem?_set, List.getD_eq_getElem?_getD]
  by_cases e : k = i
  · subst e; simp [hk]
  · simp [e]
theorem Part.next {w : World} {B k : Nat} {fs gs : List Fac} (h : Part w B fs gs k) (hk : k < gs.length) (A : Option Addr) (c : Nat) (ho : FacO w B { gs.getD k f0 with A := A, c := c }) :
    Part w B fs (gs.set k { gs.getD k f0 with A := A, c := c }) (k + 1) where
  len := by rw [List.length_set]; exact h.len
  same := by
    rw [← h.same, List.map_set]
    have e : core { gs.getD k f0 with A := A, c := c } = core (gs.getD k f0) := rfl
    rw [e, List.getD_eq_getElem?_getD, List.getElem?_eq_getElem hk]
    refine List.ext_getElem (by simp) fun i h1 h2 => ?_
    rw [List.getElem_set]
    split
    · rename_i e2; subst e2; simp
    · rfl
  own i hi hl := by
    rw [getD_set_fac gs k i _ hk]
    split
    · exact ho
    · exact h.own i (by omega) (by simpa using hl)
  rest i hi := by
    rw [getD_set_fac gs k i _ hk, if_neg (by omega)]
    exact h.rest i (by omega)
theorem Part.all {w : World} {B : Nat} {fs gs : List Fac} (h : Part w B fs gs fs.length) : ∀ f ∈ gs, FacO w B f := fun f hf => by
  obtain ⟨i, hi, rfl⟩ := List.mem_iff_getElem.1 hf
  have := h.own i (by rw [← h.len]; exact hi) hi
  rw [List.getD_eq_getElem?_getD, List.getElem?_eq_getElem hi] at this
  exact this

set_option maxRecDepth 8000 in
set_option maxHeartbeats 2000000 in
theorem copied_any (A : Option Addr) (c : Nat) (fs : List Fac) (w : World) (hF : Facs w A fs) (hn : fs.length ≤ 65536) (hm : ∀ f ∈ fs, f.names.length ≤ 65536) (hnil : A = none → c = 0) :
    Calls Tryd.prog 18 #[.slice A fs.length c] w fun e w' => ∃ A' c' gs, e = .returned (.slice A' gs.length c') ∧ w'.ownsRow w.heap.size 36 67 (.slice A' gs.length c') gs.length (fscells gs) ∧
      (∀ g ∈ gs, FacO w' w.heap.size g) ∧ gs.map core = fs.map core ∧ Below w.heap.size w w' := by
  have hlen := fscells_length fs hF.rw
  have HCL : Hid (Calls Tryd.prog 27 #[.slice A fs.length c] w fun e w' => ∃ A' c', e = .returned (.slice A' fs.length c') ∧ w'.ownsRow w.heap.size 36 67 (.slice A' fs.length c') fs.length (fscells fs) ∧ Below w.heap.size w w') :=
    cloneF_any A fs.length c (fscells fs) w hlen (fscells_one fs) hn hF.sl (fun h => by
      refine ⟨?_, hnil h⟩
      by_cases e : fscells fs = []
      · rw [e, List.length_nil] at hlen
        omega
      · obtain ⟨b, o, h2, _⟩ := hF.sl e
        rw [h] at h2
        cases h2)
  have HF : Hid (∀ W, Below w.heap.size w W → Facs W A fs) := fun W h => hF.below h
  have HRW := Lib.hid hF.rw
  have HM := Lib.hid hm
  have HND : Hid (9 ≠ 36) := by show (9 : Nat) ≠ 36; decide
  clear hF hm hnil hlen
  generalize hN : fs.length = n at *
  have HN := Lib.hid hN; clear hN
  go_enter Tryd.func18, Tryd.ntmps18
  go_wp2_with fail
  refine HCL.out.mono ?_
  rintro e w1 ⟨A1, c1, rfl, hown, hb⟩
  have HO := Lib.hid hown; have HB1 := Lib.hid hb
  have HP : Hid (Part w1 w.heap.size fs fs 0) := Part.zero _ _ _
  clear hown hb HCL
  go_wp2_with fail
  go_loopw [4, 9] (fun _ kv wr => ∃ (k : Nat) (gs : List Fac), k ≤ n ∧ kv = .int .i64 k ∧ Hid (wr.ownsRow w.heap.size 36 67 (.slice A1 n c1) n (fscells gs)) ∧ Hid (Part wr w.heap.size fs gs k) ∧ Hid (Below w.heap.size w wr)) (fun _ kv _ => n - (intOf kv).toNat)
  case atStart => exact ⟨0, fs, by omega, rfl, HO, HP, HB1⟩
  case round =>
    clear HO HP HB1
    obtain ⟨k, gs, hk, rfl, HO, HP, HB1⟩ := hrel
    have hgl : gs.length = n := HP.out.len.trans HN.out
    by_cases hlt : k < n
    · obtain ⟨g, rfl⟩ : ∃ g, A1 = some ⟨g, 0, none⟩ := by
        rcases HO.out.2 with ⟨_, h⟩ | ⟨g, cap, cur, e, _⟩
        · omega
        · injection e with e _ _
          exact ⟨g, e⟩
      have hres := HP.out.rest k (Nat.le_refl _)
      have hrw : ∀ f ∈ gs, RW f.l := fun f hf => by
        have h1 : core f ∈ gs.map core := List.mem_map_of_mem hf
        rw [HP.out.same] at h1
        obtain ⟨f2, h2, h3⟩ := List.mem_map.1 h1
        have h4 := HRW.out f2 h2
        have h5 : f2.l = f.l := core_l h3
        rw [← h5]; exact h4
      have hcell : wr.cell? ⟨g, k * 67 + 1, none⟩ = some (.slice (gs.getD k f0).A (gs.getD k f0).names.length (gs.getD k f0).c) := own_at HO.out ((fscells_at gs hrw k 1 (by omega) (by omega)).trans rfl)
      have hset := fun A2 c2 => fscells_set gs hrw k A2 c2 (by omega)
      have HSET := Lib.hid hset; clear hset
      have hok : FacOk wr (fs.getD k f0) := (HF.out _ HB1.out).okAt (by rw [HN.out]; exact hlt)
      have hmk : (fs.getD k f0).names.length ≤ 65536 := HM.out _ (getD_mem (by rw [HN.out]; exact hlt))
      rw [← hres] at hok hmk
      have HCS : Hid (Calls Tryd.prog 28 #[.slice (gs.getD k f0).A (gs.getD k f0).names.length (gs.getD k f0).c] wr fun e w' => ∃ A' c', e = .returned (.slice A' (gs.getD k f0).names.length c') ∧ w'.ownsRow wr.heap.size 9 1 (.slice A' (gs.getD k f0).names.length c') (gs.getD k f0).names.length (scells (gs.getD k f0).names) ∧ Below wr.heap.size wr w') :=
        cloneS_any _ _ _ _ wr (by simp [scells]) (fun u hu => by obtain ⟨x, _, rfl⟩ := List.mem_map.1 hu; rfl) hmk hok.strs (fun h => ⟨by have h1 := hok.cap; have h2 := hok.nil h; omega, hok.nil h⟩)
      have HRK : Hid (RW (gs.getD k f0).l) := hrw _ (getD_mem (by omega))
      clear hok hmk hres hrw
      generalize hf : gs.getD k f0 = f at *
      have HFK := Lib.hid hf; clear hf
      go_wp2_with fail
      refine HCS.out.mono ?_
      rintro e w2 ⟨A2, c2, rfl, hown2, hb⟩
      have ho2 := own_below HO.out hb (Nat.le_refl _)
      have hp2 := HP.out.below hb (Nat.le_refl _)
      have hB2 := HB1.out.trans (hb.mono HB1.out.size)
      have hfo : FacO w2 w.heap.size { f with A := A2, c := c2 } := ⟨own_mono hown2 HB1.out.size, HRK.out⟩
      have hcell2 := own_at ho2 (j := k * 67 + 1) (u := .slice f.A f.names.length f.c) (by
        rw [← HFK.out]
        exact (fscells_at gs (fun f hf => by
          have h1 : core f ∈ gs.map core := List.mem_map_of_mem hf
          rw [HP.out.same] at h1
          obtain ⟨f2, h2, h3⟩ := List.mem_map.1 h1
          have h4 := HRW.out f2 h2
          have h5 : f2.l = f.l := core_l h3
          rw [← h5]; exact h4) k 1 (by omega) (by omega)).trans rfl)
      have hfree2 := own_free ho2 (k * 67 + 1)
      obtain ⟨rs, hrow⟩ := own_row ho2
      have ho3 := own_set ho2 (k * 67 + 1) (.slice A2 f.names.length c2)
      have hs3 := HSET.out A2 c2
      rw [hs3] at ho3
      have hp3 := hp2.far hrow HND.out (k * 67 + 1) (.slice A2 f.names.length c2)
      have hfo3 := hfo.far hrow HND.out (k * 67 + 1) (.slice A2 f.names.length c2)
      have hp4 := hp3.next (by omega) A2 c2 (by rw [HFK.out]; exact hfo3)
      rw [HFK.out] at hp4
      have hlb := HO.out.lt g rfl
      have hB3 := hB2.trans ((Else.setCell w2 ⟨g, k * 67 + 1, none⟩ (.slice A2 f.names.length c2)).below hlb.1)
      have HO3 := Lib.hid ho3; have HP4 := Lib.hid hp4; have HB3 := Lib.hid hB3
      clear hcell hb ho2 hp2 hB2 hfo hrow ho3 hs3 hp3 hfo3 hp4 hB3 hlb hown2 HO HP HB1
      go_wp2_with fail
      go_roundw
      case rel => exact ⟨k + 1, _, by omega, by go_num, HO3, HP4, HB3⟩
      case measure => simp [intOf]; omega
    · have e1 : k = n := by omega
      subst e1
      go_wp2_with fail
      go_ret
      refine ⟨A1, c1, gs, by rw [hgl]; rfl, by rw [hgl]; exact HO.out, ?_, HP.out.same, HB1.out⟩
      have h2 := HP.out
      rw [← HN.out] at h2
      exact h2.all
end Go.Proofs.YtpgkcddhpeoiiaaDoor
