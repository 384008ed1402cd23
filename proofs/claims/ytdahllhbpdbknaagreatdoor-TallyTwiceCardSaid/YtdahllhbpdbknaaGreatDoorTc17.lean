/- Texts that all the claims need. Conditions: those that each states. -/
import Derived.Great.BuildSlice
import Derived.Lib.SliceRun
import Derived.Test.YtdahllhbpdbknaaGreatDoorTc11
set_option linter.unusedSimpArgs false
set_option linter.unusedVariables false
set_option maxRecDepth 100000
set_option maxHeartbeats 40000000
namespace Go.Proofs.YtdahllhbpdbknaaGreatDoor
section
open Go.RowKit RM
theorem infoStrS : (Tryz.prog.info? 9).map (fun i => (i.zero, i.size, i.bytes)) = some (some (.string ⟨#[]⟩), 1, 16) := by kernel_rfl
theorem infoFac : (Tryz.prog.info? 61).map (fun i => (i.zero, i.size, i.bytes)) = some (some (.agg Tryz.zeroCells61), 67, 552) := by kernel_rfl
theorem cloneS_any (A : Option Addr) (n c : Nat) (cs : List Value) (w : World) (hl : cs.length = n * 1) (h1 : ∀ u ∈ cs, u.oneCell' = true) (hn : n ≤ 65536) (hA : Sl w w.heap.size A cs) (hnil : A = none → n = 0 ∧ c = 0) :
 Calls Tryz.prog 57 #[.slice A n c] w fun e w' => ∃ A' c', e = .returned (.slice A' n c') ∧ w'.ownsRow w.heap.size 9 1 (.slice A' n c') n cs ∧ Below w.heap.size w w' := by
 have q : ∀ (w : World) (a : Option Addr) (n c n' c' : Nat), (binOp .eql 56 (.slice a n c) (.slice none n' c')).run Tryz.prog w = .ok (.bool a.isNone) w := fun w a n c n' c' => Lib.run_eql_slice_nil w _ _ a n c n' c' Tryz.underlying56
 cases A with
 | none =>
   obtain ⟨rfl, rfl⟩ := hnil rfl
   have hcs : cs = [] := List.eq_nil_of_length_eq_zero (by omega)
   subst hcs
   clear hA hl h1
   go_enter Tryz.func57, Tryz.ntmps57
   go_wp2_with fail
   go_ret
   exact ⟨none, 0, rfl, World.ownsRow_nil _ _ _ _, zB _ _⟩
 | some ad =>
   obtain ⟨i0, hi, hz0, hz1, hz2⟩ := info_parts infoStrS
   have HI := zh hi; have HZ0 := zh hz0; have HZ1 := zh hz1; have HZ2 := zh hz2
   clear hi hz0 hz1 hz2 hnil
   have HNEW : Hid (∀ o j u, cs[j]? = some u → (w.alloc o).cell? (ad.add j) = some u) := fun o j u hj => by
    obtain ⟨b, off, e, _, hc⟩ := hA (fun e => by rw [e] at hj; simp at hj)
    injection e with e
    subst e
    rw [Addr.add_lit]
    exact Lib.cell?_alloc_some _ (hc j u hj)
   have H1 := zh h1
   clear hA h1
   go_enter Tryz.func57, Tryz.ntmps57
   go_wp2_with (at_builtin; refine wpList_append_own _ rfl _ _ 56 rfl w.heap.size 9 i0 _ 1 16 Tryz.underlying56 HI.out HZ0.out HZ1.out HZ2.out (by kernel_rfl) (by decide) _ _ _ rfl (World.ownsRow_made w #[] 0 (zL _) (Nat.zero_le _) rfl) ad n c cs rfl hl (HNEW.out _) H1.out (by unfold maxLen; omega) (by omega) (by simp) ?_)
   intro v' w1 hown hgrow _
   have hb : Below w.heap.size w w1 := ((zB _ w).alloc (zL _) _).grown hgrow (by simp) (by intro k hk; simp [Value.ownBlock] at hk; omega)
   replace hown : w1.ownsRow w.heap.size 9 1 v' n cs := by simpa using hown
   obtain ⟨A', c', rfl, _, _⟩ := own_form hown
   have HO := zh hown; have HB := zh hb
   clear hown hb hgrow
   go_wp2_with fail
   go_ret
   exact ⟨A', c', rfl, HO.out, HB.out⟩
theorem cloneF_any (A : Option Addr) (n c : Nat) (cs : List Value) (w : World) (hl : cs.length = n * 67) (h1 : ∀ u ∈ cs, u.oneCell' = true) (hn : n ≤ 65536) (hA : Sl w w.heap.size A cs) (hnil : A = none → n = 0 ∧ c = 0) :
 Calls Tryz.prog 56 #[.slice A n c] w fun e w' => ∃ A' c', e = .returned (.slice A' n c') ∧ w'.ownsRow w.heap.size 61 67 (.slice A' n c') n cs ∧ Below w.heap.size w w' := by
 have q : ∀ (w : World) (a : Option Addr) (n c n' c' : Nat), (binOp .eql 22 (.slice a n c) (.slice none n' c')).run Tryz.prog w = .ok (.bool a.isNone) w := fun w a n c n' c' => Lib.run_eql_slice_nil w _ _ a n c n' c' Tryz.underlying22
 cases A with
 | none =>
   obtain ⟨rfl, rfl⟩ := hnil rfl
   have hcs : cs = [] := List.eq_nil_of_length_eq_zero (by omega)
   subst hcs
   clear hA hl h1
   go_enter Tryz.func56, Tryz.ntmps56
   go_wp2_with fail
   go_ret
   exact ⟨none, 0, rfl, World.ownsRow_nil _ _ _ _, zB _ _⟩
 | some ad =>
   obtain ⟨i0, hi, hz0, hz1, hz2⟩ := info_parts infoFac
   have HI := zh hi; have HZ0 := zh hz0; have HZ1 := zh hz1; have HZ2 := zh hz2
   clear hi hz0 hz1 hz2 hnil
   have HNEW : Hid (∀ o j u, cs[j]? = some u → (w.alloc o).cell? (ad.add j) = some u) := fun o j u hj => by
    obtain ⟨b, off, e, _, hc⟩ := hA (fun e => by rw [e] at hj; simp at hj)
    injection e with e
    subst e
    rw [Addr.add_lit]
    exact Lib.cell?_alloc_some _ (hc j u hj)
   have H1 := zh h1
   clear hA h1
   go_enter Tryz.func56, Tryz.ntmps56
   go_wp2_with (at_builtin; refine wpList_append_own _ rfl _ _ 22 rfl w.heap.size 61 i0 _ 67 552 Tryz.underlying22 HI.out HZ0.out HZ1.out HZ2.out (by kernel_rfl) (by decide) _ _ _ rfl (World.ownsRow_made w #[] 0 (zL _) (Nat.zero_le _) rfl) ad n c cs rfl hl (HNEW.out _) H1.out (by unfold maxLen; omega) (by omega) (by simp) ?_)
   intro v' w1 hown hgrow _
   have hb : Below w.heap.size w w1 := ((zB _ w).alloc (zL _) _).grown hgrow (by simp) (by intro k hk; simp [Value.ownBlock] at hk; omega)
   replace hown : w1.ownsRow w.heap.size 61 67 v' n cs := by simpa using hown
   obtain ⟨A', c', rfl, _, _⟩ := own_form hown
   have HO := zh hown; have HB := zh hb
   clear hown hb hgrow
   go_wp2_with fail
   go_ret
   exact ⟨A', c', rfl, HO.out, HB.out⟩
section
variable {w w' : World} {base base2 size size2 n m : Nat} {e e2 t : TypeId} {v y : Value} {cs ds : List Value} {g : Nat} {rs : Array Value}
theorem own_ne2 (h : w.ownsRow base e size v n cs) (hr : RowAt w g t rs) (ht : e ≠ t) : v.ownBlock ≠ some g := by
 rcases h.2 with ⟨rfl, _⟩ | ⟨g', cap, cur, rfl, _, hh, _⟩
 ·simp [Value.ownBlock]
 ·intro hx
  have hx' : g' = g := by simpa [Value.ownBlock] using hx
  subst hx'
  have hr' : w.heap[g']? = some (.cells rs t (0, 0)) := hr
  rw [hh] at hr'
  simp only [Option.some.injEq, Obj.cells.injEq] at hr'
  exact ht hr'.2.1
theorem own_ne3 (h : w.ownsRow base e size v n cs) (h2 : w.ownsRow base2 e2 size2 y m ds) (ht : e ≠ e2) {k : Nat} (hk : y.ownBlock = some k) : v.ownBlock ≠ some k := by
 rcases h2.2 with ⟨rfl, _⟩ | ⟨g', cap, cur, rfl, _, hh, _⟩
 ·simp [Value.ownBlock] at hk
 ·have hk' : g' = k := by simpa [Value.ownBlock] using hk
  subst hk'
  exact own_ne2 h (show RowAt w g' e2 cur from hh) ht
theorem ownS_far (h : w.ownsRow base e size v n cs) (hr : RowAt w g t rs) (ht : e ≠ t) (o : Nat) (u : Value) : (w.setCell ⟨g, o, none⟩ u).ownsRow base e size v n cs := by
 have hne := own_ne2 h hr ht
 refine ⟨h.1, ?_⟩
 rcases h.2 with hn | ⟨g', cap, cur, rfl, hg, hh, rest⟩
 ·exact .inl hn
 ·refine .inr ⟨g', cap, cur, rfl, hg, ?_, rest⟩
  have : g ≠ g' := fun e => hne (by simp [Value.ownBlock, e])
  simp only [World.setCell, Array.getElem?_modify, if_neg this]
  exact hh
theorem own_grown (h : w.ownsRow base e size v n cs) (hg : w.grownBy w' y.ownBlock) (hne : ∀ k, y.ownBlock = some k → v.ownBlock ≠ some k) : w'.ownsRow base e size v n cs := by
 refine ⟨h.1, ?_⟩
 rcases h.2 with hn | ⟨g', cap, cur, rfl, hb, hh, rest⟩
 ·exact .inl hn
 ·have hlt := (Array.getElem?_eq_some_iff.1 hh).1
  refine .inr ⟨g', cap, cur, rfl, hb, (hg.block g' hlt (fun e => ?_)).trans hh, rest⟩
  exact hne g' e.symm (by simp [Value.ownBlock])
theorem ownS_set {c : Nat} (h : w.ownsRow base e size (.slice (some ⟨g, 0, none⟩) n c) n cs) (j : Nat) (u : Value) :
 (w.setCell ⟨g, j, none⟩ u).ownsRow base e size (.slice (some ⟨g, 0, none⟩) n c) n (cs.set j u) := by
 refine ⟨by rw [List.length_set]; exact h.1, ?_⟩
 rcases h.2 with ⟨hn, _⟩ | ⟨g', cap, cur, hv, hb, hh, h1, h2, h3, h4⟩
 ·cases hn
 ·injection hv with e1 e2 e3
  injection e1 with e1
  injection e1 with e1
  subst e1 e3
  refine .inr ⟨g, c, cur.setIfInBounds j u, rfl, hb, ?_, h1, h2, by simpa using h3, ?_⟩
  ·simp [World.setCell, Array.getElem?_modify, hh]
  ·rw [Array.toList_setIfInBounds, List.take_set, h4]
theorem ownS_row {c : Nat} (h : w.ownsRow base e size (.slice (some ⟨g, 0, none⟩) n c) n cs) : ∃ rs, RowAt w g e rs := by
 rcases h.2 with ⟨hn, _⟩ | ⟨g', cap, cur, hv, hb, hh, _⟩
 ·cases hn
 ·injection hv with e1 e2 e3
  injection e1 with e1
  injection e1 with e1
  subst e1
  exact ⟨cur, hh⟩
theorem own_free {c : Nat} (h : w.ownsRow base e size (.slice (some ⟨g, 0, none⟩) n c) n cs) (j : Nat) : w.frozen? ⟨g, j, none⟩ = false := by
 obtain ⟨rs, h⟩ := ownS_row h
 exact h.free j
theorem ownS_at {c : Nat} (h : w.ownsRow base e size (.slice (some ⟨g, 0, none⟩) n c) n cs) {j : Nat} {u : Value} (hj : cs[j]? = some u) : w.cell? ⟨g, j, none⟩ = some u := by
 obtain ⟨b, o, hA, _, hc⟩ := Sl.of_own h (fun e => by rw [e] at hj; simp at hj)
 injection hA with hA
 injection hA with h1 h2
 subst h1 h2
 have := hc j u hj
 rw [Nat.zero_add] at this
 exact this
end
def core (f : Fac) : Fac := { f with A := none, c := 0 }
theorem core_l {f g : Fac} (h : core f = core g) : f.l = g.l := by
 have := congrArg Fac.l h
 exact this
structure FacO (w : World) (B : Nat) (f : Fac) : Prop where
 own : w.ownsRow B 9 1 (.slice f.A f.names.length f.c) f.names.length (scells f.names)
 rows : RW f.l
theorem FacO.ok {w : World} {B : Nat} {f : Fac} (h : FacO w B f) : FacOk w f := by
 obtain ⟨A', c', e, h1, h2⟩ := own_form h.own
 injection e with e1 e2 e3
 refine ⟨Sl.of_own h.own, h.rows, fun hn => ?_, by omega, by omega⟩
 rcases h.own.2 with ⟨e, _⟩ | ⟨g, cap, cur, e, _⟩
 ·injection e
 ·injection e with e _ _
  rw [hn] at e; cases e
theorem FacO.below {w w' : World} {B k : Nat} {f : Fac} (h : FacO w B f) (hb : Below k w w') (hk : w.heap.size ≤ k) : FacO w' B f := ⟨own_below h.own hb hk, h.rows⟩
theorem FacO.mono {w : World} {B B' : Nat} {f : Fac} (h : FacO w B f) (hb : B' ≤ B) : FacO w B' f := ⟨own_mono h.own hb, h.rows⟩
theorem FacO.far {w : World} {B g : Nat} {t : TypeId} {rs : Array Value} {f : Fac} (h : FacO w B f) (hr : RowAt w g t rs) (ht : 9 ≠ t) (o : Nat) (u : Value) : FacO (w.setCell ⟨g, o, none⟩ u) B f := ⟨ownS_far h.own hr ht o u, h.rows⟩
theorem FacO.grown {w w' : World} {B B2 size m : Nat} {e : TypeId} {y : Value} {ds : List Value} {f : Fac} (h : FacO w B f) (hy : w.ownsRow B2 e size y m ds) (ht : 9 ≠ e) (hg : w.grownBy w' y.ownBlock) : FacO w' B f :=
 ⟨own_grown h.own hg fun _ hk => own_ne3 h.own hy ht hk, h.rows⟩
theorem fscells_set : ∀ (fs : List Fac), (∀ f ∈ fs, RW f.l) → ∀ (k : Nat) (A : Option Addr) (c : Nat), k < fs.length →
 (fscells fs).set (k * 67 + 1) (.slice A (fs.getD k f0).names.length c) = fscells (fs.set k { fs.getD k f0 with A := A, c := c })
 | [], _, k, _, _, h => by simp at h
 | f :: fs, h, 0, A, c, _ => by
   rw [fscells_cons, List.getD_cons_zero, zA5, fscells_cons]
   rfl
 | f :: fs, h, k + 1, A, c, hk => by
   have h1 := fcells_length f (h f (by simp))
   rw [fscells_cons, List.getD_cons_succ, zA6, fscells_cons, List.set_append_right _ _ (by rw [h1]; omega), h1, show (k + 1) * 67 + 1 - 67 = k * 67 + 1 by omega,
     fscells_set fs (fun g hg => h g (by simp [hg])) k A c (by simpa using hk)]
theorem core_len {fs gs : List Fac} (h : gs.map core = fs.map core) : gs.length = fs.length := by simpa using congrArg List.length h
structure Part (w : World) (B : Nat) (fs gs : List Fac) (k : Nat) : Prop where
 len : gs.length = fs.length
 same : gs.map core = fs.map core
 own : ∀ i, i < k → i < gs.length → FacO w B (gs.getD i f0)
 rest : ∀ i, k ≤ i → gs.getD i f0 = fs.getD i f0
theorem Part.zero (w : World) (B : Nat) (fs : List Fac) : Part w B fs fs 0 := ⟨rfl, rfl, fun i h => by omega, fun _ _ => rfl⟩
theorem Part.below {w w' : World} {B q k : Nat} {fs gs : List Fac} (h : Part w B fs gs k) (hb : Below q w w') (hq : w.heap.size ≤ q) : Part w' B fs gs k := ⟨h.len, h.same, fun i h1 h2 => (h.own i h1 h2).below hb hq, h.rest⟩
theorem Part.far {w : World} {B g k : Nat} {t : TypeId} {rs : Array Value} {fs gs : List Fac} (h : Part w B fs gs k) (hr : RowAt w g t rs) (ht : 9 ≠ t) (o : Nat) (u : Value) : Part (w.setCell ⟨g, o, none⟩ u) B fs gs k :=
 ⟨h.len, h.same, fun i h1 h2 => (h.own i h1 h2).far hr ht o u, h.rest⟩
theorem getD_set_fac (gs : List Fac) (k i : Nat) (f : Fac) (hk : k < gs.length) : (gs.set k f).getD i f0 = if k = i then f else gs.getD i f0 := by
 rw [List.getD_eq_getElem?_getD, List.getElem?_set, List.getD_eq_getElem?_getD]
 by_cases e : k = i
 ·subst e; simp [hk]
 ·simp [e]
theorem Part.next {w : World} {B k : Nat} {fs gs : List Fac} (h : Part w B fs gs k) (hk : k < gs.length) (A : Option Addr) (c : Nat) (ho : FacO w B { gs.getD k f0 with A := A, c := c }) :
 Part w B fs (gs.set k { gs.getD k f0 with A := A, c := c }) (k + 1) where
 len := by rw [List.length_set]; exact h.len
 same := by
  rw [← h.same, List.map_set]
  have e : core { gs.getD k f0 with A := A, c := c } = core (gs.getD k f0) := rfl
  rw [e, List.getD_eq_getElem?_getD, List.getElem?_eq_getElem hk]
  refine List.ext_getElem (by simp) fun i h1 h2 => ?_
  rw [List.getElem_set]
  split
  ·rename_i e2; subst e2; simp
  ·rfl
 own i hi hl := by
  rw [getD_set_fac gs k i _ hk]
  split
  ·exact ho
  ·exact h.own i (by omega) (by simpa using hl)
 rest i hi := by
  rw [getD_set_fac gs k i _ hk, if_neg (by omega)]
  exact h.rest i (by omega)
theorem Part.all {w : World} {B : Nat} {fs gs : List Fac} (h : Part w B fs gs fs.length) : ∀ f ∈ gs, FacO w B f := fun f hf => by
 obtain ⟨i, hi, rfl⟩ := List.mem_iff_getElem.1 hf
 have := h.own i (by rw [← h.len]; exact hi) hi
 rw [List.getD_eq_getElem?_getD, List.getElem?_eq_getElem hi] at this
 exact this
theorem copied_any (A : Option Addr) (c : Nat) (fs : List Fac) (w : World) (hF : Facs w A fs) (hn : fs.length ≤ 65536) (hm : ∀ f ∈ fs, f.names.length ≤ 65536) (hnil : A = none → c = 0) :
 Calls Tryz.prog 34 #[.slice A fs.length c] w fun e w' => ∃ A' c' gs, e = .returned (.slice A' gs.length c') ∧ w'.ownsRow w.heap.size 61 67 (.slice A' gs.length c') gs.length (fscells gs) ∧
  (∀ g ∈ gs, FacO w' w.heap.size g) ∧ gs.map core = fs.map core ∧ Below w.heap.size w w' := by
 have hlen := fscells_length fs hF.rw
 have HCL : Hid (Calls Tryz.prog 56 #[.slice A fs.length c] w fun e w' => ∃ A' c', e = .returned (.slice A' fs.length c') ∧ w'.ownsRow w.heap.size 61 67 (.slice A' fs.length c') fs.length (fscells fs) ∧ Below w.heap.size w w') :=
  cloneF_any A fs.length c (fscells fs) w hlen (fscells_one fs) hn hF.sl (fun h => by
   refine ⟨?_, hnil h⟩
   by_cases e : fscells fs = []
   ·rw [e, zA9] at hlen
    omega
   ·obtain ⟨b, o, h2, _⟩ := hF.sl e
    rw [h] at h2
    cases h2)
 have HF : Hid (∀ W, Below w.heap.size w W → Facs W A fs) := fun W h => hF.below h
 have HRW := zh hF.rw
 have HM := zh hm
 have HND : Hid (9 ≠ 61) := by show (9 : Nat) ≠ 61; decide
 clear hF hm hnil hlen
 generalize hN : fs.length = n at *
 have HN := zh hN; clear hN
 go_enter Tryz.func34, Tryz.ntmps34
 go_wp2_with fail
 refine HCL.out.mono ?_
 rintro e w1 ⟨A1, c1, rfl, hown, hb⟩
 have HO := zh hown; have HB1 := zh hb
 have HP : Hid (Part w1 w.heap.size fs fs 0) := Part.zero _ _ _
 clear hown hb HCL
 go_wp2_with fail
 go_loopw [4, 9] (fun _ kv wr => ∃ (k : Nat) (gs : List Fac), k ≤ n ∧ kv = .int .i64 k ∧ Hid (wr.ownsRow w.heap.size 61 67 (.slice A1 n c1) n (fscells gs)) ∧ Hid (Part wr w.heap.size fs gs k) ∧ Hid (Below w.heap.size w wr)) (fun _ kv _ => n - (intOf kv).toNat)
 case atStart => exact ⟨0, fs, by omega, rfl, HO, HP, HB1⟩
 case round =>
  clear HO HP HB1
  obtain ⟨k, gs, hk, rfl, HO, HP, HB1⟩ := hrel
  have hgl : gs.length = n := HP.out.len.trans HN.out
  by_cases hlt : k < n
  ·obtain ⟨g, rfl⟩ : ∃ g, A1 = some ⟨g, 0, none⟩ := by
        rcases HO.out.2 with ⟨_, h⟩ | ⟨g, cap, cur, e, _⟩
        ·omega
        ·injection e with e _ _
         exact ⟨g, e⟩
   have hres := HP.out.rest k (zL _)
   have hrw : ∀ f ∈ gs, RW f.l := fun f hf => by
        have h1 : core f ∈ gs.map core := List.mem_map_of_mem hf
        rw [HP.out.same] at h1
        obtain ⟨f2, h2, h3⟩ := List.mem_map.1 h1
        have h4 := HRW.out f2 h2
        have h5 : f2.l = f.l := core_l h3
        rw [← h5]; exact h4
   have hcell : wr.cell? ⟨g, k * 67 + 1, none⟩ = some (.slice (gs.getD k f0).A (gs.getD k f0).names.length (gs.getD k f0).c) := ownS_at HO.out ((fscells_at gs hrw k 1 (by omega) (by omega)).trans rfl)
   have hset := fun A2 c2 => fscells_set gs hrw k A2 c2 (by omega)
   have HSET := zh hset; clear hset
   have hok : FacOk wr (fs.getD k f0) := (HF.out _ HB1.out).okAt (by rw [HN.out]; exact hlt)
   have hmk : (fs.getD k f0).names.length ≤ 65536 := HM.out _ (getD_memF (by rw [HN.out]; exact hlt))
   rw [← hres] at hok hmk
   have HCS : Hid (Calls Tryz.prog 57 #[.slice (gs.getD k f0).A (gs.getD k f0).names.length (gs.getD k f0).c] wr fun e w' => ∃ A' c', e = .returned (.slice A' (gs.getD k f0).names.length c') ∧ w'.ownsRow wr.heap.size 9 1 (.slice A' (gs.getD k f0).names.length c') (gs.getD k f0).names.length (scells (gs.getD k f0).names) ∧ Below wr.heap.size wr w') :=
        cloneS_any _ _ _ _ wr (by simp [scells]) (fun u hu => by obtain ⟨x, _, rfl⟩ := List.mem_map.1 hu; rfl) hmk hok.strs (fun h => ⟨by have h1 := hok.cap; have h2 := hok.nil h; omega, hok.nil h⟩)
   have HRK : Hid (RW (gs.getD k f0).l) := hrw _ (getD_memF (by omega))
   clear hok hmk hres hrw
   generalize hf : gs.getD k f0 = f at *
   have HFK := zh hf; clear hf
   go_wp2_with fail
   refine HCS.out.mono ?_
   rintro e w2 ⟨A2, c2, rfl, hown2, hb⟩
   have ho2 := own_below HO.out hb (zL _)
   have hp2 := HP.out.below hb (zL _)
   have hB2 := HB1.out.trans (hb.mono HB1.out.size)
   have hfo : FacO w2 w.heap.size { f with A := A2, c := c2 } := ⟨own_mono hown2 HB1.out.size, HRK.out⟩
   have hcell2 := ownS_at ho2 (j := k * 67 + 1) (u := .slice f.A f.names.length f.c) (by
        rw [← HFK.out]
        exact (fscells_at gs (fun f hf => by
         have h1 : core f ∈ gs.map core := List.mem_map_of_mem hf
         rw [HP.out.same] at h1
         obtain ⟨f2, h2, h3⟩ := List.mem_map.1 h1
         have h4 := HRW.out f2 h2
         have h5 : f2.l = f.l := core_l h3
         rw [← h5]; exact h4) k 1 (by omega) (by omega)).trans rfl)
   have hfree2 := own_free ho2 (k * 67 + 1)
   obtain ⟨rs, hrow⟩ := ownS_row ho2
   have ho3 := ownS_set ho2 (k * 67 + 1) (.slice A2 f.names.length c2)
   have hs3 := HSET.out A2 c2
   rw [hs3] at ho3
   have hp3 := hp2.far hrow HND.out (k * 67 + 1) (.slice A2 f.names.length c2)
   have hfo3 := hfo.far hrow HND.out (k * 67 + 1) (.slice A2 f.names.length c2)
   have hp4 := hp3.next (by omega) A2 c2 (by rw [HFK.out]; exact hfo3)
   rw [HFK.out] at hp4
   have hlb := HO.out.lt g rfl
   have hB3 := hB2.trans ((Else.setCell w2 ⟨g, k * 67 + 1, none⟩ (.slice A2 f.names.length c2)).below hlb.1)
   have HO3 := zh ho3; have HP4 := zh hp4; have HB3 := zh hB3
   clear hcell hb ho2 hp2 hB2 hfo hrow ho3 hs3 hp3 hfo3 hp4 hB3 hlb hown2 HO HP HB1
   go_wp2_with fail
   go_roundw
   case rel => exact ⟨k + 1, _, by omega, by go_num, HO3, HP4, HB3⟩
   case measure => simp [intOf]; omega
  ·have e1 : k = n := by omega
   subst e1
   go_wp2_with fail
   go_ret
   refine ⟨A1, c1, gs, by rw [hgl]; rfl, by rw [hgl]; exact HO.out, ?_, HP.out.same, HB1.out⟩
   have h2 := HP.out
   rw [← HN.out] at h2
   exact h2.all
end
section
open Go.RowKit RM
theorem own_nil {w : World} {base size m c : Nat} {e : TypeId} {A : Option Addr} {cs : List Value} (h : w.ownsRow base e size (.slice A m c) m cs) : A = none → m = 0 ∧ c = 0 := fun hn => by
 rcases h.2 with ⟨e, h0⟩ | ⟨g, cap, cur, e, _⟩
 ·injection e with _ _ e3
  exact ⟨h0, e3⟩
 ·injection e with e _ _
  rw [hn] at e; cases e
theorem wp_appendF {o : Oper} {a : Act} {w : World} {K : Act → World → Prop} {Q : Exit → Act → World → Prop} (s x : Operand) (ho : o.op = .call { callee := .builtin .append, args := #[s, x], argTypes := #[22, 22] })
 (base : Nat) (Ar : Option Addr) (n cr : Nat) (cs : List Value) (hs : a.eval s = .slice Ar n cr) (hown : w.ownsRow base 61 67 (.slice Ar n cr) n cs)
 (A' : Option Addr) (m c' : Nat) (news : List Value) (hx : a.eval x = .slice A' m c') (hl : news.length = m * 67) (hn : Sl w w.heap.size A' news) (hnil : A' = none → m = 0 ∧ c' = 0) (h1 : ∀ u ∈ news, u.oneCell' = true)
 (hb : n + m ≤ 131072) (hbase : base ≤ w.heap.size)
 (h : ∀ A2 c2 w', w'.ownsRow base 61 67 (.slice A2 (n + m) c2) (n + m) (cs ++ news) → w.grownBy w' (Value.slice Ar n cr).ownBlock → K (a.put o.dst (.slice A2 (n + m) c2)) w') : o.wp Tryz.prog a w K Q := by
 obtain ⟨i0, hi, hz0, hz1, hz2⟩ := info_parts infoFac
 cases A' with
 | some ad =>
   refine wp_append_own w s x 22 ho base 61 i0 _ 67 552 Tryz.underlying22 hi hz0 hz1 hz2 (by kernel_rfl) (by decide) _ n cs hs hown ad m c' news hx hl (fun j u hj => ?_) h1 (by unfold maxLen; omega) (by omega) hbase ?_
   ·obtain ⟨b, off, e, _, hc⟩ := hn (fun e => by rw [e] at hj; simp at hj)
    injection e with e
    subst e
    rw [Addr.add_lit]
    exact hc j u hj
   ·intro v' w' h2 h3 _
    obtain ⟨A2, c2, rfl, _, _⟩ := own_form h2
    exact h A2 c2 w' h2 h3
 | none =>
   obtain ⟨rfl, rfl⟩ := hnil rfl
   have hnews : news = [] := List.eq_nil_of_length_eq_zero (by omega)
   subst hnews
   have hrun := run_append_owned_none (P := Tryz.prog) (w := w) base 22 o.type 61 i0 67 Tryz.underlying22 hi (.slice Ar n cr) n cs hown
   have h2 : K (a.put o.dst (.slice Ar n cr)) w := by simpa using h Ar cr w (by simpa using hown) ⟨rfl, rfl, rfl, zL _, fun _ _ _ => rfl⟩
   unfold Oper.wp
   simp [execOp, ho, resolve, invoke, builtin, hs, hx, hrun, Result.andThen]
   exact h2
theorem own_other {w w' : World} {base size n g : Nat} {e t : TypeId} {v : Value} {cs : List Value} {rs : Array Value} (h : w.ownsRow base e size v n cs) (he : Else g w w') (ht : e ≠ t) (hr : RowAt w g t rs) : w'.ownsRow base e size v n cs := by
 have hne := own_ne2 h hr ht
 refine ⟨h.1, ?_⟩
 rcases h.2 with hn | ⟨g', cap, cur, rfl, hg, hh, rest⟩
 ·exact .inl hn
 ·exact .inr ⟨g', cap, cur, rfl, hg, (he.block g' (fun e => hne (by simp [Value.ownBlock, e]))).trans hh, rest⟩
structure Shp where
 t : Bool
 A : Option Addr
 c : Nat
 fs : List Fac
def s0 : Shp := ⟨false, none, 0, []⟩
def flat (L : List Shp) : List Fac := L.flatMap fun s => s.fs
def shc (s : Shp) : List Value := [.bool s.t, .slice s.A s.fs.length s.c]
def shcells (L : List Shp) : List Value := L.flatMap shc
theorem shcells_cons (s : Shp) (L : List Shp) : shcells (s :: L) = shc s ++ shcells L := by simp [shcells]
theorem shcells_at : ∀ (L : List Shp) (i j : Nat), i < L.length → j < 2 → (shcells L)[i * 2 + j]? = (shc (L.getD i s0))[j]?
 | [], i, j, hi, _ => by simp at hi
 | s :: L, 0, j, _, hj => by
   rw [shcells_cons, List.getElem?_append_left (by simp [shc]; omega)]
   simp
 | s :: L, i + 1, j, hi, hj => by
   rw [shcells_cons, List.getElem?_append_right (by simp [shc]; omega), show (i + 1) * 2 + j - (shc s).length = i * 2 + j by simp [shc]; omega]
   exact shcells_at L i j (by simpa using hi) hj
theorem flat_take (L : List Shp) (k : Nat) (h : k < L.length) : flat (L.take (k + 1)) = flat (L.take k) ++ (L.getD k s0).fs := by
 unfold flat
 rw [List.take_succ_eq_append_getElem h, List.flatMap_append, List.getD_eq_getElem?_getD, List.getElem?_eq_getElem h]
 simp
structure ShOk (w : World) (s : Shp) : Prop where
 facs : Facs w s.A s.fs
 nil : s.A = none → s.c = 0
 few : s.fs.length ≤ 65536
 names : ∀ f ∈ s.fs, f.names.length ≤ 65536
theorem ShOk.below {w w' : World} {s : Shp} (h : ShOk w s) (hb : Below w.heap.size w w') : ShOk w' s := ⟨h.facs.below hb, h.nil, h.few, h.names⟩
theorem sget_mem {L : List Shp} {i : Nat} (hi : i < L.length) : L.getD i s0 ∈ L := by
 rw [List.getD_eq_getElem?_getD, List.getElem?_eq_getElem hi]
 exact List.getElem_mem hi
theorem flat_len (L : List Shp) (k : Nat) : (flat (L.take k)).length ≤ (flat L).length := by
 have : flat L = flat (L.take k) ++ flat (L.drop k) := by
  unfold flat
  rw [← List.flatMap_append, List.take_append_drop]
 rw [this, zA7]
 omega
theorem shinfo : (Tryz.prog.info? 24).map (·.size) = some 2 := by kernel_rfl
section
variable {ops : Array Oper} {rest : List Oper} {o : Oper} {a : Act} {w : World} {Q : Exit → Act → World → Prop}
theorem wpList_loadShapeIn (hgd : Region.wanted o (yielded ops a.tmps) = true) (x : Operand) (ho : o.op = .load 24 x) (b k : Nat) (hx : a.eval x = .pointer (some ⟨b, k, none⟩))
 (s : Shp) (hg : w.rangeAt b k (shc s)) (h : wpList Tryz.prog ops Q rest (a.put o.dst (.agg (sv s.t s.A s.fs.length s.c))) w) : wpList Tryz.prog ops Q (o :: rest) a w :=
 wpList_wanted hgd fun _ hK => wp_load_mid _ x ho b k hx (shc s) _ hg Tryz.underlying24 rfl shinfo (hK _ _ h)
end
theorem zero_shape_size : (sv false none 0 0).size = 2 := rfl
theorem product_any (A : Option Addr) (c : Nat) (L : List Shp) (w : World) (hL : Sl w w.heap.size A (shcells L)) (hok : ∀ s ∈ L, ShOk w s) (hlen : L.length ≤ 65536) (hsum : (flat L).length ≤ 65536) :
 Calls Tryz.prog 18 #[.slice A L.length c] w fun e w' => ∃ A' c' gs, e = .returned (.agg (sv true A' gs.length c')) ∧ w'.ownsRow w.heap.size 61 67 (.slice A' gs.length c') gs.length (fscells gs) ∧
  (∀ g ∈ gs, FacO w' w.heap.size g) ∧ gs.map core = (flat L).map core ∧ Below w.heap.size w w' := by
 have HD1 : Hid (61 ≠ 24) := by show (61 : Nat) ≠ 24; decide
 have HD2 : Hid (9 ≠ 61) := by show (9 : Nat) ≠ 61; decide
 have HD3 : Hid (9 ≠ 24) := by show (9 : Nat) ≠ 24; decide
 have HL : Hid (∀ W, Below w.heap.size w W → Sl W w.heap.size A (shcells L)) := fun W h => Sl.below hL h
 have HOK : Hid (∀ W, Below w.heap.size w W → ∀ k, k < L.length → ShOk W (L.getD k s0)) := fun W h k hk => (hok _ (sget_mem hk)).below h
 have HAT : Hid (∀ k, k < L.length → ∀ j u, (shc (L.getD k s0))[j]? = some u → (shcells L)[k * 2 + j]? = some u) := fun k hk j u hu => by
  have hj : j < 2 := by have := (List.getElem?_eq_some_iff.1 hu).1; simpa [shc] using this
  rw [shcells_at L k j hk hj]; exact hu
 have HFT : Hid (∀ k, k < L.length → flat (L.take (k + 1)) = flat (L.take k) ++ (L.getD k s0).fs) := flat_take L
 have HFN : Hid (∀ k, (flat (L.take k)).length ≤ 65536) := fun k => zM (flat_len L k) hsum
 have HFA : Hid (flat (L.take L.length) = flat L) := by rw [List.take_length]; exact rfl
 have HF0 : Hid (flat (L.take 0) = []) := rfl
 clear hL hok hsum
 generalize hn : L.length = n at *
 clear hn
 go_enter Tryz.func18, Tryz.ntmps18
 go_wp2_with fail
 have z1 : RowAt ((w.alloc (.cells (sv false none 0 0) 24)).alloc (.cells (sv true none 0 0) 24)) w.heap.size 24 (sv false none 0 0) := (RowAt.new w _ _).alloc _
 have p1 : RowAt ((w.alloc (.cells (sv false none 0 0) 24)).alloc (.cells (sv true none 0 0) 24)) (w.heap.size + 1) 24 (sv true none 0 0) := by
  have := RowAt.new (w.alloc (.cells (sv false none 0 0) 24)) 24 (sv true none 0 0)
  simpa using this
 have HB1 : Hid (Below w.heap.size w ((w.alloc (.cells (sv false none 0 0) 24)).alloc (.cells (sv true none 0 0) 24))) := ((zB _ w).alloc (zL _) _).alloc (by simp) _
 have HE1 : Hid (∀ g ∈ ([] : List Fac), FacO ((w.alloc (.cells (sv false none 0 0) 24)).alloc (.cells (sv true none 0 0) 24)) w.heap.size g) := fun g hg => by cases hg
 have HO1 : Hid (((w.alloc (.cells (sv false none 0 0) 24)).alloc (.cells (sv true none 0 0) 24)).ownsRow w.heap.size 61 67 (.slice none ([] : List Fac).length 0) ([] : List Fac).length (fscells [])) := World.ownsRow_nil _ _ _ _
 have HG1 : Hid (([] : List Fac).map core = (flat (L.take 0)).map core) := by
  show ([] : List Fac).map core = (flat (L.take 0)).map core
  rw [HF0.out]
 go_loopw [5, 9] (fun _ kv wr => ∃ (k : Nat) (Ar : Option Addr) (cr : Nat) (gs : List Fac), k ≤ n ∧ kv = .int .i64 k ∧ RowAt wr w.heap.size 24 (sv false none 0 0) ∧ RowAt wr (w.heap.size + 1) 24 (sv true Ar gs.length cr) ∧
  Hid (wr.ownsRow w.heap.size 61 67 (.slice Ar gs.length cr) gs.length (fscells gs)) ∧ Hid (∀ g ∈ gs, FacO wr w.heap.size g) ∧ Hid (gs.map core = (flat (L.take k)).map core) ∧ Hid (Below w.heap.size w wr)) (fun _ kv _ => n - (intOf kv).toNat)
 case atStart => exact ⟨0, none, 0, [], by omega, rfl, z1, p1, HO1, HE1, HG1, HB1⟩
 case round =>
  clear z1 p1 HB1 HO1 HE1 HG1
  obtain ⟨k, Ar, cr, gs, hk, rfl, z1, p1, HO, HN, HG, HB1⟩ := hrel
  by_cases hlt : k < n
  ·have hs := HOK.out _ HB1.out k hlt
   have hsl := HL.out _ HB1.out
   have hat := HAT.out k hlt
   have hfl := HFT.out k hlt
   have h1 := HFN.out (k + 1)
   rw [hfl, zA7] at h1
   have h2 := core_len HG.out
   obtain ⟨b, o, rfl, _, hc⟩ := hsl (fun e => by have := hat 0 _ rfl; rw [e] at this; simp at this)
   have hrg : wr.rangeAt b (o + k * 2) (shc (L.getD k s0)) := fun j u hu => by rw [Nat.add_assoc]; exact hc _ _ (hat j u hu)
   have HCP : Hid (∀ W, Below w.heap.size w W → Calls Tryz.prog 34 #[.slice (L.getD k s0).A (L.getD k s0).fs.length (L.getD k s0).c] W fun e w' => ∃ A' c' gs, e = .returned (.slice A' gs.length c') ∧ w'.ownsRow W.heap.size 61 67 (.slice A' gs.length c') gs.length (fscells gs) ∧
    (∀ g ∈ gs, FacO w' W.heap.size g) ∧ gs.map core = (L.getD k s0).fs.map core ∧ Below W.heap.size W w') := fun W h => by
        have h3 := HOK.out W h k hlt
        exact copied_any _ _ _ W h3.facs h3.few h3.names h3.nil
   have HFL := zh hfl
   clear hs hsl hat hc hfl
   generalize L.getD k s0 = s at *
   have HGL : Hid (gs.length + s.fs.length ≤ 65536) := by
        show gs.length + s.fs.length ≤ 65536
        omega
   clear h1 h2
   go_wp2_with (first
        | (refine wpList_loadShapeIn (by rfl) _ rfl b (o + k * 2) rfl s hrg ?_)
        | (refine wpList_storeShape (by rfl) _ _ rfl wr.heap.size rfl s.t s.A s.fs.length s.c rfl _ zero_shape_size (RowAt.new _ _ _) ?_; intro w2 r2 he))
   have hb2 : Below wr.heap.size wr w2 := below_made (zB _ _) (zL _) he
   have hp1 := p1.lt
   have p3 := (p1.below hb2 p1.lt).drew
   have z3 := (z1.below hb2 z1.lt).drew
   have HO3 : Hid (w2.drew.ownsRow w.heap.size 61 67 (.slice Ar gs.length cr) gs.length (fscells gs)) := own_below HO.out hb2.drew (zL _)
   have HN3 : Hid (∀ g ∈ gs, FacO w2.drew w.heap.size g) := fun g hg => (HN.out g hg).below hb2.drew (zL _)
   have HB2 : Hid (Below w.heap.size w w2.drew) := HB1.out.trans (hb2.drew.mono HB1.out.size)
   have hc5 := shape_cells r2
   obtain ⟨S, hS⟩ : ∃ S : World → Prop, S = fun w' => Below w.heap.size w w' ∧ RowAt w' wr.heap.size 24 (sv s.t s.A s.fs.length s.c) := ⟨_, rfl⟩
   have HS : Hid (Below w.heap.size w w2.drew ∧ RowAt w2.drew wr.heap.size 24 (sv s.t s.A s.fs.length s.c)) := ⟨HB2.out, r2⟩
   have cS : ∀ w', (Below w.heap.size w w' ∧ RowAt w' wr.heap.size 24 (sv s.t s.A s.fs.length s.c)) → w'.cell? ⟨wr.heap.size, 1, none⟩ = some (.slice s.A s.fs.length s.c) := fun w' h => (shape_cells h.2).2
   clear hS S hb2 he p1 z1 HO HN HB1 hc5 r2 hrg
   have hgl := HGL.out
   refine wp_region_ot (fun w' => Below w.heap.size w w' ∧ RowAt w' wr.heap.size 24 (sv s.t s.A s.fs.length s.c)) (.take 0 (.take 2 (.take 3 (.two 1 (.solo 4 (.solo 5 (.take 6 (.solo 7 .nil)))) 4 (.solo 1 (.solo 5 (.take 6 (.solo 7 .nil)))))))) (by kernel_rfl) (by kernel_rfl) rfl (by kernel_rfl) HS.out ?_
   generalize w2.drew = V at *
   have hc1 := (p3.cell 1).trans rfl
   iterate 3
        (refine wpOT_step (zO rfl) ?_)
        (first
         | (refine wpOT_skip (by rfl) ?_)
         | (refine wpOT_take (v := ?_) (by rfl) ?_ ?_; rotate_left 1; (intro wx hSx; have hc_0 := cS wx hSx; go_simp; try with_reducible rfl)))
        (try simp only [Act.put, zA4, zA5, zA6])
   refine wpOT_two ?_ ?_
   ·(refine wpOT_solo (zO rfl) ?_)
    intro K hK
    go_simp
    refine hK.out _ _ HS.out ?_
    clear hK K
    (try simp only [Act.put, zA4, zA5, zA6])
    clear hc1
    (refine wpOT_solo (zO rfl) ?_)
    intro K hK
    go_simp
    refine (HCP.out _ HS.out.1).mono ?_
    rintro e w4 ⟨A4, c4, ps, rfl, hpo, hpn, hpc, hb⟩
    have hS : Below w.heap.size w w4 ∧ RowAt w4 wr.heap.size 24 (sv s.t s.A s.fs.length s.c) := ⟨HS.out.1.trans (hb.mono HS.out.1.size), HS.out.2.below hb HS.out.2.lt⟩
    clear HS
    have HS := zh hS; clear hS
    have p4 := p3.below hb p3.lt
    have z4 := z3.below hb z3.lt
    have HO4 := zh (own_below HO3.out hb (zL _))
    have HN4 : Hid (∀ g ∈ gs, FacO w4 w.heap.size g) := fun g hg => (HN3.out g hg).below hb (zL _)
    have HPO := zh hpo
    have HPN := zh hpn
    have HPC := zh hpc
    clear hb p3 z3 HO3 HN3 hpo hpn hpc
    refine hK.out _ _ HS.out ?_
    clear hK K
    (try simp only [Act.put, zA4, zA5, zA6])
    (refine wpOT_solo (zO rfl) ?_)
    intro K hK
    rw [if_pos (by rfl)]
    have hpl := core_len HPC.out
    refine wp_appendF _ _ rfl w.heap.size Ar gs.length cr (fscells gs) rfl HO4.out A4 ps.length c4 (fscells ps) rfl (by rw [HPO.out.1]) (Sl.of_own HPO.out) (own_nil HPO.out) (fscells_one ps) (by omega) HS.out.1.size ?_
    intro A5 c5 w5 hown5 hgr
    have hbel : Below w.heap.size w4 w5 := (zB _ _).grown hgr HS.out.1.size (fun k hk => (HO4.out.lt k hk).1)
    have hS : Below w.heap.size w w5 ∧ RowAt w5 wr.heap.size 24 (sv s.t s.A s.fs.length s.c) := ⟨HS.out.1.trans hbel, HS.out.2.grown hgr (own_ne2 HO4.out HS.out.2 HD1.out)⟩
    have p5 := p4.grown hgr (own_ne2 HO4.out p4 HD1.out)
    have z5 := z4.grown hgr (own_ne2 HO4.out z4 HD1.out)
    have HN5 : Hid (∀ g ∈ gs ++ ps, FacO w5 w.heap.size g) := fun g hg => by
     rcases List.mem_append.1 hg with h | h
     ·exact (HN4.out g h).grown HO4.out HD2.out hgr
     ·exact ((HPN.out g h).mono HB2.out.size).grown HO4.out HD2.out hgr
    have ho6 : w5.ownsRow w.heap.size 61 67 (.slice A5 (gs ++ ps).length c5) (gs ++ ps).length (fscells (gs ++ ps)) := by
     rw [fscells_append, zA7]; exact hown5
    have hc6 : (gs ++ ps).map core = (flat (L.take (k + 1))).map core := by rw [List.map_append, HG.out, HPC.out, HFL.out, List.map_append]
    have hl6 : gs.length + ps.length = (gs ++ ps).length := List.length_append.symm
    rw [hl6]
    generalize gs ++ ps = g6 at *
    have HC6 := zh hc6
    have HO5 := zh ho6
    clear HS
    have HS := zh hS
    clear hS hbel hgr hown5 ho6 hc6 hl6 hpl HO4 HN4 HPO HPN HPC p4 z4
    refine hK.out _ _ HS.out ?_
    clear hK K
    (try simp only [Act.put, zA4, zA5, zA6])
    have hce := (p5.cell 1).trans rfl
    have hfe := p5.free 1
    iterate 1
     (refine wpOT_step (zO rfl) ?_)
     (first
           | (refine wpOT_skip (by rfl) ?_)
           | (refine wpOT_take (v := ?_) (by rfl) ?_ ?_; rotate_left 1; (intro wx hSx; go_simp; try with_reducible rfl)))
     (try simp only [Act.put, zA4, zA5, zA6])
    (refine wpOT_solo (zO rfl) ?_)
    intro K hK
    go_simp
    have p6 : RowAt (w5.setCell ⟨w.heap.size + 1, 1, none⟩ (.slice A5 g6.length c5)) (w.heap.size + 1) 24 (sv true A5 g6.length c5) := p5.put 1 (.slice A5 g6.length c5)
    have z6 := z5.far (p := ⟨w.heap.size + 1, 1, none⟩) (by show w.heap.size + 1 ≠ w.heap.size; omega) (.slice A5 g6.length c5)
    have hbs : Below w.heap.size w5 (w5.setCell ⟨w.heap.size + 1, 1, none⟩ (.slice A5 g6.length c5)) := (Else.setCell w5 ⟨w.heap.size + 1, 1, none⟩ (.slice A5 g6.length c5)).below (by show w.heap.size ≤ w.heap.size + 1; omega)
    have HO6 := zh (ownS_far HO5.out p5 HD1.out 1 (.slice A5 g6.length c5))
    have HN6 : Hid (∀ g ∈ g6, FacO (w5.setCell ⟨w.heap.size + 1, 1, none⟩ (.slice A5 g6.length c5)) w.heap.size g) := fun g hg => (HN5.out g hg).far p5 HD3.out 1 _
    have HB6 := zh (HS.out.1.trans hbs)
    refine hK.out _ _ ⟨HB6.out, HS.out.2.far (p := ⟨w.heap.size + 1, 1, none⟩) (by show w.heap.size + 1 ≠ wr.heap.size; omega) _⟩ ?_
    clear hK K HS hbs p5 z5 HO5 HN5 hce hfe
    (try simp only [Act.put])
    refine wpOT_done ?_
    go_wp2_with fail
    go_roundw
    case rel => exact ⟨k + 1, A5, c5, g6, by omega, by go_num, z6, p6, HO6, HN6, HC6, HB6⟩
    case measure => simp [intOf]; omega
   ·(refine wpOT_solo (zO rfl) ?_)
    intro K hK
    go_simp
    refine (HCP.out _ HS.out.1).mono ?_
    rintro e w4 ⟨A4, c4, ps, rfl, hpo, hpn, hpc, hb⟩
    have hS : Below w.heap.size w w4 ∧ RowAt w4 wr.heap.size 24 (sv s.t s.A s.fs.length s.c) := ⟨HS.out.1.trans (hb.mono HS.out.1.size), HS.out.2.below hb HS.out.2.lt⟩
    clear HS
    have HS := zh hS; clear hS
    have p4 := p3.below hb p3.lt
    have z4 := z3.below hb z3.lt
    have HO4 := zh (own_below HO3.out hb (zL _))
    have HN4 : Hid (∀ g ∈ gs, FacO w4 w.heap.size g) := fun g hg => (HN3.out g hg).below hb (zL _)
    have HPO := zh hpo
    have HPN := zh hpn
    have HPC := zh hpc
    clear hb p3 z3 HO3 HN3 hpo hpn hpc
    refine hK.out _ _ HS.out ?_
    clear hK K
    (try simp only [Act.put, zA4, zA5, zA6])
    have hc1 := (p4.cell 1).trans rfl
    (refine wpOT_solo (zO rfl) ?_)
    intro K hK
    go_simp
    refine hK.out _ _ HS.out ?_
    clear hK K
    (try simp only [Act.put, zA4, zA5, zA6])
    clear hc1
    (refine wpOT_solo (zO rfl) ?_)
    intro K hK
    rw [if_pos (by rfl)]
    have hpl := core_len HPC.out
    refine wp_appendF _ _ rfl w.heap.size Ar gs.length cr (fscells gs) rfl HO4.out A4 ps.length c4 (fscells ps) rfl (by rw [HPO.out.1]) (Sl.of_own HPO.out) (own_nil HPO.out) (fscells_one ps) (by omega) HS.out.1.size ?_
    intro A5 c5 w5 hown5 hgr
    have hbel : Below w.heap.size w4 w5 := (zB _ _).grown hgr HS.out.1.size (fun k hk => (HO4.out.lt k hk).1)
    have hS : Below w.heap.size w w5 ∧ RowAt w5 wr.heap.size 24 (sv s.t s.A s.fs.length s.c) := ⟨HS.out.1.trans hbel, HS.out.2.grown hgr (own_ne2 HO4.out HS.out.2 HD1.out)⟩
    have p5 := p4.grown hgr (own_ne2 HO4.out p4 HD1.out)
    have z5 := z4.grown hgr (own_ne2 HO4.out z4 HD1.out)
    have HN5 : Hid (∀ g ∈ gs ++ ps, FacO w5 w.heap.size g) := fun g hg => by
     rcases List.mem_append.1 hg with h | h
     ·exact (HN4.out g h).grown HO4.out HD2.out hgr
     ·exact ((HPN.out g h).mono HB2.out.size).grown HO4.out HD2.out hgr
    have ho6 : w5.ownsRow w.heap.size 61 67 (.slice A5 (gs ++ ps).length c5) (gs ++ ps).length (fscells (gs ++ ps)) := by
     rw [fscells_append, zA7]; exact hown5
    have hc6 : (gs ++ ps).map core = (flat (L.take (k + 1))).map core := by rw [List.map_append, HG.out, HPC.out, HFL.out, List.map_append]
    have hl6 : gs.length + ps.length = (gs ++ ps).length := List.length_append.symm
    rw [hl6]
    generalize gs ++ ps = g6 at *
    have HC6 := zh hc6
    have HO5 := zh ho6
    clear HS
    have HS := zh hS
    clear hS hbel hgr hown5 ho6 hc6 hl6 hpl HO4 HN4 HPO HPN HPC p4 z4
    refine hK.out _ _ HS.out ?_
    clear hK K
    (try simp only [Act.put, zA4, zA5, zA6])
    have hce := (p5.cell 1).trans rfl
    have hfe := p5.free 1
    iterate 1
     (refine wpOT_step (zO rfl) ?_)
     (first
           | (refine wpOT_skip (by rfl) ?_)
           | (refine wpOT_take (v := ?_) (by rfl) ?_ ?_; rotate_left 1; (intro wx hSx; go_simp; try with_reducible rfl)))
     (try simp only [Act.put, zA4, zA5, zA6])
    (refine wpOT_solo (zO rfl) ?_)
    intro K hK
    go_simp
    have p6 : RowAt (w5.setCell ⟨w.heap.size + 1, 1, none⟩ (.slice A5 g6.length c5)) (w.heap.size + 1) 24 (sv true A5 g6.length c5) := p5.put 1 (.slice A5 g6.length c5)
    have z6 := z5.far (p := ⟨w.heap.size + 1, 1, none⟩) (by show w.heap.size + 1 ≠ w.heap.size; omega) (.slice A5 g6.length c5)
    have hbs : Below w.heap.size w5 (w5.setCell ⟨w.heap.size + 1, 1, none⟩ (.slice A5 g6.length c5)) := (Else.setCell w5 ⟨w.heap.size + 1, 1, none⟩ (.slice A5 g6.length c5)).below (by show w.heap.size ≤ w.heap.size + 1; omega)
    have HO6 := zh (ownS_far HO5.out p5 HD1.out 1 (.slice A5 g6.length c5))
    have HN6 : Hid (∀ g ∈ g6, FacO (w5.setCell ⟨w.heap.size + 1, 1, none⟩ (.slice A5 g6.length c5)) w.heap.size g) := fun g hg => (HN5.out g hg).far p5 HD3.out 1 _
    have HB6 := zh (HS.out.1.trans hbs)
    refine hK.out _ _ ⟨HB6.out, HS.out.2.far (p := ⟨w.heap.size + 1, 1, none⟩) (by show w.heap.size + 1 ≠ wr.heap.size; omega) _⟩ ?_
    clear hK K HS hbs p5 z5 HO5 HN5 hce hfe
    (try simp only [Act.put])
    refine wpOT_done ?_
    go_wp2_with fail
    go_roundw
    case rel => exact ⟨k + 1, A5, c5, g6, by omega, by go_num, z6, p6, HO6, HN6, HC6, HB6⟩
    case measure => simp [intOf]; omega
  ·have e1 : k = n := by omega
   subst e1
   have hc6 := HG.out
   rw [HFA.out] at hc6
   have HC6 := zh hc6; clear hc6
   go_wp2_with (first | (refine wpList_loadShape (by rfl) _ rfl (w.heap.size + 1) rfl true Ar gs.length cr p1 ?_) | (refine wpList_storeShape (by rfl) _ _ rfl w.heap.size rfl true Ar gs.length cr rfl _ zero_shape_size z1 ?_; intro w7 q7 he))
   have hrow : RowAt w7 w.heap.size 24 (sv true Ar gs.length cr) := q7
   refine bodyPost_ret (ret_shape rfl _ _ w.heap.size true Ar gs.length cr rfl hrow) rfl ⟨Ar, cr, gs, rfl, ?_, ?_, HC6.out, HB1.out.trans (he.below (zL _))⟩
   ·exact own_other (HO.out) he HD1.out z1
   ·exact fun g hg => ⟨own_other (HN.out g hg).own he HD3.out z1, (HN.out g hg).rows⟩
end
section
open Go.RowKit RM
theorem infoFac2 : (Tryz.prog.info? 61).map (fun i => (i.zero.isSome, i.size)) = some (true, 67) := by kernel_rfl
def okF (f : Fac) : Bool := decide (f.names.length ≤ 70) && f.names.all fun s => decide (s.size ≤ 40)
def bigShB (fs : List Fac) : Bool := decide (12 < fs.length) || !fs.all okF
theorem big_no {fs : List Fac} (h : bigShB fs = false) : fs.length ≤ 12 ∧ ∀ f ∈ fs, f.names.length ≤ 70 := by
 unfold bigShB at h
 rw [Bool.or_eq_false_iff] at h
 have h1 := h.1
 have h2 := h.2
 rw [decide_eq_false_iff_not] at h1
 rw [Bool.not_eq_false', List.all_eq_true] at h2
 refine ⟨by omega, fun f hf => ?_⟩
 have := h2 f hf
 unfold okF at this
 rw [Bool.and_eq_true, decide_eq_true_eq] at this
 exact this.1
theorem big_bad {fs : List Fac} {k : Nat} (hk : k < fs.length) (h : okF (fs.getD k f0) = false) : bigShB fs = true := by
 unfold bigShB
 have : fs.all okF = false := by
  rw [List.all_eq_false]
  exact ⟨_, getD_memF hk, by rw [h]; simp⟩
 rw [this]; simp
theorem big_end {fs : List Fac} (h1 : fs.length ≤ 12) (h : ∀ k, k < fs.length → okF (fs.getD k f0) = true) : bigShB fs = false := by
 unfold bigShB
 have : fs.all okF = true := by
  rw [List.all_eq_true]
  intro x hx
  obtain ⟨k, hk, rfl⟩ := List.mem_iff_getElem.1 hx
  have := h k hk
  rw [List.getD_eq_getElem?_getD, List.getElem?_eq_getElem hk] at this
  simpa using this
 rw [this, zF (by omega)]; rfl
theorem okF_long {f : Fac} (h : 70 < f.names.length) : okF f = false := by unfold okF; rw [zF (by omega)]; rfl
theorem okF_bad {f : Fac} {k : Nat} (hk : k < f.names.length) (h : 40 < (f.names.getD k ⟨#[]⟩).size) : okF f = false := by
 unfold okF
 have : (f.names.all fun s => decide (s.size ≤ 40)) = false := by
  rw [List.all_eq_false]
  refine ⟨f.names[k], List.getElem_mem hk, ?_⟩
  rw [List.getD_eq_getElem?_getD, List.getElem?_eq_getElem hk] at h
  simp only [Option.getD_some] at h
  simp; omega
 rw [this, Bool.and_false]
theorem okF_end {f : Fac} (h1 : f.names.length ≤ 70) (h : ∀ k, k < f.names.length → ¬ 40 < (f.names.getD k ⟨#[]⟩).size) : okF f = true := by
 unfold okF
 have : (f.names.all fun s => decide (s.size ≤ 40)) = true := by
  rw [List.all_eq_true]
  intro x hx
  obtain ⟨k, hk, rfl⟩ := List.mem_iff_getElem.1 hx
  have := h k hk
  rw [List.getD_eq_getElem?_getD, List.getElem?_eq_getElem hk] at this
  simp only [Option.getD_some] at this
  simp; omega
 rw [this, zE h1]; rfl
theorem bigS_any (t : Bool) (A : Option Addr) (c : Nat) (fs : List Fac) (w : World) (hF : Facs w A fs) :
 Calls Tryz.prog 6 #[.agg (sv t A fs.length c)] w fun x w' => x = .returned (.bool (bigShB fs)) ∧ Below w.heap.size w w' := by
 have r0 := RowAt.new w 24 (sv t A fs.length c)
 have HB0 : Hid (Below w.heap.size w (w.alloc (.cells (sv t A fs.length c) 24))) := (zB _ _).alloc (zL _) _
 have HS : Hid (∀ W, RowAt W w.heap.size 24 (sv t A fs.length c) → W.cell? ⟨w.heap.size, 0, none⟩ = some (.bool t) ∧ W.cell? ⟨w.heap.size, 1, none⟩ = some (.slice A fs.length c)) := fun W h => shape_cells h
 have HF : Hid (∀ W, Below w.heap.size w W → Facs W A fs) := fun W h => hF.below h
 clear hF
 by_cases hbig : 12 < fs.length
 ·have hbb : bigShB fs = true := by unfold bigShB; rw [zE hbig]; rfl
  rw [hbb]
  clear hbb HF
  obtain ⟨c0, c1⟩ := HS.out _ r0
  generalize fs.length = n at *
  go_enter Tryz.func6, Tryz.ntmps6
  go_wp2_with fail
  go_ret
  exact ⟨rfl, HB0.out⟩
 ·have hsm : fs.length ≤ 12 := by omega
  have HBAD : Hid (∀ k, k < fs.length → okF (fs.getD k f0) = false → bigShB fs = true) := fun k => big_bad
  have HEND : Hid ((∀ k, k < fs.length → okF (fs.getD k f0) = true) → bigShB fs = false) := big_end hsm
  generalize bigShB fs = res at *
  generalize hn : fs.length = n at *
  have HN := zh hn; clear hn hbig
  generalize sv t A n c = V at *
  obtain ⟨c0, c1⟩ := HS.out _ r0
  go_enter Tryz.func6, Tryz.ntmps6
  go_wp2_with fail
  clear c0 c1
  go_loopw [3, 4, 5] (fun kv _ _ wr => ∃ k : Nat, k ≤ n ∧ kv = .int .i64 k ∧ RowAt wr w.heap.size 24 V ∧ Hid (∀ j, j < k → okF (fs.getD j f0) = true) ∧ Hid (Below w.heap.size w wr)) (fun kv _ _ _ => n - (intOf kv).toNat)
  case atStart => exact ⟨0, by omega, rfl, r0, fun j hj => by omega, HB0⟩
  case round =>
   clear r0 HB0
   obtain ⟨k, hk, rfl, r1, HK, HB1⟩ := hrel
   obtain ⟨c0, c1⟩ := HS.out _ r1
   by_cases hlt : k < n
   ·have hFk := HF.out _ HB1.out
    obtain ⟨b, o, rfl, _, hr⟩ := hFk.at (k := k) (by rw [HN.out]; exact hlt)
    have hrg := hr k (by rw [HN.out]; exact hlt)
    have hl := (hFk.okAt (i := k) (by rw [HN.out]; exact hlt)).rows
    have HOK : Hid (∀ W, Below w.heap.size w W → FacOk W (fs.getD k f0)) := fun W h => (HF.out W h).okAt (by rw [HN.out]; exact hlt)
    clear hr hFk
    have HKN : Hid (okF (fs.getD k f0) = true → ∀ j, j < k + 1 → okF (fs.getD j f0) = true) := fun h j hj => by
     by_cases e : j = k
     ·subst e; exact h
     ·exact HK.out j (by omega)
    have HR := zh (HBAD.out k hlt)
    have HLG : Hid (70 < (fs.getD k f0).names.length → okF (fs.getD k f0) = false) := okF_long
    have HIB : Hid (∀ j, j < (fs.getD k f0).names.length → 40 < ((fs.getD k f0).names.getD j ⟨#[]⟩).size → okF (fs.getD k f0) = false) := fun j => okF_bad
    have HIE : Hid ((fs.getD k f0).names.length ≤ 70 → (∀ j, j < (fs.getD k f0).names.length → ¬ 40 < ((fs.getD k f0).names.getD j ⟨#[]⟩).size) → okF (fs.getD k f0) = true) := okF_end
    generalize okF (fs.getD k f0) = ok at *
    generalize fs.getD k f0 = f at *
    have HST : Hid (∀ W, Below w.heap.size w W → Strs W f.A f.names) := fun W h => (HOK.out W h).strs
    have HFC : Hid (∀ W g, RowAt W g 61 (fv f) → W.cell? ⟨g, 1, none⟩ = some (.slice f.A f.names.length f.c)) := fun W g h => (fac_cells h).2.1
    clear HOK
    by_cases h70 : 70 < f.names.length
    ·have HR2 := zh (HR.out (HLG.out h70))
     clear HR HLG HIB HIE HKN HST
     generalize f.names.length = m at *
     go_wp2_with (first
      | (refine wpList_loadFacIn (by rfl) _ rfl b (o + k * 67) rfl f hl hrg ?_)
      | (refine wpList_storeFac (by rfl) _ _ rfl wr.heap.size rfl f hl rfl _ zero_fac_size (RowAt.new _ _ _) ?_; intro w2 r2 he; have q2 := (r1.alloc (.cells Tryz.zeroCells61 61)).other he (Nat.ne_of_lt r1.lt); have HB2 := zh (below_made HB1.out HB1.out.size he); clear he r1 HB1 c0 c1; have d1 := HFC.out _ _ r2))
     go_ret
     exact ⟨ret_eq (bool_eq HR2.out.symm), HB2.out⟩
    ·have h71 : f.names.length ≤ 70 := by omega
     have HIE2 := zh (HIE.out h71)
     clear HIE HLG h70
     generalize hm : f.names.length = m at *
     have HM := zh hm; clear hm
     go_wp2_with (first
      | (refine wpList_loadFacIn (by rfl) _ rfl b (o + k * 67) rfl f hl hrg ?_)
      | (refine wpList_storeFac (by rfl) _ _ rfl wr.heap.size rfl f hl rfl _ zero_fac_size (RowAt.new _ _ _) ?_; intro w2 r2 he; have q2 := (r1.alloc (.cells Tryz.zeroCells61 61)).other he (Nat.ne_of_lt r1.lt); have HB2 := zh (below_made HB1.out HB1.out.size he); clear he r1 HB1 c0 c1; have d1 := HFC.out _ _ r2))
     go_loopw [5] (fun jv wq => ∃ j : Nat, j ≤ m ∧ jv = .int .i64 j ∧ wq = w2 ∧ Hid (∀ i, i < j → ¬ 40 < (f.names.getD i ⟨#[]⟩).size)) (fun jv _ => m - (intOf jv).toNat)
     case atStart => exact ⟨0, by omega, rfl, rfl, fun j hj => by omega⟩
     case round =>
      obtain ⟨j, hj, rfl, hq, HJ⟩ := hrel
      subst hq
      by_cases hlt2 : j < m
      ·obtain ⟨b2, o2, hA, hc⟩ := (HST.out _ HB2.out).at (k := j) (by rw [HM.out]; exact hlt2)
       have hcj := hc j (by rw [HM.out]; exact hlt2)
       rw [hA] at d1
       have HIB2 := zh (HIB.out j hlt2)
       have HJN : Hid (¬ 40 < (f.names.getD j ⟨#[]⟩).size → ∀ i, i < j + 1 → ¬ 40 < (f.names.getD i ⟨#[]⟩).size) := fun h i hi => by
        by_cases e : i = j
        ·subst e; exact h
        ·exact HJ.out i (by omega)
       clear hc hA
       generalize f.names.getD j ⟨#[]⟩ = x at *
       by_cases h40 : 40 < x.size
       ·have HR2 := zh (HR.out (HIB2.out h40))
        clear HR HIB HIE2 HKN HJN HIB2
        go_wp2
        go_ret
        exact ⟨ret_eq (bool_eq HR2.out.symm), HB2.out⟩
       ·have HJ2 := zh (HJN.out h40)
        clear HJN HIB2
        go_wp2
        go_roundw
        case rel => exact ⟨j + 1, by omega, by go_num, by trivial, HJ2⟩
        case measure => simp [intOf]; omega
      ·have e1 : j = m := by omega
       subst e1
       have HKN2 := zh (HKN.out (HIE2.out HJ.out))
       go_wp2
       go_roundw
       case rel => exact ⟨k + 1, by omega, by go_num, q2, HKN2, HB2⟩
       case measure => simp [intOf]; omega
   ·have e1 : k = n := by omega
    subst e1
    have HE2 := zh (HEND.out HK.out)
    go_wp2_with fail
    go_ret
    exact ⟨ret_eq (bool_eq HE2.out.symm), HB1.out⟩
end
section
open Go.RowKit RM
theorem getD_core (fs : List Fac) (i : Nat) : (fs.map core).getD i f0 = core (fs.getD i f0) := by
 rw [List.getD_eq_getElem?_getD, List.getD_eq_getElem?_getD, List.getElem?_map]
 cases fs[i]? <;> rfl
theorem zero_fac : Tryz.zeroCells61 = fv f0 := by kernel_rfl
theorem strs_new (w : World) (xs : List ByteArray) : Strs (w.alloc (.cells (scells xs).toArray 9)) (some ⟨w.heap.size, 0, none⟩) xs := fun _ => ⟨w.heap.size, 0, rfl, by simp, fun j u hu => by
 rw [Nat.zero_add, cell_of_row _ w.heap.size j _ 9 (0, 0) (heap_alloc_new w _)]
 simpa using hu⟩
end
section
open Go.RowKit RM
def escells (es : List (List Nat)) : List Value := es.flatMap ucells
theorem escells_at : ∀ (es : List (List Nat)), (∀ e ∈ es, EW e) → ∀ (i j : Nat), i < es.length → j < 8 → (escells es)[i * 8 + j]? = (ucells (es.getD i []))[j]?
 | [], _, i, j, hi, _ => by simp at hi
 | e :: es, h, 0, j, _, hj => by
   have h1 : (ucells e).length = 8 := by rw [ucells_length]; exact (h e (by simp)).1
   unfold escells
   rw [List.flatMap_cons, List.getElem?_append_left (by rw [h1]; omega)]
   simp
 | e :: es, h, i + 1, j, hi, hj => by
   have h1 : (ucells e).length = 8 := by rw [ucells_length]; exact (h e (by simp)).1
   have ih := escells_at es (fun f hf => h f (by simp [hf])) i j (by simpa using hi) hj
   unfold escells at ih ⊢
   rw [List.flatMap_cons, List.getElem?_append_right (by rw [h1]; omega), h1, show (i + 1) * 8 + j - 8 = i * 8 + j by omega]
   exact ih
theorem eget_mem {es : List (List Nat)} {i : Nat} (hi : i < es.length) : es.getD i [] ∈ es := by
 rw [List.getD_eq_getElem?_getD, List.getElem?_eq_getElem hi]
 exact List.getElem_mem hi
theorem els_at {w : World} {B : Nat} {A : Option Addr} {es : List (List Nat)} (h : Sl w B A (escells es)) (hE : ∀ e ∈ es, EW e) {k : Nat} (hk : k < es.length) :
 ∃ b o, A = some ⟨b, o, none⟩ ∧ ∀ i, i < es.length → w.rangeAt b (o + i * 8) (ucells (es.getD i [])) := by
 have h0 := escells_at es hE k 0 hk (by omega)
 have hl : (ucells (es.getD k [])).length = 8 := by rw [ucells_length]; exact (hE _ (eget_mem hk)).1
 have h1 : (ucells (es.getD k []))[0]? ≠ none := by
  rw [List.getElem?_eq_getElem (show 0 < (ucells (es.getD k [])).length by rw [hl]; omega)]
  simp
 obtain ⟨b, o, hA, _, hc⟩ := h (fun e => by
  rw [e] at h0
  exact h1 (h0.symm.trans (by simp)))
 refine ⟨b, o, hA, fun i hi j u hu => ?_⟩
 have hj : j < 8 := by
  have := (List.getElem?_eq_some_iff.1 hu).1
  rw [ucells_length, (hE _ (eget_mem hi)).1] at this
  exact this
 rw [Nat.add_assoc]
 exact hc _ _ ((escells_at es hE i j hi hj).trans hu)
theorem els_rng {w : World} {B b o : Nat} {es : List (List Nat)} (h : Sl w B (some ⟨b, o, none⟩) (escells es)) (hE : ∀ e ∈ es, EW e) {k : Nat} (hk : k < es.length) : w.rangeAt b (o + k * 8) (ucells (es.getD k [])) := by
 obtain ⟨b2, o2, e, hr⟩ := els_at h hE hk
 injection e with e
 injection e with e1 e2
 subst e1 e2
 exact hr k hk
section
variable {ops : Array Oper} {rest : List Oper} {o : Oper} {a : Act} {w : World} {Q : Exit → Act → World → Prop} {S : World → Prop}
theorem einfo2 {e : List Nat} (h : EW e) : (Tryz.prog.info? 40).map (·.size) = some (ucells e).length := by rw [ucells_length, h.1]; kernel_rfl
theorem take_loadElemIn (x : Operand) (ho : o.op = .load 40 x) (b k : Nat) (hx : a.eval x = .pointer (some ⟨b, k, none⟩)) (e : List Nat) (hl : EW e) (hS : ∀ w, S w → w.rangeAt b k (ucells e)) :
 ∀ w, S w → (execOp a.eval o).run Tryz.prog w = .ok (.value (.agg (uv e))) w := by
 intro w h
 unfold execOp
 simp only [ho, hx, Sem.run_bind, Sem.run_pure, Result.andThen_ok, run_loadAt_mid w b k _ _ _ (hS w h) Tryz.underlying40 rfl (einfo2 hl)]
 rfl
theorem wpList_loadElemIn (hgd : Region.wanted o (yielded ops a.tmps) = true) (x : Operand) (ho : o.op = .load 40 x) (b k : Nat) (hx : a.eval x = .pointer (some ⟨b, k, none⟩))
 (e : List Nat) (hl : EW e) (hg : w.rangeAt b k (ucells e)) (h : wpList Tryz.prog ops Q rest (a.put o.dst (.agg (uv e))) w) : wpList Tryz.prog ops Q (o :: rest) a w :=
 wpList_wanted hgd fun _ hK => wp_load_mid _ x ho b k hx (ucells e) _ hg Tryz.underlying40 rfl (einfo2 hl) (hK _ _ h)
end
end
section
open Go.RowKit RM
end
section
open Go.RowKit RM
end
end Go.Proofs.YtdahllhbpdbknaaGreatDoor
