/- Texts that all the claims need. Conditions: those that each states. -/

import Derived.Test.YtcegiiaeeajfpaaGreatDoorSa15
set_option linter.unusedSimpArgs false
set_option linter.unusedVariables false
set_option maxRecDepth 100000
set_option maxHeartbeats 40000000
namespace Go.Proofs.YtcegiiaeeajfpaaGreatDoor
section
open Go.RowKit
theorem infoLatS : (Tryz.prog.info? 71).map (fun i => (i.zero, i.size, i.bytes)) = some (some (.agg #[.string ⟨#[]⟩, .bool false, .slice none 0 0]), 3, 48) := by kernel_rfl
theorem infoVarS : (Tryz.prog.info? 73).map (fun i => (i.zero, i.size, i.bytes)) = some (some (.agg #[.string ⟨#[]⟩, .int .i64 0, .int .i64 0]), 3, 32) := by kernel_rfl
theorem cloneLat_any (A : Option Addr) (n c : Nat) (cs : List Value) (w : World) (hl : cs.length = n * 3) (h1 : ∀ u ∈ cs, u.oneCell' = true) (hn : n ≤ 65536) (hA : Sl w w.heap.size A cs) (hnil : A = none → n = 0 ∧ c = 0) :
 Calls Tryz.prog 180 #[.slice A n c] w fun e w' => ∃ A' c', e = .returned (.slice A' n c') ∧ w'.ownsRow w.heap.size 71 3 (.slice A' n c') n cs ∧ Below w.heap.size w w' := by
 have q : ∀ (w : World) (a : Option Addr) (n c n' c' : Nat), (binOp .eql 48 (.slice a n c) (.slice none n' c')).run Tryz.prog w = .ok (.bool a.isNone) w := fun w a n c n' c' => Lib.run_eql_slice_nil w _ _ a n c n' c' Tryz.underlying48
 cases A with
 | none =>
   obtain ⟨rfl, rfl⟩ := hnil rfl
   have hcs : cs = [] := List.eq_nil_of_length_eq_zero (by omega)
   subst hcs
   clear hA hl h1
   go_enter Tryz.func180, Tryz.ntmps180
   go_wp2_with fail
   go_ret
   exact ⟨none, 0, rfl, World.ownsRow_nil _ _ _ _, zB _ _⟩
 | some ad =>
   obtain ⟨i0, hi, hz0, hz1, hz2⟩ := info_parts infoLatS
   have HI := zh hi; have HZ0 := zh hz0; have HZ1 := zh hz1; have HZ2 := zh hz2
   clear hi hz0 hz1 hz2 hnil
   have HNEW : Hid (∀ o j u, cs[j]? = some u → (w.alloc o).cell? (ad.add j) = some u) := fun o j u hj => by
    obtain ⟨b, off, e, _, hc⟩ := hA (fun e => by rw [e] at hj; simp at hj)
    injection e with e
    subst e
    rw [Addr.add_lit]
    exact Lib.cell?_alloc_some _ (hc j u hj)
   have H1 := zh h1
   clear hA h1
   go_enter Tryz.func180, Tryz.ntmps180
   go_wp2_with (at_builtin; refine wpList_append_own _ rfl _ _ 48 rfl w.heap.size 71 i0 _ 3 48 Tryz.underlying48 HI.out HZ0.out HZ1.out HZ2.out (by kernel_rfl) (by decide) _ _ _ rfl (World.ownsRow_made w #[] 0 (zL _) (Nat.zero_le _) rfl) ad n c cs rfl hl (HNEW.out _) H1.out (by unfold maxLen; omega) (by omega) (by simp) ?_)
   intro v' w1 hown hgrow _
   have hb : Below w.heap.size w w1 := ((zB _ w).alloc (zL _) _).grown hgrow (by simp) (by intro k hk; simp [Value.ownBlock] at hk; omega)
   replace hown : w1.ownsRow w.heap.size 71 3 v' n cs := by simpa using hown
   obtain ⟨A', c', rfl, _, _⟩ := own_form hown
   have HO := zh hown; have HB := zh hb
   clear hown hb hgrow
   go_wp2_with fail
   go_ret
   exact ⟨A', c', rfl, HO.out, HB.out⟩
theorem cloneVar_any (A : Option Addr) (n c : Nat) (cs : List Value) (w : World) (hl : cs.length = n * 3) (h1 : ∀ u ∈ cs, u.oneCell' = true) (hn : n ≤ 65536) (hA : Sl w w.heap.size A cs) (hnil : A = none → n = 0 ∧ c = 0) :
 Calls Tryz.prog 181 #[.slice A n c] w fun e w' => ∃ A' c', e = .returned (.slice A' n c') ∧ w'.ownsRow w.heap.size 73 3 (.slice A' n c') n cs ∧ Below w.heap.size w w' := by
 have q : ∀ (w : World) (a : Option Addr) (n c n' c' : Nat), (binOp .eql 49 (.slice a n c) (.slice none n' c')).run Tryz.prog w = .ok (.bool a.isNone) w := fun w a n c n' c' => Lib.run_eql_slice_nil w _ _ a n c n' c' Tryz.underlying49
 cases A with
 | none =>
   obtain ⟨rfl, rfl⟩ := hnil rfl
   have hcs : cs = [] := List.eq_nil_of_length_eq_zero (by omega)
   subst hcs
   clear hA hl h1
   go_enter Tryz.func181, Tryz.ntmps181
   go_wp2_with fail
   go_ret
   exact ⟨none, 0, rfl, World.ownsRow_nil _ _ _ _, zB _ _⟩
 | some ad =>
   obtain ⟨i0, hi, hz0, hz1, hz2⟩ := info_parts infoVarS
   have HI := zh hi; have HZ0 := zh hz0; have HZ1 := zh hz1; have HZ2 := zh hz2
   clear hi hz0 hz1 hz2 hnil
   have HNEW : Hid (∀ o j u, cs[j]? = some u → (w.alloc o).cell? (ad.add j) = some u) := fun o j u hj => by
    obtain ⟨b, off, e, _, hc⟩ := hA (fun e => by rw [e] at hj; simp at hj)
    injection e with e
    subst e
    rw [Addr.add_lit]
    exact Lib.cell?_alloc_some _ (hc j u hj)
   have H1 := zh h1
   clear hA h1
   go_enter Tryz.func181, Tryz.ntmps181
   go_wp2_with (at_builtin; refine wpList_append_own _ rfl _ _ 49 rfl w.heap.size 73 i0 _ 3 32 Tryz.underlying49 HI.out HZ0.out HZ1.out HZ2.out (by kernel_rfl) (by decide) _ _ _ rfl (World.ownsRow_made w #[] 0 (zL _) (Nat.zero_le _) rfl) ad n c cs rfl hl (HNEW.out _) H1.out (by unfold maxLen; omega) (by omega) (by simp) ?_)
   intro v' w1 hown hgrow _
   have hb : Below w.heap.size w w1 := ((zB _ w).alloc (zL _) _).grown hgrow (by simp) (by intro k hk; simp [Value.ownBlock] at hk; omega)
   replace hown : w1.ownsRow w.heap.size 73 3 v' n cs := by simpa using hown
   obtain ⟨A', c', rfl, _, _⟩ := own_form hown
   have HO := zh hown; have HB := zh hb
   clear hown hb hgrow
   go_wp2_with fail
   go_ret
   exact ⟨A', c', rfl, HO.out, HB.out⟩
theorem latC_len (l : List (ByteArray × Shp)) : (l.flatMap latC).length = l.length * 3 := by
 induction l with
 | nil => rfl
 | cons x l ih => rw [List.flatMap_cons, zA7, ih, zA8]; show 3 + _ = _; omega
theorem varC_len (l : List (ByteArray × Int × Int)) : (l.flatMap varC).length = l.length * 3 := by
 induction l with
 | nil => rfl
 | cons x l ih => rw [List.flatMap_cons, zA7, ih, zA8]; show 3 + _ = _; omega
theorem latC_one (l : List (ByteArray × Shp)) : ∀ u ∈ l.flatMap latC, u.oneCell' = true := fun u hu => by
 obtain ⟨x, _, hx⟩ := List.mem_flatMap.1 hu
 simp only [latC, List.mem_cons, List.not_mem_nil, or_false] at hx
 rcases hx with rfl | rfl | rfl <;> rfl
theorem varC_one (l : List (ByteArray × Int × Int)) : ∀ u ∈ l.flatMap varC, u.oneCell' = true := fun u hu => by
 obtain ⟨x, _, hx⟩ := List.mem_flatMap.1 hu
 simp only [varC, List.mem_cons, List.not_mem_nil, or_false] at hx
 rcases hx with rfl | rfl | rfl <;> rfl
structure LatO (w : World) (B : Nat) (l : ByteArray × Shp) : Prop where
 own : w.ownsRow B 135 67 (.slice l.2.A l.2.fs.length l.2.c) l.2.fs.length (fscells l.2.fs)
 fac : ∀ g ∈ l.2.fs, FacO w B g
def lcore (l : ByteArray × Shp) : ByteArray × Bool × List Fac := (l.1, l.2.t, l.2.fs.map core)
structure ScN (w : World) (B : Nat) (s' s : Sc) : Prop where
 lown : w.ownsRow B 71 3 (.slice s'.LA s'.ls.length s'.lc) s'.ls.length (s'.ls.flatMap latC)
 vown : w.ownsRow B 73 3 (.slice s'.VA s'.vs.length s'.vc) s'.vs.length (s'.vs.flatMap varC)
 lats : ∀ l ∈ s'.ls, LatO w B l
 le : s'.ls.map lcore = s.ls.map lcore
 ve : s'.vs = s.vs
theorem LatO.below {w w' : World} {B : Nat} {l : ByteArray × Shp} (h : LatO w B l) (hb : Below w.heap.size w w') : LatO w' B l := ⟨own_below h.own hb (zL _), fun g hg => (h.fac g hg).below hb (zL _)⟩
theorem own_some {w : World} {base size n c : Nat} {e : TypeId} {A : Option Addr} {cs : List Value} (h : w.ownsRow base e size (.slice A n c) n cs) (hn : 0 < n) : ∃ b, A = some ⟨b, 0, none⟩ ∧ base ≤ b ∧ b < w.heap.size := by
 rcases h.2 with ⟨hv, h0⟩ | ⟨g, cap, cur, hv, hg, hh, _⟩
 ·omega
 ·injection hv with h1 _ _
  exact ⟨g, h1, hg, (Array.getElem?_eq_some_iff.1 hh).1⟩
theorem one_shape (w : World) (sh : Shp) : Sl (w.alloc (.cells #[.bool sh.t, .slice sh.A sh.fs.length sh.c] 65)) (w.alloc (.cells #[.bool sh.t, .slice sh.A sh.fs.length sh.c] 65)).heap.size (some ⟨w.heap.size, 0, none⟩) (shcells [sh]) := fun _ => by
 have hr := RowAt.new w 65 #[.bool sh.t, .slice sh.A sh.fs.length sh.c]
 refine ⟨w.heap.size, 0, rfl, hr.lt, fun j u hu => ?_⟩
 rw [Nat.zero_add, hr.cell j]
 have : shcells [sh] = [.bool sh.t, .slice sh.A sh.fs.length sh.c] := by simp [shcells, shc]
 rw [this] at hu
 simpa using hu
theorem set_app (a b : List Value) (m : Nat) (u : Value) : (a ++ b).set (a.length + m) u = a ++ b.set m u := by
 rw [List.set_append_right _ _ (by omega), Nat.add_sub_cancel_left]
theorem lat_set (l1 l2 : List (ByteArray × Shp)) (nm : ByteArray) (sh : Shp) (A2 : Option Addr) (c2 : Nat) (gs : List Fac) :
 ((((l1 ++ (nm, sh) :: l2).flatMap latC).set (l1.length * 3 + 1) (.bool true)).set (l1.length * 3 + 1 + 1) (.slice A2 gs.length c2)).set (l1.length * 3 + 1) (.bool sh.t) = ((l1 ++ [(nm, (⟨sh.t, A2, c2, gs⟩ : Shp))]) ++ l2).flatMap latC := by
 have hl := latC_len l1
 rw [← hl, List.flatMap_append, List.flatMap_cons, List.flatMap_append, List.flatMap_append]
 generalize l1.flatMap latC = a
 generalize l2.flatMap latC = b
 rw [set_app a _ 1, show a.length + 1 + 1 = a.length + 2 from rfl, set_app a _ 2, set_app a _ 1]
 simp [latC]
theorem scopied_any (s : Sc) (w : World) (h : ScOk w s) :
 Calls Tryz.prog 106 #[.agg (scv s)] w fun e w' => ∃ s', e = .returned (.agg (scv s')) ∧ ScN w' w.heap.size s' s ∧ Below w.heap.size w w' := by
 obtain ⟨r0, z0, hb⟩ := two_rows w (scv s) #[.slice none 0 0, .slice none 0 0] 51 51
 refine cHid fun Q' hQ => ?_
 have HQ := zh hQ; clear hQ
 go_enter Tryz.func106, Tryz.ntmps106
 go_upto_region 1 with fail
 change Code.wp _ _ _ _ ((w.alloc (.cells (scv s) 51)).alloc (.cells #[.slice none 0 0, .slice none 0 0] 51))
 generalize (w.alloc (.cells (scv s) 51)).alloc (.cells #[.slice none 0 0, .slice none 0 0] 51) = w1 at *
 have h1 := h.below hb
 have HOK := zh h1
 have HZR := zh z0
 have hz := z0.lt
 have C0 : ∀ W, Below w1.heap.size w1 W → W.cell? ⟨w.heap.size, 0, none⟩ = some (.slice s.LA s.ls.length s.lc) := fun W hW => (hW.cell (p := ⟨w.heap.size, 0, none⟩) r0.lt).trans (r0.cell 0)
 have C1 : ∀ W, Below w1.heap.size w1 W → W.cell? ⟨w.heap.size, 1, none⟩ = some (.slice s.VA s.vs.length s.vc) := fun W hW => (hW.cell (p := ⟨w.heap.size, 1, none⟩) r0.lt).trans (r0.cell 1)
 have HC1 : Hid (∀ W, Below w1.heap.size w1 W → Calls Tryz.prog 180 #[.slice s.LA s.ls.length s.lc] W fun e w' => ∃ A' c', e = .returned (.slice A' s.ls.length c') ∧ w'.ownsRow W.heap.size 71 3 (.slice A' s.ls.length c') s.ls.length (s.ls.flatMap latC) ∧ Below W.heap.size W w') := zh fun W hW =>
  cloneLat_any _ _ _ _ W (latC_len _) (latC_one _) h.lfew (h1.lats.below hW) fun e => by
   refine ⟨?_, h.lnil e⟩
   rcases Nat.eq_zero_or_pos s.ls.length with h0 | h0
   ·exact h0
   ·obtain ⟨b, o, hA, _⟩ := h1.lats.at 3 (fun _ => rfl) (by omega) lat0 h0
    rw [e] at hA; cases hA
 have HC2 : Hid (∀ W, Below w1.heap.size w1 W → Calls Tryz.prog 181 #[.slice s.VA s.vs.length s.vc] W fun e w' => ∃ A' c', e = .returned (.slice A' s.vs.length c') ∧ w'.ownsRow W.heap.size 73 3 (.slice A' s.vs.length c') s.vs.length (s.vs.flatMap varC) ∧ Below W.heap.size W w') := zh fun W hW =>
  cloneVar_any _ _ _ _ W (varC_len _) (varC_one _) h.vfew (h1.vars.below hW) fun e => by
   refine ⟨?_, h.vnil e⟩
   rcases Nat.eq_zero_or_pos s.vs.length with h0 | h0
   ·exact h0
   ·obtain ⟨b, o, hA, _⟩ := h1.vars.at 3 (fun _ => rfl) (by omega) var0 h0
    rw [e] at hA; cases hA
 have HLF := zh h.lfew
 clear h h1 r0 z0
 have HTY1 : Hid (71 ≠ 51) := zh (by show (71 : Nat) ≠ 51; decide)
 have HTY2 : Hid (73 ≠ 51) := zh (by show (73 : Nat) ≠ 51; decide)
 generalize hLC : s.ls.flatMap latC = LC at *
 generalize hVC : s.vs.flatMap varC = VC at *
 have HLC := zh hLC; have HVC := zh hVC; clear hLC hVC
 generalize hln : s.ls.length = ln at *
 generalize hvn : s.vs.length = vn at *
 have HLN := zh hln; have HVN := zh hvn; clear hln hvn
 go_cut [3] from 6 to 12 (fun v3 wx => ∃ (X1 X2 : Option Addr) (d1 d2 g3 : Nat), v3 = .pointer (some ⟨g3, 0, none⟩) ∧ Hid (Below w1.heap.size w1 wx) ∧ Hid (RowAt wx g3 51 #[.slice X1 ln d1, .slice X2 vn d2]) ∧ Hid (wx.ownsRow w1.heap.size 71 3 (.slice X1 ln d1) ln LC) ∧ Hid (wx.ownsRow w1.heap.size 73 3 (.slice X2 vn d2) vn VC) ∧ w1.heap.size ≤ g3)
 case first =>
  have HSv0 : Hid (Below w1.heap.size w1 w1.drew) := zh (zB _ _).drew
  refine wp_region_ou (fun w' => Below w1.heap.size w1 w') ((.take 0 (.take 1 (.take 3 (.take 4 (.two 2 (.two 5 (.take 6 (.solo 7 (.solo 8 .nil))) 7 (.solo 5 (.take 6 (.solo 8 .nil)))) 7 (.solo 2 (.solo 5 (.take 6 (.solo 8 .nil)))))))))) (by kernel_rfl) (by kernel_rfl) rfl (by kernel_rfl) HSv0.out ?_
  generalize w1.drew = v0 at HSv0 ⊢
  iterate 4
   (refine wpOU_step (zO rfl) ?_)
   (first
    | (refine wpOU_skip (by rfl) ?_)
    | (refine wpOU_take (v := ?_) (by rfl) ?_ ?_; rotate_left 1; (intro wx hSx; have hc_0 := C0 wx hSx; have hc_1 := C1 wx hSx; go_simp; try with_reducible rfl)))
   (try simp only [Act.put, zA4, zA5, zA6])
  refine wpOU_two ?_ ?_
  ·(refine wpOU_solo (zO rfl) ?_)
   intro K hK
   go_simp
   go_at_call 180
   refine (HC1.out v0 HSv0.out).mono ?_
   rintro e v1 ⟨X1, d1, rfl, hown, hb⟩
   have HSv1 := zh (HSv0.out.trans (hb.mono HSv0.out.size))
   have HW1v1 := zh (own_mono hown HSv0.out.size)
   clear hown hb
   refine hK.out _ _ HSv1.out ?_
   clear hK K
   (try simp only [Act.put, zA4, zA5, zA6])
   refine wpOU_two ?_ ?_
   ·(refine wpOU_solo (zO rfl) ?_)
    intro K hK
    go_simp
    go_at_call 181
    refine (HC2.out v1 HSv1.out).mono ?_
    rintro e v2 ⟨X2, d2, rfl, hown, hb⟩
    have HSv2 := zh (HSv1.out.trans (hb.mono HSv1.out.size))
    have HW2v2 := zh (own_mono hown HSv1.out.size)
    have HW1v2 := zh (own_below HW1v1.out hb (zL _))
    clear hown hb
    refine hK.out _ _ HSv2.out ?_
    clear hK K
    (try simp only [Act.put, zA4, zA5, zA6])
    iterate 1
     (refine wpOU_step (zO rfl) ?_)
     (first
           | (refine wpOU_skip (by rfl) ?_)
           | (refine wpOU_take (v := ?_) (by rfl) ?_ ?_; rotate_left 1; (intro wx hSx; have hc_0 := C0 wx hSx; have hc_1 := C1 wx hSx; go_simp; try with_reducible rfl)))
     (try simp only [Act.put, zA4, zA5, zA6])
    (refine wpOU_solo (zO rfl) ?_)
    intro K hK
    go_simp
    have hb : Below v2.heap.size v2 (v2.alloc (.cells #[.slice none 0 0, .slice none 0 0] 51)) := (zB _ _).alloc (zL _) _
    have HSv3 : Hid (Below w1.heap.size w1 (v2.alloc (.cells #[.slice none 0 0, .slice none 0 0] 51))) := zh (HSv2.out.trans (hb.mono HSv2.out.size))
    have HR3v3 := zh (RowAt.new v2 51 #[.slice none 0 0, .slice none 0 0])
    have HZ3 : Hid (w1.heap.size ≤ v2.heap.size) := zh HSv2.out.size
    have HW1v3 := zh (own_below HW1v2.out hb (zL _))
    have HW2v3 := zh (own_below HW2v2.out hb (zL _))
    clear hb
    refine hK.out _ _ HSv3.out ?_
    clear hK K
    (try simp only [Act.put, zA4, zA5, zA6])
    generalize hgb : v2.heap.size = g3 at *
    generalize (v2.alloc (.cells #[.slice none 0 0, .slice none 0 0] 51)) = v3 at *
    clear hgb
    (refine wpOU_solo (zO rfl) ?_)
    intro K hK
    rw [if_pos (by rfl)]
    refine wp_store_row _ _ _ rfl g3 #[.slice X1 ln d1, .slice X2 vn d2] rfl rfl _ _ HR3v3.out (by kernel_rfl) rfl (by simp [Value.oneCell']) ?_
    have HSv9 : Hid (Below w1.heap.size w1 (v3.setRow g3 #[.slice X1 ln d1, .slice X2 vn d2])) := zh (HSv3.out.trans (Else.below (Else.setRow v3 g3 _) HZ3.out))
    have HR4 := zh (HR3v3.out.setRow #[.slice X1 ln d1, .slice X2 vn d2])
    have HW6 : Hid ((v3.setRow g3 #[.slice X1 ln d1, .slice X2 vn d2]).ownsRow w1.heap.size 71 3 (.slice X1 ln d1) ln LC) := zh (own_same HW1v3.out fun b _ hv => setRow_other _ _ _ _ (fun e => own_ne2 HW1v3.out HR3v3.out HTY1.out (by rw [← e]; exact hv)))
    have HW7 : Hid ((v3.setRow g3 #[.slice X1 ln d1, .slice X2 vn d2]).ownsRow w1.heap.size 73 3 (.slice X2 vn d2) vn VC) := zh (own_same HW2v3.out fun b _ hv => setRow_other _ _ _ _ (fun e => own_ne2 HW2v3.out HR3v3.out HTY2.out (by rw [← e]; exact hv)))
    refine hK.out _ _ HSv9.out ?_
    clear hK K
    (try simp only [Act.put, zA4, zA5, zA6])
    generalize v3.setRow g3 #[.slice X1 ln d1, .slice X2 vn d2] = v9 at *
    refine wpOU_done ?_
    go_wp2
    go_meet
    case rel => exact ⟨X1, X2, d1, d2, g3, rfl, HSv9, HR4, HW6, HW7, HZ3.out⟩
   ·(refine wpOU_solo (zO rfl) ?_)
    intro K hK
    go_simp
    have hb : Below v1.heap.size v1 (v1.alloc (.cells #[.slice none 0 0, .slice none 0 0] 51)) := (zB _ _).alloc (zL _) _
    have HSv2 : Hid (Below w1.heap.size w1 (v1.alloc (.cells #[.slice none 0 0, .slice none 0 0] 51))) := zh (HSv1.out.trans (hb.mono HSv1.out.size))
    have HR3v2 := zh (RowAt.new v1 51 #[.slice none 0 0, .slice none 0 0])
    have HZ3 : Hid (w1.heap.size ≤ v1.heap.size) := zh HSv1.out.size
    have HW1v2 := zh (own_below HW1v1.out hb (zL _))
    clear hb
    refine hK.out _ _ HSv2.out ?_
    clear hK K
    (try simp only [Act.put, zA4, zA5, zA6])
    generalize hgb : v1.heap.size = g3 at *
    generalize (v1.alloc (.cells #[.slice none 0 0, .slice none 0 0] 51)) = v2 at *
    clear hgb
    (refine wpOU_solo (zO rfl) ?_)
    intro K hK
    go_simp
    go_at_call 181
    refine (HC2.out v2 HSv2.out).mono ?_
    rintro e v3 ⟨X2, d2, rfl, hown, hb⟩
    have HSv3 := zh (HSv2.out.trans (hb.mono HSv2.out.size))
    have HW2v3 := zh (own_mono hown HSv2.out.size)
    have HW1v3 := zh (own_below HW1v2.out hb (zL _))
    have HR3v3 := zh (HR3v2.out.below hb HR3v2.out.lt)
    clear hown hb
    refine hK.out _ _ HSv3.out ?_
    clear hK K
    (try simp only [Act.put, zA4, zA5, zA6])
    iterate 1
     (refine wpOU_step (zO rfl) ?_)
     (first
           | (refine wpOU_skip (by rfl) ?_)
           | (refine wpOU_take (v := ?_) (by rfl) ?_ ?_; rotate_left 1; (intro wx hSx; have hc_0 := C0 wx hSx; have hc_1 := C1 wx hSx; go_simp; try with_reducible rfl)))
     (try simp only [Act.put, zA4, zA5, zA6])
    (refine wpOU_solo (zO rfl) ?_)
    intro K hK
    rw [if_pos (by rfl)]
    refine wp_store_row _ _ _ rfl g3 #[.slice X1 ln d1, .slice X2 vn d2] rfl rfl _ _ HR3v3.out (by kernel_rfl) rfl (by simp [Value.oneCell']) ?_
    have HSv9 : Hid (Below w1.heap.size w1 (v3.setRow g3 #[.slice X1 ln d1, .slice X2 vn d2])) := zh (HSv3.out.trans (Else.below (Else.setRow v3 g3 _) HZ3.out))
    have HR4 := zh (HR3v3.out.setRow #[.slice X1 ln d1, .slice X2 vn d2])
    have HW6 : Hid ((v3.setRow g3 #[.slice X1 ln d1, .slice X2 vn d2]).ownsRow w1.heap.size 71 3 (.slice X1 ln d1) ln LC) := zh (own_same HW1v3.out fun b _ hv => setRow_other _ _ _ _ (fun e => own_ne2 HW1v3.out HR3v3.out HTY1.out (by rw [← e]; exact hv)))
    have HW7 : Hid ((v3.setRow g3 #[.slice X1 ln d1, .slice X2 vn d2]).ownsRow w1.heap.size 73 3 (.slice X2 vn d2) vn VC) := zh (own_same HW2v3.out fun b _ hv => setRow_other _ _ _ _ (fun e => own_ne2 HW2v3.out HR3v3.out HTY2.out (by rw [← e]; exact hv)))
    refine hK.out _ _ HSv9.out ?_
    clear hK K
    (try simp only [Act.put, zA4, zA5, zA6])
    generalize v3.setRow g3 #[.slice X1 ln d1, .slice X2 vn d2] = v9 at *
    refine wpOU_done ?_
    go_wp2
    go_meet
    case rel => exact ⟨X1, X2, d1, d2, g3, rfl, HSv9, HR4, HW6, HW7, HZ3.out⟩
  ·(refine wpOU_solo (zO rfl) ?_)
   intro K hK
   go_simp
   have hb : Below v0.heap.size v0 (v0.alloc (.cells #[.slice none 0 0, .slice none 0 0] 51)) := (zB _ _).alloc (zL _) _
   have HSv1 : Hid (Below w1.heap.size w1 (v0.alloc (.cells #[.slice none 0 0, .slice none 0 0] 51))) := zh (HSv0.out.trans (hb.mono HSv0.out.size))
   have HR3v1 := zh (RowAt.new v0 51 #[.slice none 0 0, .slice none 0 0])
   have HZ3 : Hid (w1.heap.size ≤ v0.heap.size) := zh HSv0.out.size
   clear hb
   refine hK.out _ _ HSv1.out ?_
   clear hK K
   (try simp only [Act.put, zA4, zA5, zA6])
   generalize hgb : v0.heap.size = g3 at *
   generalize (v0.alloc (.cells #[.slice none 0 0, .slice none 0 0] 51)) = v1 at *
   clear hgb
   (refine wpOU_solo (zO rfl) ?_)
   intro K hK
   go_simp
   go_at_call 180
   refine (HC1.out v1 HSv1.out).mono ?_
   rintro e v2 ⟨X1, d1, rfl, hown, hb⟩
   have HSv2 := zh (HSv1.out.trans (hb.mono HSv1.out.size))
   have HW1v2 := zh (own_mono hown HSv1.out.size)
   have HR3v2 := zh (HR3v1.out.below hb HR3v1.out.lt)
   clear hown hb
   refine hK.out _ _ HSv2.out ?_
   clear hK K
   (try simp only [Act.put, zA4, zA5, zA6])
   (refine wpOU_solo (zO rfl) ?_)
   intro K hK
   go_simp
   go_at_call 181
   refine (HC2.out v2 HSv2.out).mono ?_
   rintro e v3 ⟨X2, d2, rfl, hown, hb⟩
   have HSv3 := zh (HSv2.out.trans (hb.mono HSv2.out.size))
   have HW2v3 := zh (own_mono hown HSv2.out.size)
   have HR3v3 := zh (HR3v2.out.below hb HR3v2.out.lt)
   have HW1v3 := zh (own_below HW1v2.out hb (zL _))
   clear hown hb
   refine hK.out _ _ HSv3.out ?_
   clear hK K
   (try simp only [Act.put, zA4, zA5, zA6])
   iterate 1
        (refine wpOU_step (zO rfl) ?_)
        (first
         | (refine wpOU_skip (by rfl) ?_)
         | (refine wpOU_take (v := ?_) (by rfl) ?_ ?_; rotate_left 1; (intro wx hSx; have hc_0 := C0 wx hSx; have hc_1 := C1 wx hSx; go_simp; try with_reducible rfl)))
        (try simp only [Act.put, zA4, zA5, zA6])
   (refine wpOU_solo (zO rfl) ?_)
   intro K hK
   rw [if_pos (by rfl)]
   refine wp_store_row _ _ _ rfl g3 #[.slice X1 ln d1, .slice X2 vn d2] rfl rfl _ _ HR3v3.out (by kernel_rfl) rfl (by simp [Value.oneCell']) ?_
   have HSv9 : Hid (Below w1.heap.size w1 (v3.setRow g3 #[.slice X1 ln d1, .slice X2 vn d2])) := zh (HSv3.out.trans (Else.below (Else.setRow v3 g3 _) HZ3.out))
   have HR4 := zh (HR3v3.out.setRow #[.slice X1 ln d1, .slice X2 vn d2])
   have HW6 : Hid ((v3.setRow g3 #[.slice X1 ln d1, .slice X2 vn d2]).ownsRow w1.heap.size 71 3 (.slice X1 ln d1) ln LC) := zh (own_same HW1v3.out fun b _ hv => setRow_other _ _ _ _ (fun e => own_ne2 HW1v3.out HR3v3.out HTY1.out (by rw [← e]; exact hv)))
   have HW7 : Hid ((v3.setRow g3 #[.slice X1 ln d1, .slice X2 vn d2]).ownsRow w1.heap.size 73 3 (.slice X2 vn d2) vn VC) := zh (own_same HW2v3.out fun b _ hv => setRow_other _ _ _ _ (fun e => own_ne2 HW2v3.out HR3v3.out HTY2.out (by rw [← e]; exact hv)))
   refine hK.out _ _ HSv9.out ?_
   clear hK K
   (try simp only [Act.put, zA4, zA5, zA6])
   generalize v3.setRow g3 #[.slice X1 ln d1, .slice X2 vn d2] = v9 at *
   refine wpOU_done ?_
   go_wp2
   go_meet
   case rel => exact ⟨X1, X2, d1, d2, g3, rfl, HSv9, HR4, HW6, HW7, HZ3.out⟩
 case rest =>
  obtain ⟨X1, X2, d1, d2, g3, rfl, HS3, HR3, HL3, HV3, HG3⟩ := hcut
  have hg3 := HR3.out.lt
  have HTY4 : Hid (73 ≠ 71) := zh (by show (73 : Nat) ≠ 71; decide)
  have HTY5 : Hid (135 ≠ 71) := zh (by show (135 : Nat) ≠ 71; decide)
  have HTY6 : Hid (9 ≠ 71) := zh (by show (9 : Nat) ≠ 71; decide)
  have HL0 : Hid (wc.ownsRow w1.heap.size 71 3 (.slice X1 ln d1) ln (([] ++ s.ls.drop 0).flatMap latC)) := zh (by rw [List.nil_append, List.drop_zero, HLC.out]; exact HL3.out)
  have hl16 : ln ≤ 65536 := HLF.out
  have HSHf : Hid (∀ k, k < ln → ∀ W, Below w1.heap.size w1 W → ShOk W (s.ls.getD k lat0).2) := zh fun k hk W hW => (HOK.out.sh _ (getD_mem' (by rw [HLN.out]; exact hk))).below hW
  have HDR : Hid (∀ k, k < ln → s.ls.drop k = s.ls.getD k lat0 :: s.ls.drop (k + 1)) := zh fun k hk => by
   have hk2 : k < s.ls.length := by rw [HLN.out]; exact hk
   rw [List.drop_eq_getElem_cons hk2, List.getD_eq_getElem?_getD, List.getElem?_eq_getElem hk2]; rfl
  have HTK : Hid (∀ k, k < ln → s.ls.take (k + 1) = s.ls.take k ++ [s.ls.getD k lat0]) := zh fun k hk => by
   have hk2 : k < s.ls.length := by rw [HLN.out]; exact hk
   rw [List.take_succ_eq_append_getElem hk2, List.getD_eq_getElem?_getD, List.getElem?_eq_getElem hk2]; rfl
  have c3 := (HR3.out.cell 0).trans (show (#[Value.slice X1 ln d1, .slice X2 vn d2])[0]? = some (.slice X1 ln d1) from rfl)
  go_wp2_with fail
  clear c3
  go_loopw [5, 16] (fun _ kv wr => ∃ (k : Nat) (NL : List (ByteArray × Shp)), k ≤ ln ∧ kv = .int .i64 k ∧ NL.length = k ∧ Hid (Below w1.heap.size w1 wr) ∧ Hid (RowAt wr g3 51 #[.slice X1 ln d1, .slice X2 vn d2]) ∧ Hid (wr.ownsRow w1.heap.size 71 3 (.slice X1 ln d1) ln ((NL ++ s.ls.drop k).flatMap latC)) ∧ Hid (wr.ownsRow w1.heap.size 73 3 (.slice X2 vn d2) vn VC) ∧ Hid (∀ l ∈ NL, LatO wr w1.heap.size l) ∧ Hid (NL.map lcore = (s.ls.take k).map lcore)) (fun _ kv _ => ln - (intOf kv).toNat)
  case atStart => exact ⟨0, [], by omega, rfl, rfl, HS3, HR3, HL0, HV3, zh (fun l hl => by cases hl), zh rfl⟩
  case round =>
   clear HS3 HR3 HL0 HV3 HL3 hg3
   obtain ⟨k, NL, hk, rfl, hnl, HSr, HRr, HLr, HVr, HNr, HEr⟩ := hrel
   by_cases hlt : k < ln
   ·have HLT := zh hlt
    obtain ⟨bL, rfl, hbL, hbLt⟩ := own_some HLr.out (by omega)
    have HBL := zh hbL; have HBLt := zh hbLt
    have HNLn := zh hnl
    have hdr := HDR.out k hlt
    have HSH := zh (HSHf.out k hlt)
    have HTKk := zh (HTK.out k hlt)
    rw [hdr] at HLr
    have hcur : ∀ j, j < 3 → ((NL ++ s.ls.getD k lat0 :: s.ls.drop (k + 1)).flatMap latC)[k * 3 + j]? = (latC (s.ls.getD k lat0))[j]? := fun j hj => by
     rw [flat_at latC 3 (fun _ => rfl) lat0 _ k j (by simp; omega) hj]
     congr 2
     rw [List.getD_eq_getElem?_getD, List.getElem?_append_right (by omega), hnl, Nat.sub_self]; rfl
    have HLS2 : Hid (∀ A2 c2 gs, ((((NL ++ s.ls.getD k lat0 :: s.ls.drop (k + 1)).flatMap latC).set (k * 3 + 1) (.bool true)).set (k * 3 + 1 + 1) (.slice A2 (List.length gs) c2)).set (k * 3 + 1) (.bool (s.ls.getD k lat0).2.t) = ((NL ++ [((s.ls.getD k lat0).1, (⟨(s.ls.getD k lat0).2.t, A2, c2, gs⟩ : Shp))]) ++ s.ls.drop (k + 1)).flatMap latC) := zh fun A2 c2 gs => by
     have := lat_set NL (s.ls.drop (k + 1)) (s.ls.getD k lat0).1 (s.ls.getD k lat0).2 A2 c2 gs
     rw [hnl] at this
     exact this
    generalize (NL ++ s.ls.getD k lat0 :: s.ls.drop (k + 1)).flatMap latC = CUR at *
    generalize s.ls.getD k lat0 = el at *
    obtain ⟨nm, sh⟩ := el
    have HAT : Hid (CUR[k * 3]? = some (.string nm) ∧ CUR[k * 3 + 1]? = some (.bool sh.t) ∧ CUR[k * 3 + 1 + 1]? = some (.slice sh.A sh.fs.length sh.c)) := zh ⟨hcur 0 (by omega), hcur 1 (by omega), hcur 2 (by omega)⟩
    have p0 := ownS_at HLr.out HAT.out.1
    have p1 := ownS_at HLr.out HAT.out.2.1
    have p2 := ownS_at HLr.out HAT.out.2.2
    have HFW : Hid ((flat [sh]).length ≤ 65536) := zh (by simp [flat]; exact (HSH.out _ HSr.out).few)
    have c3 := (HRr.out.cell 0).trans (show (#[Value.slice (some ⟨bL, 0, none⟩) ln d1, .slice X2 vn d2])[0]? = some (.slice (some ⟨bL, 0, none⟩) ln d1) from rfl)
    have hk16 : k < 65536 := by omega
    clear hcur hdr hnl
    have hbx : Below wr.heap.size wr (wr.alloc (.cells #[.string nm, .bool sh.t, .slice sh.A sh.fs.length sh.c] 71)) := (zB _ _).alloc (zL _) _
    have HSx := zh (HSr.out.trans (hbx.mono HSr.out.size))
    have HRx := zh (HRr.out.below hbx HRr.out.lt)
    have HLx := zh (own_below HLr.out hbx (zL _))
    have HVx := zh (own_below HVr.out hbx (zL _))
    have HNx : Hid (∀ l ∈ NL, LatO (wr.alloc (.cells #[.string nm, .bool sh.t, .slice sh.A sh.fs.length sh.c] 71)) w1.heap.size l) := zh fun l hl => (HNr.out l hl).below hbx
    have HGl := zh (RowAt.new wr 71 #[.string nm, .bool sh.t, .slice sh.A sh.fs.length sh.c])
    have HNEl : Hid (bL ≠ wr.heap.size) := zh (by omega)
    have HSH2 : Hid (∀ W, Below w1.heap.size w1 W → ShOk W sh) := HSH
    clear HSH hbx hbL hbLt
    have HSH := HSH2
    clear HSH2
    go_upto_region 5 with fail
    change Code.wp _ _ _ _ (wr.alloc (.cells #[.string nm, .bool sh.t, .slice sh.A sh.fs.length sh.c] 71))
    generalize wr.alloc (.cells #[.string nm, .bool sh.t, .slice sh.A sh.fs.length sh.c] 71) = yx at *
    generalize wr.heap.size = gl at *
    clear p0 p1 p2 c3
    have C0 : ∀ W, (Below w1.heap.size w1 W ∧ RowAt W g3 51 #[.slice (some ⟨bL, 0, none⟩) ln d1, .slice X2 vn d2] ∧ RowAt W gl 71 #[.string nm, .bool sh.t, .slice sh.A sh.fs.length sh.c]) → W.cell? ⟨g3, 0, none⟩ = some (.slice (some ⟨bL, 0, none⟩) ln d1) := fun W h => (h.2.1.cell 0).trans rfl
    have C1 : ∀ W, (Below w1.heap.size w1 W ∧ RowAt W g3 51 #[.slice (some ⟨bL, 0, none⟩) ln d1, .slice X2 vn d2] ∧ RowAt W gl 71 #[.string nm, .bool sh.t, .slice sh.A sh.fs.length sh.c]) → W.cell? ⟨gl, 1, none⟩ = some (.bool sh.t) := fun W h => (h.2.2.cell 1).trans rfl
    have C2 : ∀ W, (Below w1.heap.size w1 W ∧ RowAt W g3 51 #[.slice (some ⟨bL, 0, none⟩) ln d1, .slice X2 vn d2] ∧ RowAt W gl 71 #[.string nm, .bool sh.t, .slice sh.A sh.fs.length sh.c]) → W.cell? ⟨gl, 2, none⟩ = some (.slice sh.A sh.fs.length sh.c) := fun W h => (h.2.2.cell 2).trans rfl
    have HSy0 : Hid (Below w1.heap.size w1 yx.drew ∧ RowAt yx.drew g3 51 #[.slice (some ⟨bL, 0, none⟩) ln d1, .slice X2 vn d2] ∧ RowAt yx.drew gl 71 #[.string nm, .bool sh.t, .slice sh.A sh.fs.length sh.c]) := zh ⟨HSx.out.drew, HRx.out, HGl.out⟩
    have HLy0 : Hid (yx.drew.ownsRow w1.heap.size 71 3 (.slice (some ⟨bL, 0, none⟩) ln d1) ln CUR) := HLx
    have HVy0 : Hid (yx.drew.ownsRow w1.heap.size 73 3 (.slice X2 vn d2) vn VC) := HVx
    have HNy0 : Hid (∀ l ∈ NL, LatO yx.drew w1.heap.size l) := zh fun l hl => (HNx.out l hl).below (zB _ _).drew
    refine wp_region_ou (fun W => Below w1.heap.size w1 W ∧ RowAt W g3 51 #[.slice (some ⟨bL, 0, none⟩) ln d1, .slice X2 vn d2] ∧ RowAt W gl 71 #[.string nm, .bool sh.t, .slice sh.A sh.fs.length sh.c]) ((.take 0 (.take 1 (.take 2 (.take 3 (.take 4 (.solo 5 (.solo 6 (.take 7 (.take 8 (.solo 9 .nil))))))))))) (by kernel_rfl) (by kernel_rfl) rfl (by kernel_rfl) HSy0.out ?_
    generalize yx.drew = y0 at *
    iterate 5
     (refine wpOU_step (zO rfl) ?_)
     (first
      | (refine wpOU_skip (by rfl) ?_)
      | (refine wpOU_take (v := ?_) (by rfl) ?_ ?_; rotate_left 1; (intro wx hSx; have hc_0 := C0 wx hSx; have hc_1 := C1 wx hSx; have hc_2 := C2 wx hSx; go_simp; try with_reducible rfl)))
     (try simp only [Act.put, zA4, zA5, zA6])
    (refine wpOU_solo (zO rfl) ?_)
    intro K hK
    go_simp
    have hb : Below y0.heap.size y0 (y0.alloc (.cells #[.bool sh.t, .slice sh.A sh.fs.length sh.c] 65)) := (zB _ _).alloc (zL _) _
    have HSy1 : Hid (Below w1.heap.size w1 (y0.alloc (.cells #[.bool sh.t, .slice sh.A sh.fs.length sh.c] 65)) ∧ RowAt (y0.alloc (.cells #[.bool sh.t, .slice sh.A sh.fs.length sh.c] 65)) g3 51 #[.slice (some ⟨bL, 0, none⟩) ln d1, .slice X2 vn d2] ∧ RowAt (y0.alloc (.cells #[.bool sh.t, .slice sh.A sh.fs.length sh.c] 65)) gl 71 #[.string nm, .bool sh.t, .slice sh.A sh.fs.length sh.c]) := zh ⟨HSy0.out.1.trans (hb.mono HSy0.out.1.size), HSy0.out.2.1.below hb HSy0.out.2.1.lt, HSy0.out.2.2.below hb HSy0.out.2.2.lt⟩
    have HFy : Hid (Sl (y0.alloc (.cells #[.bool sh.t, .slice sh.A sh.fs.length sh.c] 65)) (y0.alloc (.cells #[.bool sh.t, .slice sh.A sh.fs.length sh.c] 65)).heap.size (some ⟨y0.heap.size, 0, none⟩) (shcells [sh]) ∧ ∀ y ∈ [sh], ShOk (y0.alloc (.cells #[.bool sh.t, .slice sh.A sh.fs.length sh.c] 65)) y) := zh ⟨one_shape y0 sh, fun y hy => by
     obtain rfl : y = sh := by simpa using hy
     exact HSH.out _ (HSy0.out.1.trans (hb.mono HSy0.out.1.size))⟩
    have HLy1 := zh (own_below HLy0.out hb (zL _))
    have HVy1 := zh (own_below HVy0.out hb (zL _))
    have HNy1 : Hid (∀ l ∈ NL, LatO (y0.alloc (.cells #[.bool sh.t, .slice sh.A sh.fs.length sh.c] 65)) w1.heap.size l) := zh fun l hl => (HNy0.out l hl).below hb
    clear hb
    refine hK.out _ _ HSy1.out ?_
    clear hK K
    (try simp only [Act.put, zA4, zA5, zA6])
    generalize hgb : y0.heap.size = g6 at *
    generalize (y0.alloc (.cells #[.bool sh.t, .slice sh.A sh.fs.length sh.c] 65)) = y1 at *
    clear hgb
    (refine wpOU_solo (zO rfl) ?_)
    intro K hK
    go_simp
    go_at_call 103
    have HPR := zh (product_any (some ⟨g6, 0, none⟩) 1 [sh] y1 HFy.out.1 HFy.out.2 (by simp) HFW.out)
    refine HPR.out.mono ?_
    rintro e y2 ⟨A2, c2, gs, rfl, hown, hfo, hcore, hb⟩
    have HSy2 : Hid (Below w1.heap.size w1 y2 ∧ RowAt y2 g3 51 #[.slice (some ⟨bL, 0, none⟩) ln d1, .slice X2 vn d2] ∧ RowAt y2 gl 71 #[.string nm, .bool sh.t, .slice sh.A sh.fs.length sh.c]) := zh ⟨HSy1.out.1.trans (hb.mono HSy1.out.1.size), HSy1.out.2.1.below hb HSy1.out.2.1.lt, HSy1.out.2.2.below hb HSy1.out.2.2.lt⟩
    have HLy2 := zh (own_below HLy1.out hb (zL _))
    have HVy2 := zh (own_below HVy1.out hb (zL _))
    have HNy2 : Hid (∀ l ∈ NL, LatO y2 w1.heap.size l) := zh fun l hl => (HNy1.out l hl).below hb
    have HNW : Hid (LatO y2 w1.heap.size (nm, ⟨sh.t, A2, c2, gs⟩)) := zh ⟨own_mono hown HSy1.out.1.size, fun g hg => (hfo g hg).mono HSy1.out.1.size⟩
    have HCR := zh hcore
    clear hown hfo hcore hb HPR
    refine hK.out _ _ HSy2.out ?_
    clear hK K
    (try simp only [Act.put, zA4, zA5, zA6])
    iterate 2
     (refine wpOU_step (zO rfl) ?_)
     (first
      | (refine wpOU_skip (by rfl) ?_)
      | (refine wpOU_take (v := ?_) (by rfl) ?_ ?_; rotate_left 1; (intro wx hSx; have hc_0 := C0 wx hSx; have hc_1 := C1 wx hSx; have hc_2 := C2 wx hSx; go_simp; try with_reducible rfl)))
     (try simp only [Act.put, zA4, zA5, zA6])
    (refine wpOU_solo (zO rfl) ?_)
    intro K hK
    have m1 := ownS_at HLy2.out HAT.out.2.1
    have m2 := ownS_at HLy2.out HAT.out.2.2
    have f1 := own_free HLy2.out (k * 3 + 1)
    have f2 := own_free HLy2.out (k * 3 + 1 + 1)
    obtain ⟨rs, hrs⟩ := ownS_row HLy2.out
    have HRS := zh hrs; clear hrs
    have HNE3 : Hid (bL ≠ g3) := zh fun e => own_ne2 HLy2.out HSy2.out.2.1 HTY1.out (by rw [← e]; rfl)
    have HOW : Hid ((((y2.setCell ⟨bL, k * 3 + 1, none⟩ (.bool true)).setCell ⟨bL, k * 3 + 1 + 1, none⟩ (.slice A2 gs.length c2))).ownsRow w1.heap.size 71 3 (.slice (some ⟨bL, 0, none⟩) ln d1) ln ((CUR.set (k * 3 + 1) (.bool true)).set (k * 3 + 1 + 1) (.slice A2 gs.length c2))) := zh (ownS_set (ownS_set HLy2.out _ _) _ _)
    have HFAR : Hid (∀ {base size n : Nat} {e : TypeId} {v : Value} {cs : List Value}, y2.ownsRow base e size v n cs → e ≠ 71 → ((y2.setCell ⟨bL, k * 3 + 1, none⟩ (.bool true)).setCell ⟨bL, k * 3 + 1 + 1, none⟩ (.slice A2 gs.length c2)).ownsRow base e size v n cs) := zh fun h ht => ownS_far (ownS_far h HRS.out ht _ _) (HRS.out.put _ _) ht _ _
    have HSy3 : Hid (Below w1.heap.size w1 ((y2.setCell ⟨bL, k * 3 + 1, none⟩ (.bool true)).setCell ⟨bL, k * 3 + 1 + 1, none⟩ (.slice A2 gs.length c2)) ∧ RowAt ((y2.setCell ⟨bL, k * 3 + 1, none⟩ (.bool true)).setCell ⟨bL, k * 3 + 1 + 1, none⟩ (.slice A2 gs.length c2)) g3 51 #[.slice (some ⟨bL, 0, none⟩) ln d1, .slice X2 vn d2] ∧ RowAt ((y2.setCell ⟨bL, k * 3 + 1, none⟩ (.bool true)).setCell ⟨bL, k * 3 + 1 + 1, none⟩ (.slice A2 gs.length c2)) gl 71 #[.string nm, .bool sh.t, .slice sh.A sh.fs.length sh.c]) := zh ⟨(HSy2.out.1.setCell (p := ⟨bL, k * 3 + 1, none⟩) HBL.out _).setCell (p := ⟨bL, k * 3 + 1 + 1, none⟩) HBL.out _, (HSy2.out.2.1.far (p := ⟨bL, k * 3 + 1, none⟩) HNE3.out _).far (p := ⟨bL, k * 3 + 1 + 1, none⟩) HNE3.out _, (HSy2.out.2.2.far (p := ⟨bL, k * 3 + 1, none⟩) HNEl.out _).far (p := ⟨bL, k * 3 + 1 + 1, none⟩) HNEl.out _⟩
    have HVy3 := zh (HFAR.out HVy2.out HTY4.out)
    have HNy3 : Hid (∀ l ∈ NL, LatO ((y2.setCell ⟨bL, k * 3 + 1, none⟩ (.bool true)).setCell ⟨bL, k * 3 + 1 + 1, none⟩ (.slice A2 gs.length c2)) w1.heap.size l) := zh fun l hl => ⟨HFAR.out (HNy2.out l hl).own HTY5.out, fun g hg => ⟨HFAR.out ((HNy2.out l hl).fac g hg).own HTY6.out, ((HNy2.out l hl).fac g hg).rows⟩⟩
    have HNW3 : Hid (LatO ((y2.setCell ⟨bL, k * 3 + 1, none⟩ (.bool true)).setCell ⟨bL, k * 3 + 1 + 1, none⟩ (.slice A2 gs.length c2)) w1.heap.size (nm, ⟨sh.t, A2, c2, gs⟩)) := zh ⟨HFAR.out HNW.out.own HTY5.out, fun g hg => ⟨HFAR.out (HNW.out.fac g hg).own HTY6.out, (HNW.out.fac g hg).rows⟩⟩
    simp only [sv]
    go_simp
    refine hK.out _ _ HSy3.out ?_
    clear hK K m1 m2 f1 f2 HFAR HRS
    (try simp only [Act.put, zA4, zA5, zA6])
    generalize ((y2.setCell ⟨bL, k * 3 + 1, none⟩ (.bool true)).setCell ⟨bL, k * 3 + 1 + 1, none⟩ (.slice A2 gs.length c2)) = y3 at *
    refine wpOU_done ?_
    obtain ⟨_, r1, r2, _, _, _⟩ := rw3 HSy3.out.2.2
    have c3 := (HSy3.out.2.1.cell 0).trans (show (#[Value.slice (some ⟨bL, 0, none⟩) ln d1, .slice X2 vn d2])[0]? = some (.slice (some ⟨bL, 0, none⟩) ln d1) from rfl)
    have m1 := ownS_at HOW.out (show ((CUR.set (k * 3 + 1) (.bool true)).set (k * 3 + 1 + 1) (.slice A2 gs.length c2))[k * 3 + 1]? = some (.bool true) from by
     have := (List.getElem?_eq_some_iff.1 HAT.out.2.1).1
     rw [List.getElem?_set_ne (by omega), List.getElem?_set_self this])
    have f1 := own_free HOW.out (k * 3 + 1)
    obtain ⟨rs, hrs⟩ := ownS_row HOW.out
    have HRS := zh hrs; clear hrs
    have HNE3 : Hid (bL ≠ g3) := zh fun e => own_ne2 HOW.out HSy3.out.2.1 HTY1.out (by rw [← e]; rfl)
    go_wp2_with fail
    have HOZ : Hid ((y3.setCell ⟨bL, k * 3 + 1, none⟩ (.bool sh.t)).ownsRow w1.heap.size 71 3 (.slice (some ⟨bL, 0, none⟩) ln d1) ln (((NL ++ [(nm, (⟨sh.t, A2, c2, gs⟩ : Shp))]) ++ s.ls.drop (k + 1)).flatMap latC)) := zh (by rw [← HLS2.out]; exact ownS_set HOW.out _ _)
    have HFAR : Hid (∀ {base size n : Nat} {e : TypeId} {v : Value} {cs : List Value}, y3.ownsRow base e size v n cs → e ≠ 71 → (y3.setCell ⟨bL, k * 3 + 1, none⟩ (.bool sh.t)).ownsRow base e size v n cs) := zh fun h ht => ownS_far h HRS.out ht _ _
    go_roundw
    case rel =>
     refine ⟨k + 1, NL ++ [(nm, (⟨sh.t, A2, c2, gs⟩ : Shp))], by have := HLT.out; omega, by go_num, by rw [zA7, HNLn.out]; rfl, zh (HSy3.out.1.setCell (p := ⟨bL, k * 3 + 1, none⟩) HBL.out _), zh (HSy3.out.2.1.far (p := ⟨bL, k * 3 + 1, none⟩) HNE3.out _), HOZ, zh (HFAR.out HVy3.out HTY4.out), zh fun l hl => ?_, ?_⟩
     ·rcases List.mem_append.1 hl with h | h
      ·exact ⟨HFAR.out (HNy3.out l h).own HTY5.out, fun g hg => ⟨HFAR.out ((HNy3.out l h).fac g hg).own HTY6.out, ((HNy3.out l h).fac g hg).rows⟩⟩
      ·obtain rfl : l = (nm, (⟨sh.t, A2, c2, gs⟩ : Shp)) := by simpa using h
       exact ⟨HFAR.out HNW3.out.own HTY5.out, fun g hg => ⟨HFAR.out (HNW3.out.fac g hg).own HTY6.out, (HNW3.out.fac g hg).rows⟩⟩
     ·show (NL ++ [(nm, (⟨sh.t, A2, c2, gs⟩ : Shp))]).map lcore = (s.ls.take (k + 1)).map lcore
      rw [HTKk.out, List.map_append, List.map_append, HEr.out]
      have hcc := HCR.out
      simp [lcore, flat] at hcc ⊢
      exact hcc
    case measure => have := HLT.out; simp [intOf]; omega
   ·obtain rfl : k = ln := by omega
    have hZ := HZR.out.below HSr.out HZR.out.lt
    have HZr := zh hZ; clear hZ
    have hdrop : s.ls.drop k = [] := List.drop_eq_nil_of_le (by rw [HLN.out]; omega)
    have htake : s.ls.take k = s.ls := List.take_of_length_le (by rw [HLN.out]; omega)
    have hL := HLr.out
    rw [hdrop, List.append_nil] at hL
    have hE := HEr.out
    rw [htake] at hE
    have hV := HVr.out
    rw [← HVC.out] at hV
    have HL9 := zh hL; have HE9 := zh hE; have HV9 := zh hV
    clear hL hE hV hdrop htake
    go_wp2_with (first
     | (refine wpList_loadS (by rfl) _ _ rfl g3 rfl _ _ _ HRr.out Tryz.underlying51 rfl (by kernel_rfl) ?_)
     | (refine wpList_stRow (by rfl) _ _ _ rfl (w.heap.size + 1) _ rfl rfl _ _ HZr.out (by kernel_rfl) rfl (by simp [Value.oneCell']) ?_; intro wz rz he))
    have hne : ∀ {size n : Nat} {e : TypeId} {v : Value} {cs : List Value}, wr.ownsRow w1.heap.size e size v n cs → wz.ownsRow w1.heap.size e size v n cs := fun h => own_same h fun b _ hv => he.block b (by have := (h.lt b hv).1; omega)
    have hBz : Below w.heap.size w wz := hb.trans ((HSr.out.mono (by omega)).trans (he.below (by omega)))
    have hm : ∀ {e : TypeId} {size n : Nat} {v : Value} {cs : List Value}, wr.ownsRow w1.heap.size e size v n cs → wz.ownsRow w.heap.size e size v n cs := fun h => own_mono (hne h) (by omega)
    refine bodyPost_ret (retRow rfl _ _ (w.heap.size + 1) _ _ (0, 0) _ rfl rz Tryz.underlying51 rfl (by kernel_rfl)) rfl (HQ.out _ _ ⟨⟨X1, d1, NL, X2, d2, s.vs⟩, ?_, ⟨?_, ?_, fun l hl => ⟨hm (HNr.out l hl).own, fun g hg => ⟨hm ((HNr.out l hl).fac g hg).own, ((HNr.out l hl).fac g hg).rows⟩⟩, HE9.out, rfl⟩, hBz⟩)
    ·simp only [scv]
     rw [hnl, HVN.out]
    ·show wz.ownsRow w.heap.size 71 3 (.slice X1 NL.length d1) NL.length (NL.flatMap latC)
     rw [hnl]; exact hm HL9.out
    ·show wz.ownsRow w.heap.size 73 3 (.slice X2 s.vs.length d2) s.vs.length (s.vs.flatMap varC)
     rw [HVN.out]; exact hm HV9.out
end
section
open Go.RowKit RM
theorem rw_range {l : List Nat} (h : RW l) : ∃ f : Nat → Nat, l = (List.range 64).map f := by
 refine ⟨fun i => l.getD i 0, List.ext_getElem? fun i => ?_⟩
 rw [List.getElem?_map]
 by_cases hi : i < 64
 ·rw [List.getElem?_range hi, List.getElem?_eq_getElem (by rw [h.1]; exact hi)]
  simp [List.getD_eq_getElem?_getD, List.getElem?_eq_getElem (show i < l.length by rw [h.1]; exact hi)]
 ·rw [List.getElem?_eq_none (by rw [h.1]; omega), List.getElem?_eq_none (by simp; omega)]; rfl
theorem built_range (kd n : Int) (f : Nat → Nat) (X : Option Addr) (m d : Nat) : Tryz.prog.built 135 [(0, .int .i64 kd), (1, .slice X m d), (2, .agg (rv n ((List.range 64).map f)))] = some (.mk (.int .i64 kd :: .slice X m d :: rvl n ((List.range 64).map f))) := by kernel_rfl
theorem built_fac (kd n : Int) (l : List Nat) (X : Option Addr) (d : Nat) (xs : List ByteArray) (m : Nat) (hm : xs.length = m) (hl : RW l) : Tryz.prog.built 135 [(0, .int .i64 kd), (1, .slice X m d), (2, .agg (rv n l))] = some (fv ⟨kd, X, d, xs, n, l⟩) := by
 obtain ⟨f, rfl⟩ := rw_range hl
 subst hm
 exact built_range kd n f X xs.length d
end
section
open Go.RowKit RM
def shT (op : Int) : Bool := decide (op = 3)
def shF (s : Sc) (x : Cd) : List Fac :=
 if x.op = 1 then [⟨1, none, 0, x.txt, 0, zs⟩] else if x.op = 2 then [⟨2, none, 0, x.txt, 0, zs⟩] else if x.op = 3 then flat (dshF s x.ws)
 else if x.op = 4 then [⟨3, none, 0, x.txt, ((pts (x.ws.length : Nat) : Nat) : Int), relF x⟩] else if x.op = 5 then [⟨4, none, 0, x.txt, ((pts (x.ws.length : Nat) : Nat) : Int), relF x⟩] else []
theorem fac_own {w : World} {B : Nat} {X : Option Addr} {d : Nat} {xs : List ByteArray} (kd n : Int) (l : List Nat) (h : w.ownsRow B 9 1 (.slice X xs.length d) xs.length (scells xs)) (hl : RW l) (hm : xs.length ≤ 65536) : FacOk w ⟨kd, X, d, xs, n, l⟩ :=
 FacO.ok (B := B) (f := ⟨kd, X, d, xs, n, l⟩) ⟨h, hl⟩
theorem one_build (kd : Int) (X : Option Addr) (d : Nat) (xs : List ByteArray) (w : World) (hf : FacOk w ⟨kd, X, d, xs, 0, zs⟩) (hm : xs.length ≤ 65536) :
 Calls Tryz.prog 101 #[.agg ((Tryz.zeroCells135.setIfInBounds 0 (Value.int IntKind.i64 kd)).setIfInBounds 1 (.slice X xs.length d))] w fun e w' => ∃ A' c' gs, e = .returned (.agg (sv false A' gs.length c')) ∧ w'.ownsRow w.heap.size 135 67 (.slice A' gs.length c') gs.length (fscells gs) ∧
  (∀ g ∈ gs, FacO w' w.heap.size g) ∧ gs.map core = [⟨kd, none, 0, xs, 0, zs⟩].map core ∧ Below w.heap.size w w' := by
 have e : ((Tryz.zeroCells135.setIfInBounds 0 (Value.int IntKind.i64 kd)).setIfInBounds 1 (.slice X xs.length d)) = fv ⟨kd, X, d, xs, 0, zs⟩ := by
  have hz : Tryz.zeroCells135 = fv f0 := by kernel_rfl
  rw [hz]
  rfl
 rw [e]
 exact one_any ⟨kd, X, d, xs, 0, zs⟩ w hf hm
theorem take_build3 {P : Program} {S : World → Prop} {o : Oper} {a : Act} (t : TypeId) (i0 i1 i2 : Nat) (x0 x1 x2 : Operand) (ho : o.op = .build t #[(i0, x0), (i1, x1), (i2, x2)]) (v0 v1 v2 : Value) (h0 : a.eval x0 = v0) (h1 : a.eval x1 = v1) (h2 : a.eval x2 = v2) (cells : Array Value) (hc : P.built t [(i0, v0), (i1, v1), (i2, v2)] = some cells) : ∀ w, S w → (execOp a.eval o).run P w = .ok (.value (.agg cells)) w := fun w _ => by
 have hl : (#[(i0, x0), (i1, x1), (i2, x2)].map fun (x : Nat × Operand) => (x.1, a.eval x.2)).toList = [(i0, v0), (i1, v1), (i2, v2)] := by simp [h0, h1, h2]
 unfold execOp
 simp only [ho, Sem.run_bind]
 rw [run_build w t _ cells (by rw [hl]; exact hc)]
 rfl
theorem sshape_any (s : Sc) (x : Cd) (w : World) (h : ScOk w s) (hx : CdOk w w.heap.size x) (hsum : x.op = 3 → (flat (dshF s x.ws)).length ≤ 65536) :
 Calls Tryz.prog 34 #[.agg (scv s), .agg (cdv x)] w fun e w' => ∃ A' c' gs, e = .returned (.agg (sv (shT x.op) A' gs.length c')) ∧ w'.ownsRow w.heap.size 135 67 (.slice A' gs.length c') gs.length (fscells gs) ∧ (∀ g ∈ gs, FacO w' w.heap.size g) ∧ gs.map core = (shF s x).map core ∧ Below w.heap.size w w' := by
 have h3 := (three_rows w (scv s) (cdv x) (sv false none 0 0) 51 30 65)
 obtain ⟨r0, q0, z0, hb⟩ := h3
 refine cHid fun Q' hQ => ?_
 have HQ := zh hQ; clear hQ
 go_enter Tryz.func34, Tryz.ntmps34
 go_upto_region 1 with fail
 change Code.wp _ _ _ _ (((w.alloc (.cells (scv s) 51)).alloc (.cells (cdv x) 30)).alloc (.cells (sv false none 0 0) 65))
 generalize ((w.alloc (.cells (scv s) 51)).alloc (.cells (cdv x) 30)).alloc (.cells (sv false none 0 0) 65) = w1 at *
 have HOK := zh (h.below hb)
 have HX := zh (hx.below hb)
 have HRS := zh r0
 have HRC := zh q0
 have HRZ : Hid (RowAt w1 (w.heap.size + 1 + 1) 65 (sv false none 0 0)) := zh z0
 have HB := zh hb
 have hz := z0.lt
 have d0 := (cd_cells q0).1
 have d4 := (cd_cells q0).2.2.2.2.1
 have hws : x.ws.length ≤ 65536 := hx.wfew
 have HTM : Hid (x.txt.length = x.ws.length) := zh (by simp [Cd.txt])
 have HTL : Hid (x.txt.length ≤ 65536) := zh (by rw [HTM.out]; exact hws)
 have HTX0 : Hid (Calls Tryz.prog 102 #[.slice x.A x.ws.length x.c] w1 fun e w' => ∃ X d, e = .returned (.slice X x.ws.length d) ∧ w'.ownsRow w1.heap.size 9 1 (.slice X x.ws.length d) x.ws.length (scells x.txt) ∧ Below w1.heap.size w1 w') := zh (stexts_any x.A x.c x.ws w1 (by omega) (HX.out.ws.mono (by omega)))
 have HXF : Hid (∀ W, Below (w.heap.size + 1 + 1) w1 W → CdOk W w.heap.size x) := zh fun W hW => HX.out.below (hW.mono (by omega))
 have HTX : Hid (∀ W, Below (w.heap.size + 1 + 1) w1 W → Calls Tryz.prog 102 #[.slice x.A x.ws.length x.c] W fun e w' => ∃ X d, e = .returned (.slice X x.ws.length d) ∧ w'.ownsRow W.heap.size 9 1 (.slice X x.ws.length d) x.ws.length (scells x.txt) ∧ Below W.heap.size W w') := zh fun W hW => stexts_any x.A x.c x.ws W (by omega) ((HXF.out W hW).ws.mono (by have := hW.size; omega))
 have C0 : ∀ W, Below (w.heap.size + 1 + 1) w1 W → W.cell? ⟨w.heap.size + 1, 4, none⟩ = some (.slice x.A x.ws.length x.c) := fun W hW => (hW.cell (p := ⟨w.heap.size + 1, 4, none⟩) (by show w.heap.size + 1 < _; omega)).trans d4
 have C1 : ∀ W, Below (w.heap.size + 1 + 1) w1 W → RowAt W (w.heap.size + 1) 30 (cdv x) := fun W hW => HRC.out.below hW (by omega)
 have HCI := zh (cdinfo hx)
 have HWN := zh hx.wn
 have HSUM := zh hsum
 clear h hx r0 q0 z0 hb hsum
 by_cases h1 : x.op = 1
 ·have hxo := h1; clear h1
  have hkd : shF s x = [⟨1, none, 0, x.txt, 0, zs⟩] := by unfold shF; rw [hxo]; rfl
  have hst : shT x.op = false := by unfold shT; rw [hxo]; rfl
  rw [hkd, hst] at HQ
  have HON := zh fun (X : Option Addr) (d : Nat) (W : World) (h : FacOk W ⟨1, X, d, x.txt, 0, zs⟩) => one_build 1 X d x.txt W h HTL.out
  rw [hxo] at d0
  have HXO := zh hxo; clear hxo hkd hst
  go_wp2_with (first
   | (go_at_call 102; refine HTX0.out.mono ?_; rintro e w2 ⟨X, d, rfl, hown, hb2⟩; have HFO := zh (fac_own 1 0 zs (by rw [HTM.out]; exact hown) RW.zs HTL.out); have HB2 := zh hb2; have HOX := zh (HON.out X d w2); rw [HTM.out] at HOX; clear hown hb2)
   | (go_at_call 101; refine (HOX.out HFO.out).mono ?_; rintro e w3 ⟨A3, c3, gs, rfl, hown, hfo, hcr, hb3⟩; have HOW := zh hown; have HFF := zh hfo; have HCR := zh hcr; have HB3 := zh hb3; have HZ3 := zh ((HRZ.out.below HB2.out HRZ.out.lt).below hb3 (by have := HB2.out.size; have := HRZ.out.lt; omega)); clear hown hfo hcr hb3)
   | (refine wpList_storeShape (by rfl) _ _ rfl (w.heap.size + 1 + 1) rfl false A3 gs.length c3 rfl _ zero_shape_size HZ3.out ?_; intro wz rz he))
  have hke : ∀ {size n : Nat} {e : TypeId} {v : Value} {cs : List Value}, w3.ownsRow w2.heap.size e size v n cs → wz.ownsRow w.heap.size e size v n cs := fun h => own_mono (own_same h fun b _ hv => he.block b (by have := (h.lt b hv).1; have := HB2.out.size; have := HRZ.out.lt; omega)) (by have := HB.out.size; have := HB2.out.size; omega)
  exact bodyPost_ret (ret_shape rfl _ _ (w.heap.size + 1 + 1) false A3 gs.length c3 rfl rz) rfl (HQ.out _ _ ⟨A3, c3, gs, rfl, hke HOW.out, fun g hg => ⟨hke (HFF.out g hg).own, (HFF.out g hg).rows⟩, HCR.out, HB.out.trans ((HB2.out.mono HB.out.size).trans ((HB3.out.mono (by have := HB.out.size; have := HB2.out.size; omega)).trans (he.below (by omega))))⟩)
 by_cases h2 : x.op = 2
 ·have hxo := h2; clear h2
  have hkd : shF s x = [⟨2, none, 0, x.txt, 0, zs⟩] := by unfold shF; rw [hxo]; rfl
  have hst : shT x.op = false := by unfold shT; rw [hxo]; rfl
  rw [hkd, hst] at HQ
  have HON := zh fun (X : Option Addr) (d : Nat) (W : World) (h : FacOk W ⟨2, X, d, x.txt, 0, zs⟩) => one_build 2 X d x.txt W h HTL.out
  rw [hxo] at d0
  have HXO := zh hxo; clear hxo hkd hst
  go_wp2_with (first
   | (go_at_call 102; refine HTX0.out.mono ?_; rintro e w2 ⟨X, d, rfl, hown, hb2⟩; have HFO := zh (fac_own 2 0 zs (by rw [HTM.out]; exact hown) RW.zs HTL.out); have HB2 := zh hb2; have HOX := zh (HON.out X d w2); rw [HTM.out] at HOX; clear hown hb2)
   | (go_at_call 101; refine (HOX.out HFO.out).mono ?_; rintro e w3 ⟨A3, c3, gs, rfl, hown, hfo, hcr, hb3⟩; have HOW := zh hown; have HFF := zh hfo; have HCR := zh hcr; have HB3 := zh hb3; have HZ3 := zh ((HRZ.out.below HB2.out HRZ.out.lt).below hb3 (by have := HB2.out.size; have := HRZ.out.lt; omega)); clear hown hfo hcr hb3)
   | (refine wpList_storeShape (by rfl) _ _ rfl (w.heap.size + 1 + 1) rfl false A3 gs.length c3 rfl _ zero_shape_size HZ3.out ?_; intro wz rz he))
  have hke : ∀ {size n : Nat} {e : TypeId} {v : Value} {cs : List Value}, w3.ownsRow w2.heap.size e size v n cs → wz.ownsRow w.heap.size e size v n cs := fun h => own_mono (own_same h fun b _ hv => he.block b (by have := (h.lt b hv).1; have := HB2.out.size; have := HRZ.out.lt; omega)) (by have := HB.out.size; have := HB2.out.size; omega)
  exact bodyPost_ret (ret_shape rfl _ _ (w.heap.size + 1 + 1) false A3 gs.length c3 rfl rz) rfl (HQ.out _ _ ⟨A3, c3, gs, rfl, hke HOW.out, fun g hg => ⟨hke (HFF.out g hg).own, (HFF.out g hg).rows⟩, HCR.out, HB.out.trans ((HB2.out.mono HB.out.size).trans ((HB3.out.mono (by have := HB.out.size; have := HB2.out.size; omega)).trans (he.below (by omega))))⟩)
 by_cases h3 : x.op = 3
 ·have hkd : shF s x = flat (dshF s x.ws) := by unfold shF; rw [h3]; rfl
  have hst : shT x.op = true := by unfold shT; rw [h3]; rfl
  rw [hkd, hst] at HQ
  rw [h3] at d0
  have HSUM := zh (HSUM.out h3)
  have HXO := zh h3; clear h3 hkd hst h1 h2
  have HDN := zh (denoted_any s x.A x.c x.ws w1 HOK.out hws HWN.out (HX.out.ws.mono (by omega)))
  have HSHk : Hid (∀ y ∈ dshF s x.ws, ∀ W, Below w1.heap.size w1 W → ShOk W y) := zh fun y hy W hW => by
   obtain ⟨l, hl, rfl⟩ := dsh_mem hy
   exact (HOK.out.sh l hl).below hW
  have HLD : Hid ((dshF s x.ws).length ≤ 65536) := zh (zM (dshK_len s x.ws x.ws.length) hws)
  generalize dshF s x.ws = DF at *
  go_wp2_with (first
   | (refine wpList_loadS (by rfl) _ _ rfl w.heap.size rfl _ _ _ HRS.out Tryz.underlying51 rfl (by kernel_rfl) ?_)
   | (go_at_call 104; refine HDN.out.mono ?_; rintro e w2 ⟨X, d, rfl, hown, hb2⟩; have HB2 := zh hb2; have HPR := zh (product_any X d DF w2 (Sl.of_own hown) (fun y hy => HSHk.out y hy w2 hb2) HLD.out HSUM.out); clear hown hb2)
   | (go_at_call 103; refine HPR.out.mono ?_; rintro e w3 ⟨A3, c3, gs, rfl, hown, hfo, hcr, hb3⟩; have HOW := zh hown; have HFF := zh hfo; have HCR := zh hcr; have HB3 := zh hb3; have HZ3 := zh ((HRZ.out.below HB2.out HRZ.out.lt).below hb3 (by have := HB2.out.size; have := HRZ.out.lt; omega)); clear hown hfo hcr hb3)
   | (refine wpList_storeShape (by rfl) _ _ rfl (w.heap.size + 1 + 1) rfl true A3 gs.length c3 rfl _ zero_shape_size HZ3.out ?_; intro wz rz he))
  have hke : ∀ {size n : Nat} {e : TypeId} {v : Value} {cs : List Value}, w3.ownsRow w2.heap.size e size v n cs → wz.ownsRow w.heap.size e size v n cs := fun h => own_mono (own_same h fun b _ hv => he.block b (by have := (h.lt b hv).1; have := HB2.out.size; have := HRZ.out.lt; omega)) (by have := HB.out.size; have := HB2.out.size; omega)
  exact bodyPost_ret (ret_shape rfl _ _ (w.heap.size + 1 + 1) true A3 gs.length c3 rfl rz) rfl (HQ.out _ _ ⟨A3, c3, gs, rfl, hke HOW.out, fun g hg => ⟨hke (HFF.out g hg).own, (HFF.out g hg).rows⟩, HCR.out, HB.out.trans ((HB2.out.mono HB.out.size).trans ((HB3.out.mono (by have := HB.out.size; have := HB2.out.size; omega)).trans (he.below (by omega))))⟩)
 by_cases h4 : x.op = 4
 ·have hxo := h4; clear h4 h1 h2 h3
  have hkd : shF s x = [⟨3, none, 0, x.txt, ((pts (x.ws.length : Nat) : Nat) : Int), relF x⟩] := by unfold shF; rw [hxo]; rfl
  have hst : shT x.op = false := by unfold shT; rw [hxo]; rfl
  rw [hkd, hst] at HQ
  rw [hxo] at d0
  have HXO := zh hxo; clear hxo hkd hst
  go_upto_region 9 with fail
  clear d0 d4
  have HRZ0 : Hid (RowAt w1.drew (w.heap.size + 1 + 1) 65 (sv false none 0 0)) := HRZ
  have HSv0 : Hid (Below (w.heap.size + 1 + 1) w1 w1.drew) := zh (zB _ _).drew
  refine wp_region_ou (fun W => Below (w.heap.size + 1 + 1) w1 W) ((.take 0 (.take 1 (.take 3 (.solo 2 (.solo 4 (.take 5 (.solo 6 (.solo 7 .nil))))))))) (by kernel_rfl) (by kernel_rfl) rfl (by kernel_rfl) HSv0.out ?_
  generalize w1.drew = v0 at HRZ0 HSv0 ⊢
  iterate 3
   (refine wpOU_step (zO rfl) ?_)
   (first
    | (refine wpOU_skip (by rfl) ?_)
    | (refine wpOU_take (by rfl) (take_row _ _ rfl (w.heap.size + 1) rfl _ _ _ C1 Tryz.underlying30 rfl HCI.out) ?_)
    | (refine wpOU_take (v := ?_) (by rfl) ?_ ?_; rotate_left 1; (intro wx hSx; have hc_0 := C0 wx hSx; go_simp; try with_reducible rfl)))
   (try simp only [Act.put, zA4, zA5, zA6])
  (refine wpOU_solo (zO rfl) ?_)
  intro K hK
  go_simp
  go_at_call 102
  refine (HTX.out v0 HSv0.out).mono ?_
  rintro e v1 ⟨X, d, rfl, hown, hb⟩
  have HSv1 : Hid (Below (w.heap.size + 1 + 1) w1 v1) := zh (HSv0.out.trans (hb.mono (by have := HSv0.out.size; omega)))
  have HOW1 := zh hown
  have HZc : Hid (w1.heap.size ≤ v0.heap.size) := zh HSv0.out.size
  have HRZ1 := zh (HRZ0.out.below hb HRZ0.out.lt)
  clear hb hown
  refine hK.out _ _ HSv1.out ?_
  clear hK K
  (try simp only [Act.put, zA4, zA5, zA6])
  (refine wpOU_solo (zO rfl) ?_)
  intro K hK
  go_simp
  go_at_call 93
  refine (relation_any x v1 ((HXF.out v1 HSv1.out).mono (by have := HSv1.out.size; omega))).mono ?_
  rintro e v2 ⟨rfl, hb⟩
  have HSv2 : Hid (Below (w.heap.size + 1 + 1) w1 v2) := zh (HSv1.out.trans (hb.mono (by have := HSv1.out.size; omega)))
  have HOW2 := zh (own_below HOW1.out hb (zL _))
  have HRZ2 := zh (HRZ1.out.below hb HRZ1.out.lt)
  have HZd : Hid (w1.heap.size ≤ v2.heap.size) := zh HSv2.out.size
  clear hb
  refine hK.out _ _ HSv2.out ?_
  clear hK K
  (try simp only [Act.put, zA4, zA5, zA6])
  iterate 1
   (refine wpOU_step (zO rfl) ?_)
   (first
    | (refine wpOU_skip (by rfl) ?_)
    | (refine wpOU_take (by rfl) (take_row _ _ rfl (w.heap.size + 1) rfl _ _ _ C1 Tryz.underlying30 rfl HCI.out) ?_)
    | (refine wpOU_take (by rfl) (take_build3 _ _ _ _ _ _ _ rfl _ _ _ rfl rfl rfl _ (built_fac 3 _ (relF x) X d x.txt x.ws.length HTM.out (relF_rw x))) ?_)
    | (refine wpOU_take (v := ?_) (by rfl) ?_ ?_; rotate_left 1; (intro wx hSx; have hc_0 := C0 wx hSx; go_simp; try with_reducible rfl)))
   (try simp only [Act.put, zA4, zA5, zA6])
  (refine wpOU_solo (zO rfl) ?_)
  intro K hK
  go_simp
  go_at_call 101
  refine (one_any ⟨3, X, d, x.txt, ((pts (x.ws.length : Nat) : Nat) : Int), relF x⟩ v2 (fac_own 3 _ _ (by rw [HTM.out]; exact HOW2.out) (relF_rw x) HTL.out) HTL.out).mono ?_
  rintro e v3 ⟨A3, c3, gs, rfl, hown, hfo, hcr, hb⟩
  have HSv3 : Hid (Below (w.heap.size + 1 + 1) w1 v3) := zh (HSv2.out.trans (hb.mono (by have := HSv2.out.size; omega)))
  have HOW3 := zh hown; have HFF := zh hfo; have HCR := zh hcr
  have HRZ3 := zh (HRZ2.out.below hb HRZ2.out.lt)
  clear hb hown hfo hcr
  refine hK.out _ _ HSv3.out ?_
  clear hK K
  (try simp only [Act.put, zA4, zA5, zA6])
  (refine wpOU_solo (zO rfl) ?_)
  intro K hK
  rw [if_pos (by rfl)]
  refine wp_store_row _ _ _ rfl (w.heap.size + 1 + 1) (sv false A3 gs.length c3) rfl rfl _ _ HRZ3.out (by kernel_rfl) rfl (by simp [sv, Value.oneCell']) ?_
  have HRZ4 := zh (HRZ3.out.setRow (sv false A3 gs.length c3))
  have HSv4 : Hid (Below (w.heap.size + 1 + 1) w1 (v3.setRow (w.heap.size + 1 + 1) (sv false A3 gs.length c3))) := zh (HSv3.out.trans (Else.below (Else.setRow v3 _ _) (zL _)))
  have HKE : Hid (∀ {size n : Nat} {e : TypeId} {v : Value} {cs : List Value}, v3.ownsRow v2.heap.size e size v n cs → (v3.setRow (w.heap.size + 1 + 1) (sv false A3 gs.length c3)).ownsRow w.heap.size e size v n cs) := zh fun h => own_mono (own_same h fun b _ hv => setRow_other _ _ _ _ (by have := (h.lt b hv).1; have := HZd.out; have := HRZ.out.lt; omega)) (by have := HB.out.size; have := HZd.out; omega)
  refine hK.out _ _ HSv4.out ?_
  clear hK K
  (try simp only [Act.put, zA4, zA5, zA6])
  generalize v3.setRow (w.heap.size + 1 + 1) (sv false A3 gs.length c3) = v4 at *
  refine wpOU_done ?_
  go_wp2_with fail
  exact bodyPost_ret (ret_shape rfl _ _ (w.heap.size + 1 + 1) false A3 gs.length c3 rfl HRZ4.out) rfl (HQ.out _ _ ⟨A3, c3, gs, rfl, HKE.out HOW3.out, fun g hg => ⟨HKE.out (HFF.out g hg).own, (HFF.out g hg).rows⟩, HCR.out, HB.out.trans (HSv4.out.mono (by omega))⟩)
 by_cases h5 : x.op = 5
 ·have hxo := h5; clear h5 h1 h2 h3 h4
  have hkd : shF s x = [⟨4, none, 0, x.txt, ((pts (x.ws.length : Nat) : Nat) : Int), relF x⟩] := by unfold shF; rw [hxo]; rfl
  have hst : shT x.op = false := by unfold shT; rw [hxo]; rfl
  rw [hkd, hst] at HQ
  rw [hxo] at d0
  have HXO := zh hxo; clear hxo hkd hst
  go_upto_region 11 with fail
  clear d0 d4
  have HRZ0 : Hid (RowAt w1.drew (w.heap.size + 1 + 1) 65 (sv false none 0 0)) := HRZ
  have HSv0 : Hid (Below (w.heap.size + 1 + 1) w1 w1.drew) := zh (zB _ _).drew
  refine wp_region_ou (fun W => Below (w.heap.size + 1 + 1) w1 W) ((.take 0 (.take 1 (.take 3 (.solo 2 (.solo 4 (.take 5 (.solo 6 (.solo 7 .nil))))))))) (by kernel_rfl) (by kernel_rfl) rfl (by kernel_rfl) HSv0.out ?_
  generalize w1.drew = v0 at HRZ0 HSv0 ⊢
  iterate 3
   (refine wpOU_step (zO rfl) ?_)
   (first
    | (refine wpOU_skip (by rfl) ?_)
    | (refine wpOU_take (by rfl) (take_row _ _ rfl (w.heap.size + 1) rfl _ _ _ C1 Tryz.underlying30 rfl HCI.out) ?_)
    | (refine wpOU_take (v := ?_) (by rfl) ?_ ?_; rotate_left 1; (intro wx hSx; have hc_0 := C0 wx hSx; go_simp; try with_reducible rfl)))
   (try simp only [Act.put, zA4, zA5, zA6])
  (refine wpOU_solo (zO rfl) ?_)
  intro K hK
  go_simp
  go_at_call 102
  refine (HTX.out v0 HSv0.out).mono ?_
  rintro e v1 ⟨X, d, rfl, hown, hb⟩
  have HSv1 : Hid (Below (w.heap.size + 1 + 1) w1 v1) := zh (HSv0.out.trans (hb.mono (by have := HSv0.out.size; omega)))
  have HOW1 := zh hown
  have HZc : Hid (w1.heap.size ≤ v0.heap.size) := zh HSv0.out.size
  have HRZ1 := zh (HRZ0.out.below hb HRZ0.out.lt)
  clear hb hown
  refine hK.out _ _ HSv1.out ?_
  clear hK K
  (try simp only [Act.put, zA4, zA5, zA6])
  (refine wpOU_solo (zO rfl) ?_)
  intro K hK
  go_simp
  go_at_call 93
  refine (relation_any x v1 ((HXF.out v1 HSv1.out).mono (by have := HSv1.out.size; omega))).mono ?_
  rintro e v2 ⟨rfl, hb⟩
  have HSv2 : Hid (Below (w.heap.size + 1 + 1) w1 v2) := zh (HSv1.out.trans (hb.mono (by have := HSv1.out.size; omega)))
  have HOW2 := zh (own_below HOW1.out hb (zL _))
  have HRZ2 := zh (HRZ1.out.below hb HRZ1.out.lt)
  have HZd : Hid (w1.heap.size ≤ v2.heap.size) := zh HSv2.out.size
  clear hb
  refine hK.out _ _ HSv2.out ?_
  clear hK K
  (try simp only [Act.put, zA4, zA5, zA6])
  iterate 1
   (refine wpOU_step (zO rfl) ?_)
   (first
    | (refine wpOU_skip (by rfl) ?_)
    | (refine wpOU_take (by rfl) (take_row _ _ rfl (w.heap.size + 1) rfl _ _ _ C1 Tryz.underlying30 rfl HCI.out) ?_)
    | (refine wpOU_take (by rfl) (take_build3 _ _ _ _ _ _ _ rfl _ _ _ rfl rfl rfl _ (built_fac 4 _ (relF x) X d x.txt x.ws.length HTM.out (relF_rw x))) ?_)
    | (refine wpOU_take (v := ?_) (by rfl) ?_ ?_; rotate_left 1; (intro wx hSx; have hc_0 := C0 wx hSx; go_simp; try with_reducible rfl)))
   (try simp only [Act.put, zA4, zA5, zA6])
  (refine wpOU_solo (zO rfl) ?_)
  intro K hK
  go_simp
  go_at_call 101
  refine (one_any ⟨4, X, d, x.txt, ((pts (x.ws.length : Nat) : Nat) : Int), relF x⟩ v2 (fac_own 4 _ _ (by rw [HTM.out]; exact HOW2.out) (relF_rw x) HTL.out) HTL.out).mono ?_
  rintro e v3 ⟨A3, c3, gs, rfl, hown, hfo, hcr, hb⟩
  have HSv3 : Hid (Below (w.heap.size + 1 + 1) w1 v3) := zh (HSv2.out.trans (hb.mono (by have := HSv2.out.size; omega)))
  have HOW3 := zh hown; have HFF := zh hfo; have HCR := zh hcr
  have HRZ3 := zh (HRZ2.out.below hb HRZ2.out.lt)
  clear hb hown hfo hcr
  refine hK.out _ _ HSv3.out ?_
  clear hK K
  (try simp only [Act.put, zA4, zA5, zA6])
  (refine wpOU_solo (zO rfl) ?_)
  intro K hK
  rw [if_pos (by rfl)]
  refine wp_store_row _ _ _ rfl (w.heap.size + 1 + 1) (sv false A3 gs.length c3) rfl rfl _ _ HRZ3.out (by kernel_rfl) rfl (by simp [sv, Value.oneCell']) ?_
  have HRZ4 := zh (HRZ3.out.setRow (sv false A3 gs.length c3))
  have HSv4 : Hid (Below (w.heap.size + 1 + 1) w1 (v3.setRow (w.heap.size + 1 + 1) (sv false A3 gs.length c3))) := zh (HSv3.out.trans (Else.below (Else.setRow v3 _ _) (zL _)))
  have HKE : Hid (∀ {size n : Nat} {e : TypeId} {v : Value} {cs : List Value}, v3.ownsRow v2.heap.size e size v n cs → (v3.setRow (w.heap.size + 1 + 1) (sv false A3 gs.length c3)).ownsRow w.heap.size e size v n cs) := zh fun h => own_mono (own_same h fun b _ hv => setRow_other _ _ _ _ (by have := (h.lt b hv).1; have := HZd.out; have := HRZ.out.lt; omega)) (by have := HB.out.size; have := HZd.out; omega)
  refine hK.out _ _ HSv4.out ?_
  clear hK K
  (try simp only [Act.put, zA4, zA5, zA6])
  generalize v3.setRow (w.heap.size + 1 + 1) (sv false A3 gs.length c3) = v4 at *
  refine wpOU_done ?_
  go_wp2_with fail
  exact bodyPost_ret (ret_shape rfl _ _ (w.heap.size + 1 + 1) false A3 gs.length c3 rfl HRZ4.out) rfl (HQ.out _ _ ⟨A3, c3, gs, rfl, HKE.out HOW3.out, fun g hg => ⟨HKE.out (HFF.out g hg).own, (HFF.out g hg).rows⟩, HCR.out, HB.out.trans (HSv4.out.mono (by omega))⟩)
 ·have hkd : shF s x = [] := by unfold shF; rw [if_neg h1, if_neg h2, if_neg h3, if_neg h4, if_neg h5]
  have hst : shT x.op = false := by unfold shT; rw [zF h3]
  rw [hkd, hst] at HQ
  have n1 : (x.op == 1) = false := by simp [h1]
  have n2 : (x.op == 2) = false := by simp [h2]
  have n3 : (x.op == 3) = false := by simp [h3]
  have n4 : (x.op == 4) = false := by simp [h4]
  have n5 : (x.op == 5) = false := by simp [h5]
  clear h1 h2 h3 h4 h5 hkd hst
  generalize x.op = op at *
  go_wp2_with (first
   | (refine wpList_storeShape (by rfl) _ _ rfl (w.heap.size + 1 + 1) rfl false none 0 0 rfl _ zero_shape_size HRZ.out ?_; intro wz rz he))
  exact bodyPost_ret (ret_shape rfl _ _ (w.heap.size + 1 + 1) false none 0 0 rfl rz) rfl (HQ.out _ _ ⟨none, 0, [], rfl, World.ownsRow_nil _ _ _ _, (fun g hg => by cases hg), rfl, HB.out.trans (he.below (by omega))⟩)
end
section
open Go.RowKit
structure ScR (w : World) (B : Nat) (s' : Sc) (ll : List (ByteArray × Bool × List Fac)) (vv : List (ByteArray × Int × Int)) : Prop where
 lown : w.ownsRow B 71 3 (.slice s'.LA s'.ls.length s'.lc) s'.ls.length (s'.ls.flatMap latC)
 vown : w.ownsRow B 73 3 (.slice s'.VA s'.vs.length s'.vc) s'.vs.length (s'.vs.flatMap varC)
 lats : ∀ l ∈ s'.ls, LatO w B l
 le : s'.ls.map lcore = ll
 ve : s'.vs = vv
theorem ScR.below {w w' : World} {B : Nat} {s : Sc} {ll : List (ByteArray × Bool × List Fac)} {vv : List (ByteArray × Int × Int)} (h : ScR w B s ll vv) (hb : Below w.heap.size w w') : ScR w' B s ll vv :=
 ⟨own_below h.lown hb (zL _), own_below h.vown hb (zL _), fun l hl => (h.lats l hl).below hb, h.le, h.ve⟩
theorem wp_moreS {P : Program} {w : World} {o : Oper} {a : Act} {K : Act → World → Prop} {Q : Exit → Act → World → Prop} (s x : Operand) (t : TypeId)
 (ho : o.op = .call { callee := .builtin .append, args := #[s, x], argTypes := #[t, t] })
 (e : TypeId) (z : Value) (size bytes : Nat) (ht : P.underlying t = some (.slice e))
 (hinf : (P.info? e).map (fun i => (i.zero, i.size, i.bytes)) = some (some z, size, bytes)) (hzs : z.cells.size = size) (hsz : 0 < size)
 (base : Nat) (A : Option Addr) (n c : Nat) (cs : List Value) (hs : a.eval s = .slice A n c) (hown : w.ownsRow base e size (.slice A n c) n cs)
 (g : Nat) (news : List Value) (hx : a.eval x = .slice (some ⟨g, 0, none⟩) 1 1) (hl : news.length = size)
 (hnews : ∀ j u, news[j]? = some u → w.cell? ⟨g, j, none⟩ = some u) (h1 : ∀ u ∈ news, u.oneCell' = true)
 (hn : n + 1 ≤ maxLen) (hb2 : (n + 1) * bytes ≤ 140737488355328) (hbase : base ≤ w.heap.size)
 (h : ∀ A' c' w', w'.ownsRow base e size (.slice A' (n + 1) c') (n + 1) (cs ++ news) → Below base w w' → w.grownBy w' (Value.slice A n c).ownBlock → ((Value.slice A' (n + 1) c').ownBlock = (Value.slice A n c).ownBlock ∨ (Value.slice A' (n + 1) c').ownBlock = some w.heap.size) → K (a.put o.dst (.slice A' (n + 1) c')) w') :
 o.wp P a w K Q := by
 obtain ⟨i, hi, hz, hi1, hi2⟩ := info_parts hinf
 have hadd : ∀ j, (⟨g, 0, none⟩ : Addr).add j = ⟨g, j, none⟩ := fun j => by unfold Addr.add; split <;> simp_all
 obtain ⟨v', w', hr, hown', hg, _, hat⟩ := run_append_own_at (P := P) w base t o.type e i z size bytes ht hi hz hi1 hi2 hzs hsz (.slice A n c) n cs hown ⟨g, 0, none⟩ 1 1 news (by rw [hl, Nat.one_mul])
  (fun j u hu => by rw [hadd]; exact hnews j u hu) h1 hn hb2 hbase
 obtain ⟨A', c', rfl, _, _⟩ := own_form hown'
 unfold Oper.wp execOp
 simp only [ho, resolve, invoke, builtin, Sem.run_bind, Sem.run_pure, Result.andThen_ok, List.map_toArray, List.map_cons, List.map_nil, hs, hx, hr]
 exact (h A' c' w' hown' ((zB base w).grown hg hbase (fun k hk => (hown.lt k hk).1)) hg hat)
def addL (s : Sc) (x : Cd) : List (ByteArray × Bool × List Fac) := s.ls.map lcore ++ (if (decide ((faultF s x).1 = 0) && dLat x.op) = true then [(x.n.1, shT x.op, (shF s x).map core)] else [])
def addV (s : Sc) (x : Cd) : List (ByteArray × Int × Int) := s.vs ++ (if (decide ((faultF s x).1 = 0) && dVar x.op) = true then x.ws.map fun y => (y.1, kindN x.op, idx s.lnms x.n.1) else [])
theorem run_ft0 (f : Int × Int) (w : World) : (Instr.field 39 (.agg (ftv f)) 0).run Tryz.prog w = .ok (.int .i64 f.1) w := by kernel_rfl
end
section
open Go.RowKit
theorem indexStr_any (A : Option Addr) (c : Nat) (xs : List ByteArray) (F : FuncId) (p : Nat → Bool) (w : World) (hl : xs.length ≤ 4294967296) (hA : Strs w A xs)
 (hf : ∀ args w, (callFunc F args).run Tryz.prog w = .ok (.enter F args) w)
 (H : ∀ j W, j < xs.length → Below w.heap.size w W → Calls Tryz.prog F #[.string (xs.getD j ⟨#[]⟩)] W fun e W' => e = .returned (.bool (p j)) ∧ Below W.heap.size W W') :
 Calls Tryz.prog 182 #[.slice A xs.length c, .func (.func F) #[] #[]] w fun e w' => e = .returned (.int .i64 (NM.fst p xs.length)) ∧ Below w.heap.size w w' := by
 have HH := zh H; clear H
 have HA := zh hA; clear hA
 generalize hn : xs.length = n at *
 have HN := zh hn; clear hn
 have HB0 : Hid (Below w.heap.size w w) := zB _ _
 go_enter Tryz.func182, Tryz.ntmps182
 go_wp2
 go_loopw [8] (fun iv wr => ∃ i : Nat, i ≤ n ∧ iv = .int .i64 i ∧ Hid (∀ j, j < i → p j = false) ∧ Hid (Below w.heap.size w wr)) (fun iv _ => n - (intOf iv).toNat)
 case atStart => exact ⟨0, by omega, rfl, fun j hj => by omega, HB0⟩
 case round =>
  clear HB0
  obtain ⟨i, hi, rfl, HF, HB⟩ := hrel
  by_cases hlt : i < n
  ·obtain ⟨b, o, rfl, hc⟩ := (HA.out.below HB.out).at (k := i) (by rw [HN.out]; exact hlt)
   have p0 := hc i (by rw [HN.out]; exact hlt)
   clear hc
   have HC := zh (HH.out i wr hlt HB.out)
   generalize xs.getD i ⟨#[]⟩ = x at *
   cases hp : p i
   all_goals
        rw [hp] at HC
        have HP := zh hp; clear hp
        go_wp2_with fail
        refine HC.out.mono ?_
        rintro e W ⟨rfl, hb⟩
        have HBW : Hid (Below w.heap.size w W) := zh (HB.out.trans (hb.mono HB.out.size))
        clear hb
        go_wp2
   ·go_roundw
    case rel =>
     refine ⟨i + 1, by omega, by go_num, ?_, HBW⟩
     show ∀ j, j < i + 1 → p j = false
     intro j hj
     by_cases hjk : j = i
     ·rw [hjk]; exact HP.out
     ·exact HF.out j (by omega)
    case measure => simp [intOf]; omega
   ·go_ret
    exact ⟨ret_eq (int_eq (NM.fst_hit hlt HP.out HF.out).symm), HBW.out⟩
  ·obtain rfl : i = n := by omega
   go_wp2
   go_ret
   exact ⟨ret_eq (int_eq (NM.fst_miss HF.out).symm), HB.out⟩
theorem wrongN_any (t : ByteArray) (w : World) : Calls Tryz.prog 108 #[.string t] w fun e w' => e = .returned (.bool (!NM.right t)) ∧ Below w.heap.size w w' := by
 have HR := zh (right_any t w)
 go_enter Tryz.func108, Tryz.ntmps108
 go_wp2_with (go_at_call 60; refine HR.out.mono ?_; rintro e w1 ⟨rfl, hb⟩; have HB := zh hb; clear hb)
 go_ret
 exact ⟨rfl, HB.out⟩
theorem containsN_any (A : Option Addr) (c : Nat) (xs : List ByteArray) (w : World) (hl : xs.length ≤ 4294967296) (hA : Strs w A xs) :
 Calls Tryz.prog 109 #[.slice A xs.length c, .func (.func 108) #[] #[]] w fun e w' => e = .returned (.bool (!xs.all NM.right)) ∧ Below w.heap.size w w' := by
 have HI := zh (indexStr_any A c xs 108 (fun j => !NM.right (xs.getD j ⟨#[]⟩)) w hl hA (fun _ _ => by kernel_rfl) fun j W _ _ => wrongN_any _ W)
 have hE : (!xs.all NM.right) = decide (0 ≤ NM.fst (fun j => !NM.right (xs.getD j ⟨#[]⟩)) xs.length) := by
  rcases NM.fst_cases (fun j => !NM.right (xs.getD j ⟨#[]⟩)) xs.length with ⟨k, hk, e, hp, _⟩ | ⟨e, h0⟩
  ·rw [e, zE (by omega)]
   have : xs.all NM.right = false := by
        rw [List.all_eq_false]
        exact ⟨xs.getD k ⟨#[]⟩, getD_mem' hk, by simpa using hp⟩
   rw [this]; rfl
  ·rw [e, zF (by omega)]
   have : xs.all NM.right = true := by
        rw [List.all_eq_true]
        intro y hy
        obtain ⟨i, hi, rfl⟩ := List.mem_iff_getElem.1 hy
        have := h0 i hi
        rw [List.getD_eq_getElem?_getD, List.getElem?_eq_getElem hi] at this
        simpa using this
   rw [this]; rfl
 rw [hE]
 clear hE
 generalize NM.fst (fun j => !NM.right (xs.getD j ⟨#[]⟩)) xs.length = r at *
 generalize xs.length = n at *
 go_enter Tryz.func109, Tryz.ntmps109
 go_wp2_with (go_at_call 182; refine HI.out.mono ?_; rintro e w1 ⟨rfl, hb⟩; have HB := zh hb; clear hb)
 go_ret
 exact ⟨rfl, HB.out⟩
end
section
open Go.RowKit
def varB (n : Nat) (v : ByteArray × Int × Int) : Bool := (decide (v.2.1 = 1) || decide (v.2.1 = 2)) && (decide (0 ≤ v.2.2) && decide (v.2.2 < (n : Int)))
def rightSc (s : Sc) : Bool := decide (s.ls.length ≤ 16) && (decide (s.vs.length ≤ 64) && (s.ls.all (fun l => rightS l.2.t l.2.fs) && (s.vs.all (varB s.ls.length) && ((s.lnms ++ s.vnms).all NM.right && decide (twc (s.lnms ++ s.vnms) < 0)))))
theorem all_bad {α : Type} {xs : List α} {p : α → Bool} {k : Nat} {d : α} (hk : k < xs.length) (h : p (xs.getD k d) = false) : xs.all p = false := by
 rw [List.all_eq_false]
 exact ⟨_, getD_mem' hk, by rw [h]; simp⟩
theorem all_good {α : Type} {xs : List α} {p : α → Bool} (d : α) (h : ∀ k, k < xs.length → p (xs.getD k d) = true) : xs.all p = true := by
 rw [List.all_eq_true]
 intro y hy
 obtain ⟨i, hi, rfl⟩ := List.mem_iff_getElem.1 hy
 have := h i hi
 rwa [List.getD_eq_getElem?_getD, List.getElem?_eq_getElem hi] at this
theorem right_small {t : ByteArray} (h : NM.right t = true) : t.size ≤ 4294967296 := by
 unfold NM.right at h
 simp only [Bool.and_eq_true, decide_eq_true_eq] at h
 omega
end
section
open Go.RowKit
def wdsK (xs : List ByteArray) (k : Nat) : List (ByteArray × Int) := (List.range k).map fun i => (xs.getD i ⟨#[]⟩, 10 + (i : Int))
theorem wdsK_succ (xs : List ByteArray) (k : Nat) : wdsK xs (k + 1) = wdsK xs k ++ [(xs.getD k ⟨#[]⟩, 10 + (k : Int))] := by
 unfold wdsK
 rw [List.range_succ, List.map_append]; rfl
theorem infoWdS : (Tryz.prog.info? 23).map (fun i => (i.zero, i.size, i.bytes)) = some (some (.agg #[.string ⟨#[]⟩, .int .i64 0]), 2, 24) := by kernel_rfl
theorem words13_any (A : Option Addr) (c : Nat) (xs : List ByteArray) (w : World) (hl : xs.length ≤ 65536) (hA : Strs w A xs) :
 Calls Tryz.prog 79 #[.slice A xs.length c] w fun e w' => ∃ X d, e = .returned (.slice X xs.length d) ∧ w'.ownsRow w.heap.size 23 2 (.slice X xs.length d) xs.length ((wdsK xs xs.length).flatMap wdC) ∧ Below w.heap.size w w' := by
 have HA := zh hA; clear hA
 refine cHid fun Q' hQ => ?_
 have HQ := zh hQ; clear hQ
 generalize hn : xs.length = n at *
 have HN := zh hn; clear hn
 go_enter Tryz.func79, Tryz.ntmps79
 go_wp2_with fail
 go_loopw [3, 8] (fun sv iv wr => ∃ (i d : Nat) (X : Option Addr), i ≤ n ∧ iv = .int .i64 (i : Int) ∧ sv = .slice X i d ∧ Hid (wr.ownsRow w.heap.size 23 2 (.slice X i d) i ((wdsK xs i).flatMap wdC)) ∧ Hid (Below w.heap.size w wr)) (fun _ iv _ => n - (intOf iv).toNat)
 case atStart => exact ⟨0, 0, none, by omega, rfl, rfl, World.ownsRow_nil _ _ _ _, zB _ _⟩
 case round =>
  obtain ⟨i, d, X, hi, rfl, rfl, HO, HW⟩ := hrel
  by_cases hlt : i < n
  ·obtain ⟨b1, o1, rfl, hc1⟩ := (HA.out.below HW.out).at (k := i) (by rw [HN.out]; exact hlt)
   have p0 := hc1 i (by rw [HN.out]; exact hlt)
   have HLT := zh hlt
   have HTK : Hid ((wdsK xs (i + 1)).flatMap wdC = (wdsK xs i).flatMap wdC ++ [.string (xs.getD i ⟨#[]⟩), .int .i64 (10 + (i : Int))]) := zh (by rw [wdsK_succ]; simp [wdC])
   have hi16 : i < 65536 := by omega
   have hw10 : IntKind.i64.wrap (10 + (i : Int)) = 10 + (i : Int) := IntWalk.i64_in _ ⟨by omega, by omega⟩
   clear hc1
   generalize xs.getD i ⟨#[]⟩ = s1 at *
   generalize (wdsK xs i).flatMap wdC = CS at *
   generalize hz10 : 10 + (i : Int) = z10 at *
   go_wp2_with (at_builtin; refine wpList_moreS _ rfl _ _ 24 rfl 23 (.agg #[.string ⟨#[]⟩, .int .i64 0]) 2 24 Tryz.underlying24 infoWdS rfl (by decide) w.heap.size X i d CS rfl ?c1 wr.heap.size [.string s1, .int .i64 z10] rfl rfl (fun j u hu => ((RowAt.new wr 23 #[.string s1, .int .i64 z10]).cell j).trans (by simpa using hu)) (by intro u hu; simp at hu; rcases hu with rfl | rfl <;> rfl) ?c3 ?c4 ?c5 ?_)
   case c1 => exact own_below HO.out ((zB _ _).alloc (zL _) _) (zL _)
   case c3 => simp only [maxLen]; omega
   case c4 => omega
   case c5 => have := HW.out.size; simp; omega
   intro X6 d6 w6 hown6 hb6 hg6 hat6
   have HO6 : Hid (w6.ownsRow w.heap.size 23 2 (.slice X6 (i + 1) d6) (i + 1) ((wdsK xs (i + 1)).flatMap wdC)) := by
        rw [HTK.out]; exact zh hown6
   have HB6 : Hid (Below w.heap.size w w6) := zh ((HW.out.alloc HW.out.size _).trans hb6)
   clear hown6 hb6 hg6 hat6
   go_wp2_with fail
   go_roundw
   case rel => exact ⟨i + 1, d6, X6, by have := HLT.out; omega, by go_num, rfl, HO6.out, HB6.out⟩
   case measure => have := HLT.out; simp [intOf]; omega
  ·obtain rfl : i = n := by omega
   go_wp2_with fail
   exact HQ.out _ _ ⟨X, d, rfl, HO.out, HW.out⟩
end
section
open Go.RowKit RM
theorem ScR.ok {w : World} {B : Nat} {s : Sc} {ll : List (ByteArray × Bool × List Fac)} {vv : List (ByteArray × Int × Int)} (h : ScR w B s ll vv) (h1 : s.ls.length ≤ 65536) (h2 : s.vs.length ≤ 65536) (h3 : ∀ l ∈ s.ls, l.2.fs.length ≤ 65536 ∧ ∀ f ∈ l.2.fs, f.names.length ≤ 65536) (h4 : ∀ x ∈ s.lnms, x.size ≤ maxLen) (h5 : ∀ x ∈ s.vnms, x.size ≤ maxLen) : ScOk w s :=
 ⟨Sl.of_own h.lown, fun l hl => ⟨⟨Sl.of_own (h.lats l hl).own, fun g hg => ((h.lats l hl).fac g hg).ok⟩, fun e => (own_nil (h.lats l hl).own e).2, (h3 l hl).1, (h3 l hl).2⟩, Sl.of_own h.vown, fun e => (own_nil h.lown e).2, fun e => (own_nil h.vown e).2, h1, h2, h4, h5⟩
def bk : ByteArray := ⟨#[107]⟩
def bx : ByteArray := ⟨#[120]⟩
def bab : List ByteArray := [⟨#[97]⟩, ⟨#[98]⟩]
def rest0 : List Value := [.int .i64 0, .int .i64 0, .string ⟨#[]⟩, .slice none 0 0, .slice none 0 0, .int .i64 0, .int .i64 0, .string ⟨#[]⟩, .slice none 0 0, .slice none 0 0]
def sc0 : Sc := ⟨none, 0, [], none, 0, []⟩
def cd0 (X : Option Addr) (d : Nat) : Cd := ⟨1, 0, (bk, 0), X, d, [(⟨#[97]⟩, 10), (⟨#[98]⟩, 11)], none, 0, [], 0, rest0⟩
def cd1 (X : Option Addr) (d : Nat) : Cd := ⟨6, 0, (bk, 0), X, d, [(bx, 10)], none, 0, [], 0, rest0⟩
def fac13 : Fac := ⟨1, none, 0, bab, 0, zs⟩
theorem al_0 (X : Option Addr) (d : Nat) : addL sc0 (cd0 X d) = [(bk, false, [fac13])] := by kernel_rfl
theorem av_0 (X : Option Addr) (d : Nat) : addV sc0 (cd0 X d) = [] := by kernel_rfl
theorem al_1 (X : Option Addr) (d : Nat) (LA VA : Option Addr) (lc vc : Nat) (sh : Shp) : addL ⟨LA, lc, [(bk, sh)], VA, vc, []⟩ (cd1 X d) = [lcore (bk, sh)] := by kernel_rfl
theorem av_1 (X : Option Addr) (d : Nat) (LA VA : Option Addr) (lc vc : Nat) (sh : Shp) : addV ⟨LA, lc, [(bk, sh)], VA, vc, []⟩ (cd1 X d) = [(bx, 1, 0)] := by kernel_rfl
theorem ft_1 (X : Option Addr) (d : Nat) (LA VA : Option Addr) (lc vc : Nat) (sh : Shp) : faultF ⟨LA, lc, [(bk, sh)], VA, vc, [(bx, 1, 0)]⟩ (cd1 X d) = (3, 10) := by kernel_rfl
theorem ix_1 (LA VA : Option Addr) (lc vc : Nat) (sh : Shp) : idx (Sc.lnms ⟨LA, lc, [(bk, sh)], VA, vc, [(bx, 1, 0)]⟩) bx = -1 ∧ idx (Sc.vnms ⟨LA, lc, [(bk, sh)], VA, vc, [(bx, 1, 0)]⟩) bx = 0 := ⟨by kernel_rfl, by kernel_rfl⟩
theorem rt_1 (LA VA : Option Addr) (lc vc : Nat) (sh : Shp) (h1 : sh.t = false) (h2 : sh.fs.map core = [fac13]) : rightSc ⟨LA, lc, [(bk, sh)], VA, vc, [(bx, 1, 0)]⟩ = true := by
 have hr : rightS sh.t sh.fs = true := by
  rw [← rightS_core, h1, h2]
  kernel_rfl
 have e : rightSc ⟨LA, lc, [(bk, sh)], VA, vc, [(bx, 1, 0)]⟩ = (decide (1 ≤ 16) && (decide (1 ≤ 64) && ((rightS sh.t sh.fs && true) && ([((bx, 1, 0) : ByteArray × Int × Int)].all (varB 1) && ([bk, bx].all NM.right && decide (twc [bk, bx] < 0)))))) := rfl
 have e2 : (decide (1 ≤ 16) && (decide (1 ≤ 64) && ((true && true) && ([((bx, 1, 0) : ByteArray × Int × Int)].all (varB 1) && ([bk, bx].all NM.right && decide (twc [bk, bx] < 0)))))) = true := by kernel_rfl
 rw [hr] at e
 exact e.trans e2
theorem one_lat {l : List (ByteArray × Shp)} (h : l.map lcore = [(bk, false, [fac13])]) : ∃ sh, l = [(bk, sh)] ∧ sh.t = false ∧ sh.fs.map core = [fac13] := by
 match l, h with
 | [x], h =>
   obtain ⟨n, sh⟩ := x
   simp only [List.map_cons, List.map_nil, lcore, List.cons.injEq, Prod.mk.injEq, and_true] at h
   obtain ⟨h1, h2, h3⟩ := h
   subst h1
   exact ⟨sh, rfl, h2, h3⟩
 | [], h => simp at h
 | _ :: _ :: _, h => simp at h
theorem fs_small {sh : Shp} (h : sh.fs.map core = [fac13]) : sh.fs.length ≤ 65536 ∧ ∀ f ∈ sh.fs, f.names.length ≤ 65536 := by
 have hl := congrArg List.length h
 rw [List.length_map] at hl
 refine ⟨by simp at hl; omega, fun f hf => ?_⟩
 have hc : core f ∈ [fac13] := by rw [← h]; exact List.mem_map_of_mem hf
 have hc2 : core f = fac13 := by simpa using hc
 have : f.names = bab := by
  have := congrArg Fac.names hc2
  exact this
 rw [this]
 decide
theorem cd_ok {w : World} {X : Option Addr} {d : Nat} {xs : List ByteArray} (op : Int) (hX : Sl w w.heap.size X ((wdsK xs xs.length).flatMap wdC)) (ws : List (ByteArray × Int)) (hw : wdsK xs xs.length = ws) (h1 : ws.length ≤ 65536) (h2 : ∀ t ∈ ws.map Prod.fst, t.size ≤ maxLen) : CdOk w w.heap.size ⟨op, 0, (bk, 0), X, d, ws, none, 0, [], 0, rest0⟩ :=
 ⟨by subst hw; exact hX, Sl.nil _ _ _, rfl, h1, Nat.zero_le _, (show bk.size ≤ maxLen from by decide), h2, fun p hp => by cases hp⟩
end
section
open Go.RowKit
theorem refLeast_any (A : Option Addr) (c : Nat) (l : List (Int × Int)) (w : World) (hl : l.length ≤ 4294967296) (hA : Ls ftC w A l) :
 Calls Tryz.prog 30 #[.slice A l.length c] w fun e w' => e = .returned (.agg (ftv (lstF l))) ∧ Below w.heap.size w w' := by
 have HA := zh hA; clear hA
 have HT : Hid (∀ k, k < l.length → lstF (l.take (k + 1)) = stepF (lstF (l.take k)) (l.getD k (0, 0))) := lstF_take l
 have HE : Hid (lstF (l.take l.length) = lstF l) := by rw [List.take_length]; exact rfl
 generalize hn : l.length = n at *
 have HN := zh hn; clear hn
 go_enter Tryz.func30, Tryz.ntmps30
 go_wp2_with fail
 have z1 : RowAt ((w.alloc (.cells (ftv (0, 0)) 39)).alloc (.cells (ftv (0, 0)) 39)) w.heap.size 39 (ftv (0, 0)) := (RowAt.new w _ _).alloc _
 have p1 : RowAt ((w.alloc (.cells (ftv (0, 0)) 39)).alloc (.cells (ftv (0, 0)) 39)) (w.heap.size + 1) 39 (ftv (lstF (l.take 0))) := by
  have h := RowAt.new (w.alloc (.cells (ftv (0, 0)) 39)) 39 (ftv (0, 0))
  rw [show (w.alloc (.cells (ftv (0, 0)) 39)).heap.size = w.heap.size + 1 by simp] at h
  exact h
 have HB1 : Hid (Below w.heap.size w ((w.alloc (.cells (ftv (0, 0)) 39)).alloc (.cells (ftv (0, 0)) 39))) := ((zB _ w).alloc (zL _) _).alloc (by simp) _
 go_loopw [5, 4] (fun _ kv wr => ∃ k : Nat, k ≤ n ∧ kv = .int .i64 k ∧ RowAt wr w.heap.size 39 (ftv (0, 0)) ∧ RowAt wr (w.heap.size + 1) 39 (ftv (lstF (l.take k))) ∧ Hid (Below w.heap.size w wr)) (fun _ kv _ => n - (intOf kv).toNat)
 case atStart => exact ⟨0, by omega, rfl, z1, p1, HB1⟩
 case round =>
  clear z1 p1 HB1
  obtain ⟨k, hk, rfl, z1, p1, HB1⟩ := hrel
  by_cases hlt : k < n
  ·have HLT := zh hlt
   obtain ⟨b, o, rfl, _, hc⟩ := (HA.out.below HB1.out).at 2 (fun _ => rfl) (by omega) (0, 0) (i := k) (by rw [HN.out]; exact hlt)
   have hr := hc k (by rw [HN.out]; exact hlt)
   have c0 := hr 0 _ rfl
   have c1 := hr 1 _ rfl
   rw [Nat.add_zero] at c0
   have HTK := zh (HT.out k hlt)
   clear hc hr
   have HBx : Hid (Below w.heap.size w (wr.alloc (.cells (ftv (l.getD k (0, 0))) 39))) := zh (HB1.out.alloc HB1.out.size _)
   have Hz := zh (z1.alloc (.cells (ftv (l.getD k (0, 0))) 39))
   have Hp := zh (p1.alloc (.cells (ftv (l.getD k (0, 0))) 39))
   have Hx := zh (RowAt.new wr 39 (ftv (l.getD k (0, 0))))
   clear z1 p1
   generalize l.getD k (0, 0) = f at *
   generalize lstF (l.take k) = m at *
   go_upto_region 6 with fail
   change Code.wp _ _ _ _ (wr.alloc (.cells (ftv f) 39))
   generalize wr.alloc (.cells (ftv f) 39) = wc at *
   generalize hgx : wr.heap.size = gx at *
   clear c0 c1 hgx
   obtain ⟨a0, a1, _, _⟩ := rw2 Hx.out
   obtain ⟨b0, b1, _, _⟩ := rw2 Hp.out
   have hcm := cmpF_neg f m
   have hst : stepF m f = if f.1 = 0 then m else if m.1 = 0 then f else if cmpF f m < 0 then f else m := rfl
   by_cases hf : f.1 = 0
   ·have hs : stepF m f = m := by rw [hst, if_pos hf]
    have qf : (f.1 != 0) = false := by simp [hf]
    clear hcm hst hf
    have HS9 := zh hs
    clear hs
    go_wp2_with fail
    go_roundw
    case rel =>
     refine ⟨k + 1, by have := HLT.out; omega, by go_num, Hz.out, ?_, HBx⟩
     rw [HTK.out, HS9.out]; exact Hp.out
    case measure => have := HLT.out; simp [intOf]; omega
   ·have qf : (f.1 != 0) = true := by simp [hf]
    rw [if_neg hf] at hst
    have HFF := zh hf; clear hf
    by_cases hm : m.1 = 0
    ·have hs : stepF m f = f := by rw [hst, if_pos hm]
     have qm : (m.1 == 0) = true := by simp [hm]
     clear hcm hst hm
     have HS9 := zh hs
     clear hs
     go_upto_region 7 with fail
     clear a0 a1 b0 b1
     go_wp2_with (first
      | (refine wpList_loadS (by rfl) _ _ rfl gx rfl _ _ _ Hx.out Tryz.underlying39 rfl (by kernel_rfl) ?_)
      | (refine wpList_stRow (by rfl) _ _ _ rfl (w.heap.size + 1) (ftv f) rfl rfl _ _ Hp.out (by kernel_rfl) rfl (by simp [ftv, Value.oneCell']) ?_; intro w2 r2 he))
     go_roundw
     case rel =>
      refine ⟨k + 1, by have := HLT.out; omega, by go_num, Hz.out.other he (by omega), ?_, zh (HBx.out.trans (he.below (by omega)))⟩
      rw [HTK.out, HS9.out]; exact r2
     case measure => have := HLT.out; simp [intOf]; omega
    ·have qm : (m.1 == 0) = false := by simp [hm]
     rw [if_neg hm] at hst
     have HMM := zh hm; clear hm
     by_cases h1 : f.1 < m.1
     ·have hs : stepF m f = f := by rw [hst, if_pos (hcm.2 (.inl h1))]
      have q1 : decide (f.1 < m.1) = true := zE h1
      clear hcm hst
      have HS9 := zh hs
      clear hs
      go_upto_region 7 with fail
      clear a0 a1 b0 b1
      go_wp2_with (first
       | (refine wpList_loadS (by rfl) _ _ rfl gx rfl _ _ _ Hx.out Tryz.underlying39 rfl (by kernel_rfl) ?_)
       | (refine wpList_stRow (by rfl) _ _ _ rfl (w.heap.size + 1) (ftv f) rfl rfl _ _ Hp.out (by kernel_rfl) rfl (by simp [ftv, Value.oneCell']) ?_; intro w2 r2 he))
      go_roundw
      case rel =>
       refine ⟨k + 1, by have := HLT.out; omega, by go_num, Hz.out.other he (by omega), ?_, zh (HBx.out.trans (he.below (by omega)))⟩
       rw [HTK.out, HS9.out]; exact r2
      case measure => have := HLT.out; simp [intOf]; omega
     ·have q1 : decide (f.1 < m.1) = false := zF h1
      by_cases h2 : f.1 = m.1
      ·have q2 : (f.1 == m.1) = true := by simp [h2]
       by_cases h3 : f.2 < m.2
       ·have hs : stepF m f = f := by rw [hst, if_pos (hcm.2 (.inr ⟨h2, h3⟩))]
        have q3 : decide (f.2 < m.2) = true := zE h3
        have HH2 := zh h2
        clear hcm hst h2
        have HS9 := zh hs
        clear hs
        go_upto_region 7 with fail
        clear a0 a1 b0 b1
        go_wp2_with (first
             | (refine wpList_loadS (by rfl) _ _ rfl gx rfl _ _ _ Hx.out Tryz.underlying39 rfl (by kernel_rfl) ?_)
             | (refine wpList_stRow (by rfl) _ _ _ rfl (w.heap.size + 1) (ftv f) rfl rfl _ _ Hp.out (by kernel_rfl) rfl (by simp [ftv, Value.oneCell']) ?_; intro w2 r2 he))
        go_roundw
        case rel =>
             refine ⟨k + 1, by have := HLT.out; omega, by go_num, Hz.out.other he (by omega), ?_, zh (HBx.out.trans (he.below (by omega)))⟩
             rw [HTK.out, HS9.out]; exact r2
        case measure => have := HLT.out; simp [intOf]; omega
       ·have hs : stepF m f = m := by rw [hst, if_neg (fun h => by rcases hcm.1 h with h | h <;> omega)]
        have q3 : decide (f.2 < m.2) = false := zF h3
        have HH2 := zh h2
        clear hcm hst h2
        have HS9 := zh hs
        clear hs
        go_wp2_with fail
        go_roundw
        case rel =>
             refine ⟨k + 1, by have := HLT.out; omega, by go_num, Hz.out, ?_, HBx⟩
             rw [HTK.out, HS9.out]; exact Hp.out
        case measure => have := HLT.out; simp [intOf]; omega
      ·have hs : stepF m f = m := by rw [hst, if_neg (fun h => by rcases hcm.1 h with h | h <;> omega)]
       have q2 : (f.1 == m.1) = false := by simp [h2]
       clear hcm hst
       have HS9 := zh hs
       clear hs
       go_wp2_with fail
       go_roundw
       case rel =>
            refine ⟨k + 1, by have := HLT.out; omega, by go_num, Hz.out, ?_, HBx⟩
            rw [HTK.out, HS9.out]; exact Hp.out
       case measure => have := HLT.out; simp [intOf]; omega
  ·obtain rfl : k = n := by omega
   rw [HE.out] at p1
   go_wp2_with (first
        | (refine wpList_loadS (by rfl) _ _ rfl (w.heap.size + 1) rfl _ _ _ p1 Tryz.underlying39 rfl (by kernel_rfl) ?_)
        | (refine wpList_stRow (by rfl) _ _ _ rfl w.heap.size (ftv (lstF l)) rfl rfl _ _ z1 (by kernel_rfl) rfl (by simp [ftv, Value.oneCell']) ?_; intro w2 r2 he))
   exact bodyPost_ret (retRow rfl _ _ w.heap.size _ _ (0, 0) _ rfl r2 Tryz.underlying39 rfl (by kernel_rfl)) rfl ⟨rfl, HB1.out.trans (he.below (by omega))⟩
end
section
open Go.RowKit
structure ScIn (w : World) (s : Sc) : Prop where
 lats : Ls latC w s.LA s.ls
 fac : ∀ l ∈ s.ls, Facs w l.2.A l.2.fs ∧ (l.2.A = none → l.2.c = 0)
 vars : Ls varC w s.VA s.vs
 lnil : s.LA = none → s.lc = 0
 vnil : s.VA = none → s.vc = 0
 lnm : ∀ x ∈ s.lnms, x.size ≤ maxLen
 vnm : ∀ x ∈ s.vnms, x.size ≤ maxLen
 lmax : s.ls.length ≤ maxLen
 vmax : s.vs.length ≤ maxLen
theorem ScIn.below {w w' : World} {s : Sc} (h : ScIn w s) (hb : Below w.heap.size w w') : ScIn w' s :=
 ⟨h.lats.below hb, fun l hl => ⟨(h.fac l hl).1.below hb, (h.fac l hl).2⟩, h.vars.below hb, h.lnil, h.vnil, h.lnm, h.vnm, h.lmax, h.vmax⟩
def lBig (l : ByteArray × Shp) : Bool := bigShB l.2.fs || decide (40 < l.1.size)
def vBig (v : ByteArray × Int × Int) : Bool := decide (40 < v.1.size)
def bigSc (s : Sc) : Bool := decide (20 < s.ls.length) || (decide (80 < s.vs.length) || (s.ls.any lBig || s.vs.any vBig))
theorem any_yes {α : Type} {xs : List α} {p : α → Bool} {k : Nat} {d : α} (hk : k < xs.length) (h : p (xs.getD k d) = true) : xs.any p = true := by
 rw [List.any_eq_true]
 exact ⟨_, getD_mem' hk, h⟩
theorem any_no {α : Type} {xs : List α} {p : α → Bool} (d : α) (h : ∀ k, k < xs.length → p (xs.getD k d) = false) : xs.any p = false := by
 rw [List.any_eq_false]
 intro y hy
 obtain ⟨i, hi, rfl⟩ := List.mem_iff_getElem.1 hy
 have := h i hi
 rw [List.getD_eq_getElem?_getD, List.getElem?_eq_getElem hi] at this
 simpa using this
theorem ScIn.ok {w : World} {s : Sc} (h : ScIn w s) (hb : bigSc s = false) : ScOk w s := by
 unfold bigSc at hb
 simp only [Bool.or_eq_false_iff, decide_eq_false_iff_not] at hb
 obtain ⟨h1, h2, h3, _⟩ := hb
 refine ⟨h.lats, fun l hl => ?_, h.vars, h.lnil, h.vnil, by omega, by omega, h.lnm, h.vnm⟩
 have hl2 := (List.any_eq_false.1 h3) l hl
 unfold lBig at hl2
 simp only [Bool.not_eq_true, Bool.or_eq_false_iff, decide_eq_false_iff_not] at hl2
 obtain ⟨e1, e2⟩ := big_no hl2.1
 exact ⟨(h.fac l hl).1, (h.fac l hl).2, by omega, fun f hf => by have := e2 f hf; omega⟩
theorem bigSc_any (s : Sc) (w : World) (h : ScIn w s) :
 Calls Tryz.prog 24 #[.agg (scv s)] w fun e w' => e = .returned (.bool (bigSc s)) ∧ Below w.heap.size w w' := by
 have r0 := RowAt.new w 51 (scv s)
 have hb : Below w.heap.size w (w.alloc (.cells (scv s) 51)) := (zB _ _).alloc (zL _) _
 refine cHid fun Q' hQ => ?_
 have HQ := zh hQ; clear hQ
 have HD : Hid (bigSc s = (decide (20 < s.ls.length) || (decide (80 < s.vs.length) || (s.ls.any lBig || s.vs.any vBig)))) := zh rfl
 have HY1 : Hid (∀ k, k < s.ls.length → lBig (s.ls.getD k lat0) = true → bigSc s = true) := zh fun k hk h => by
  unfold bigSc; rw [any_yes hk h]; simp
 have HY2 : Hid (∀ k, k < s.vs.length → vBig (s.vs.getD k var0) = true → bigSc s = true) := zh fun k hk h => by
  unfold bigSc; rw [any_yes hk h]; simp
 have HNO : Hid (s.ls.length ≤ 20 → s.vs.length ≤ 80 → (∀ k, k < s.ls.length → lBig (s.ls.getD k lat0) = false) → (∀ k, k < s.vs.length → vBig (s.vs.getD k var0) = false) → bigSc s = false) := zh fun h1 h2 h3 h4 => by
  unfold bigSc
  rw [any_no lat0 h3, any_no var0 h4, zF (by omega), zF (by omega)]; rfl
 go_enter Tryz.func24, Tryz.ntmps24
 go_upto_region 1 with fail
 change Code.wp _ _ _ _ (w.alloc (.cells (scv s) 51))
 generalize w.alloc (.cells (scv s) 51) = w1 at *
 have HOK := zh (h.below hb)
 have HB := zh hb
 obtain ⟨c0, c1, _, _⟩ := rw2 r0
 have HR0L := zh r0.lt
 have hlm := h.lmax
 have hvm := h.vmax
 clear h hb r0
 generalize hln : s.ls.length = ln at *
 generalize hvn : s.vs.length = vn at *
 have HLN := zh hln; have HVN := zh hvn; clear hln hvn
 by_cases h20 : 20 < ln
 ·have hr : bigSc s = true := by rw [HD.out, zE h20]; simp
  rw [hr] at HQ
  clear HD hr
  go_wp2_with fail
  exact HQ.out _ _ ⟨rfl, HB.out⟩
 by_cases h80 : 80 < vn
 ·have hr : bigSc s = true := by rw [HD.out, zE h80]; simp
  rw [hr] at HQ
  clear HD hr
  go_wp2_with fail
  exact HQ.out _ _ ⟨rfl, HB.out⟩
 clear HD hlm hvm
 go_upto_region 3 with fail
 go_wp2_with fail
 go_loopw [4, 20] (fun _ kv wr => ∃ k : Nat, k ≤ ln ∧ kv = .int .i64 k ∧ Hid (Below w1.heap.size w1 wr) ∧ Hid (∀ j, j < k → lBig (s.ls.getD j lat0) = false)) (fun _ kv _ => ln - (intOf kv).toNat)
 case atStart => exact ⟨0, by omega, rfl, zh (zB _ _), zh fun j hj => by omega⟩
 case round =>
  obtain ⟨k, hk, rfl, HW, HG⟩ := hrel
  by_cases hlt : k < ln
  ·have HLT := zh hlt
   obtain ⟨b, o, hA, _, hc⟩ := (HOK.out.lats.below HW.out).at 3 (fun _ => rfl) (by omega) lat0 (i := k) (by rw [HLN.out]; exact hlt)
   have p0 := hc k (by rw [HLN.out]; exact hlt) 0 _ rfl
   have p1 := hc k (by rw [HLN.out]; exact hlt) 1 _ rfl
   have p2 := hc k (by rw [HLN.out]; exact hlt) 2 _ rfl
   rw [Nat.add_zero] at p0
   have HFC := zh ((HOK.out.fac _ (getD_mem' (d := lat0) (i := k) (by rw [HLN.out]; exact hlt))).1.below HW.out)
   have HYk := zh (HY1.out k hlt)
   have hbx : Below wr.heap.size wr (wr.alloc (.cells #[.string (s.ls.getD k lat0).1, .bool (s.ls.getD k lat0).2.t, .slice (s.ls.getD k lat0).2.A (s.ls.getD k lat0).2.fs.length (s.ls.getD k lat0).2.c] 71)) := (zB _ _).alloc (zL _) _
   have HWx : Hid (Below w1.heap.size w1 (wr.alloc (.cells #[.string (s.ls.getD k lat0).1, .bool (s.ls.getD k lat0).2.t, .slice (s.ls.getD k lat0).2.A (s.ls.getD k lat0).2.fs.length (s.ls.getD k lat0).2.c] 71))) := zh (HW.out.trans (hbx.mono HW.out.size))
   have HRX := zh (RowAt.new wr 71 #[.string (s.ls.getD k lat0).1, .bool (s.ls.getD k lat0).2.t, .slice (s.ls.getD k lat0).2.A (s.ls.getD k lat0).2.fs.length (s.ls.getD k lat0).2.c])
   have HBG := zh (bigS_any (s.ls.getD k lat0).2.t (s.ls.getD k lat0).2.A (s.ls.getD k lat0).2.c (s.ls.getD k lat0).2.fs _ (HFC.out.below hbx))
   have HGk : Hid (lBig (s.ls.getD k lat0) = false → ∀ j, j < k + 1 → lBig (s.ls.getD j lat0) = false) := zh fun h j hj => by
        by_cases e : j = k
        ·rw [e]; exact h
        ·exact HG.out j (by omega)
   have HLD : Hid (lBig (s.ls.getD k lat0) = (bigShB (s.ls.getD k lat0).2.fs || decide (40 < (s.ls.getD k lat0).1.size))) := zh rfl
   clear hc hbx
   generalize s.LA = LA at *
   subst hA
   generalize lBig (s.ls.getD k lat0) = lb at *
   generalize (s.ls.getD k lat0).1 = nm at *
   generalize (s.ls.getD k lat0).2 = sh at *
   generalize bigShB sh.fs = bb at *
   generalize sh.fs.length = fl at *
   go_upto_region 6 with fail
   change Code.wp _ _ _ _ (wr.alloc (.cells #[.string nm, .bool sh.t, .slice sh.A fl sh.c] 71))
   generalize wr.alloc (.cells #[.string nm, .bool sh.t, .slice sh.A fl sh.c] 71) = wc at *
   generalize wr.heap.size = gx at *
   obtain ⟨a0, a1, a2, _, _, _⟩ := rw3 HRX.out
   have HA0 : Hid (∀ W, Below wc.heap.size wc W → W.cell? ⟨gx, 0, none⟩ = some (.string nm)) := zh fun W hW => (hW.cell (p := ⟨gx, 0, none⟩) HRX.out.lt).trans a0
   clear p0 p1 p2
   cases bb with
   | true =>
     have hr : bigSc s = true := HYk.out (by rw [HLD.out]; simp)
     rw [hr] at HQ
     clear hr
     go_wp2_with (go_at_call 78; refine HBG.out.mono ?_; rintro e wd ⟨rfl, hbd⟩; have HBW := zh (HWx.out.trans (hbd.mono HWx.out.size)); clear hbd a0 a1 a2)
     exact HQ.out _ _ ⟨rfl, HB.out.trans (HBW.out.mono (by have := HR0L.out; omega))⟩
   | false =>
     by_cases h40 : 40 < nm.size
     ·have hr : bigSc s = true := HYk.out (by rw [HLD.out, zE h40]; simp)
      rw [hr] at HQ
      clear hr
      go_wp2_with (go_at_call 78; refine HBG.out.mono ?_; rintro e wd ⟨rfl, hbd⟩; have HBW := zh (HWx.out.trans (hbd.mono HWx.out.size)); have b0 := HA0.out _ hbd; clear hbd a0 a1 a2)
      exact HQ.out _ _ ⟨rfl, HB.out.trans (HBW.out.mono (by have := HR0L.out; omega))⟩
     ·have HGk1 := zh (HGk.out (by rw [HLD.out, zF h40]; rfl))
      go_wp2_with (go_at_call 78; refine HBG.out.mono ?_; rintro e wd ⟨rfl, hbd⟩; have HBW := zh (HWx.out.trans (hbd.mono HWx.out.size)); have b0 := HA0.out _ hbd; clear hbd a0 a1 a2)
      go_roundw
      case rel => exact ⟨k + 1, by have := HLT.out; omega, by go_num, HBW, HGk1⟩
      case measure => have := HLT.out; simp [intOf]; omega
  ·obtain rfl : k = ln := by omega
   have d1 : wr.cell? ⟨w.heap.size, 1, none⟩ = some (.slice s.VA vn s.vc) := (HW.out.cell (p := ⟨w.heap.size, 1, none⟩) HR0L.out).trans c1
   clear c0 c1
   go_wp2_with fail
   clear d1
   go_loopw [6, 37] (fun _ kv wq => ∃ m : Nat, m ≤ vn ∧ kv = .int .i64 m ∧ Hid (Below w1.heap.size w1 wq) ∧ Hid (∀ j, j < m → vBig (s.vs.getD j var0) = false)) (fun _ kv _ => vn - (intOf kv).toNat)
   case atStart => exact ⟨0, by omega, rfl, HW, zh fun j hj => by omega⟩
   case round =>
        clear HW
        obtain ⟨m, hm, rfl, HW, HG2⟩ := hrel
        by_cases hlt : m < vn
        ·have HLT := zh hlt
         obtain ⟨b, o, hA, _, hc⟩ := (HOK.out.vars.below HW.out).at 3 (fun _ => rfl) (by omega) var0 (i := m) (by rw [HVN.out]; exact hlt)
         have p0 := hc m (by rw [HVN.out]; exact hlt) 0 _ rfl
         have p1 := hc m (by rw [HVN.out]; exact hlt) 1 _ rfl
         have p2 := hc m (by rw [HVN.out]; exact hlt) 2 _ rfl
         rw [Nat.add_zero] at p0
         have HYm := zh (HY2.out m hlt)
         have HWx : Hid (Below w1.heap.size w1 (wr.alloc (.cells #[.string (s.vs.getD m var0).1, .int .i64 (s.vs.getD m var0).2.1, .int .i64 (s.vs.getD m var0).2.2] 73))) := zh (HW.out.alloc HW.out.size _)
         have HRX := zh (RowAt.new wr 73 #[.string (s.vs.getD m var0).1, .int .i64 (s.vs.getD m var0).2.1, .int .i64 (s.vs.getD m var0).2.2])
         have HGk : Hid (vBig (s.vs.getD m var0) = false → ∀ j, j < m + 1 → vBig (s.vs.getD j var0) = false) := zh fun h j hj => by
          by_cases e : j = m
          ·rw [e]; exact h
          ·exact HG2.out j (by omega)
         have HVD : Hid (vBig (s.vs.getD m var0) = decide (40 < (s.vs.getD m var0).1.size)) := zh rfl
         clear hc
         generalize s.VA = VA at *
         subst hA
         generalize vBig (s.vs.getD m var0) = vb at *
         generalize s.vs.getD m var0 = el at *
         obtain ⟨nm, kd, lt⟩ := el
         simp only at p0 p1 p2 HWx HRX HVD
         go_upto_region 12 with fail
         change Code.wp _ _ _ _ (wr.alloc (.cells #[.string nm, .int .i64 kd, .int .i64 lt] 73))
         generalize wr.alloc (.cells #[.string nm, .int .i64 kd, .int .i64 lt] 73) = wc at *
         generalize wr.heap.size = gx at *
         obtain ⟨a0, _, _, _, _, _⟩ := rw3 HRX.out
         clear p0 p1 p2
         by_cases h40 : 40 < nm.size
         ·have hr : bigSc s = true := HYm.out (by rw [HVD.out, zE h40])
          rw [hr] at HQ
          clear hr
          go_wp2_with fail
          exact HQ.out _ _ ⟨rfl, HB.out.trans (HWx.out.mono (by have := HR0L.out; omega))⟩
         ·have HGk1 := zh (HGk.out (by rw [HVD.out, zF h40]))
          go_wp2_with fail
          go_roundw
          case rel => exact ⟨m + 1, by have := HLT.out; omega, by go_num, HWx, HGk1⟩
          case measure => have := HLT.out; simp [intOf]; omega
        ·obtain rfl : m = vn := by omega
         have hr : bigSc s = false := HNO.out (by omega) (by omega) HG.out HG2.out
         rw [hr] at HQ
         clear hr
         go_wp2_with fail
         exact HQ.out _ _ ⟨rfl, HB.out.trans (HW.out.mono (by have := HR0L.out; omega))⟩
end
section
open Go.RowKit
theorem run_eql_ft (f : Int × Int) (w : World) : (binOp .eql 39 (.agg (ftv f)) (.agg (ftv f))).run Tryz.prog w = .ok (.bool true) w := by
 obtain ⟨a, b⟩ := f
 simp only [ftv]
 go_simp
end
end Go.Proofs.YtcegiiaeeajfpaaGreatDoor
