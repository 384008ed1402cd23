/- Texts that all the claims need. Conditions: those that each states. -/

import Derived.Test.YtebnfmfpejnkcaaGreatDoorSk15
set_option linter.unusedSimpArgs false
set_option linter.unusedVariables false
set_option maxRecDepth 100000
set_option maxHeartbeats 40000000
namespace Go.Proofs.YtebnfmfpejnkcaaGreatDoor
section
open Go.RowKit
theorem infoLatS : (Tryz.prog.info? 53).map (fun i => (i.zero, i.size, i.bytes)) = some (some (.agg #[.string ⟨#[]⟩, .bool false, .slice none 0 0]), 3, 48) := by kernel_rfl
theorem infoVarS : (Tryz.prog.info? 55).map (fun i => (i.zero, i.size, i.bytes)) = some (some (.agg #[.string ⟨#[]⟩, .int .i64 0, .int .i64 0]), 3, 32) := by kernel_rfl
theorem cloneLat_any (A : Option Addr) (n c : Nat) (cs : List Value) (w : World) (hl : cs.length = n * 3) (h1 : ∀ u ∈ cs, u.oneCell' = true) (hn : n ≤ 65536) (hA : Sl w w.heap.size A cs) (hnil : A = none → n = 0 ∧ c = 0) :
 Calls Tryz.prog 132 #[.slice A n c] w fun e w' => ∃ A' c', e = .returned (.slice A' n c') ∧ w'.ownsRow w.heap.size 53 3 (.slice A' n c') n cs ∧ Below w.heap.size w w' := by
 have q : ∀ (w : World) (a : Option Addr) (n c n' c' : Nat), (binOp .eql 22 (.slice a n c) (.slice none n' c')).run Tryz.prog w = .ok (.bool a.isNone) w := fun w a n c n' c' => Lib.run_eql_slice_nil w _ _ a n c n' c' Tryz.underlying22
 cases A with
 | none =>
   obtain ⟨rfl, rfl⟩ := hnil rfl
   have hcs : cs = [] := List.eq_nil_of_length_eq_zero (by omega)
   subst hcs
   clear hA hl h1
   go_enter Tryz.func132, Tryz.ntmps132
   go_wp2_with fail
   go_ret
   exact ⟨none, 0, rfl, World.ownsRow_nil _ _ _ _, zB _ _⟩
 | some ad =>
   obtain ⟨i0, hi, hz0, hz1, hz2⟩ := info_parts infoLatS
   have HI := zh hi; have HZ0 := zh hz0; have HZ1 := zh hz1; have HZ2 := zh hz2
   clear hi hz0 hz1 hz2 hnil
   have HNEW : Hid (∀ o j u, cs[j]? = some u → (w.alloc o).cell? (ad.add j) = some u) := fun o j u hj => by
    obtain ⟨b, off, e, _, hc⟩ := hA (fun e => by rw [e] at hj; simp at hj)
    injection e with e
    subst e
    rw [Addr.add_lit]
    exact Lib.cell?_alloc_some _ (hc j u hj)
   have H1 := zh h1
   clear hA h1
   go_enter Tryz.func132, Tryz.ntmps132
   go_wp2_with (at_builtin; refine wpList_append_own _ rfl _ _ 22 rfl w.heap.size 53 i0 _ 3 48 Tryz.underlying22 HI.out HZ0.out HZ1.out HZ2.out (by kernel_rfl) (by decide) _ _ _ rfl (World.ownsRow_made w #[] 0 (zL _) (Nat.zero_le _) rfl) ad n c cs rfl hl (HNEW.out _) H1.out (by unfold maxLen; omega) (by omega) (by simp) ?_)
   intro v' w1 hown hgrow _
   have hb : Below w.heap.size w w1 := ((zB _ w).alloc (zL _) _).grown hgrow (by simp) (by intro k hk; simp [Value.ownBlock] at hk; omega)
   replace hown : w1.ownsRow w.heap.size 53 3 v' n cs := by simpa using hown
   obtain ⟨A', c', rfl, _, _⟩ := own_form hown
   have HO := zh hown; have HB := zh hb
   clear hown hb hgrow
   go_wp2_with fail
   go_ret
   exact ⟨A', c', rfl, HO.out, HB.out⟩
theorem cloneVar_any (A : Option Addr) (n c : Nat) (cs : List Value) (w : World) (hl : cs.length = n * 3) (h1 : ∀ u ∈ cs, u.oneCell' = true) (hn : n ≤ 65536) (hA : Sl w w.heap.size A cs) (hnil : A = none → n = 0 ∧ c = 0) :
 Calls Tryz.prog 133 #[.slice A n c] w fun e w' => ∃ A' c', e = .returned (.slice A' n c') ∧ w'.ownsRow w.heap.size 55 3 (.slice A' n c') n cs ∧ Below w.heap.size w w' := by
 have q : ∀ (w : World) (a : Option Addr) (n c n' c' : Nat), (binOp .eql 23 (.slice a n c) (.slice none n' c')).run Tryz.prog w = .ok (.bool a.isNone) w := fun w a n c n' c' => Lib.run_eql_slice_nil w _ _ a n c n' c' Tryz.underlying23
 cases A with
 | none =>
   obtain ⟨rfl, rfl⟩ := hnil rfl
   have hcs : cs = [] := List.eq_nil_of_length_eq_zero (by omega)
   subst hcs
   clear hA hl h1
   go_enter Tryz.func133, Tryz.ntmps133
   go_wp2_with fail
   go_ret
   exact ⟨none, 0, rfl, World.ownsRow_nil _ _ _ _, zB _ _⟩
 | some ad =>
   obtain ⟨i0, hi, hz0, hz1, hz2⟩ := info_parts infoVarS
   have HI := zh hi; have HZ0 := zh hz0; have HZ1 := zh hz1; have HZ2 := zh hz2
   clear hi hz0 hz1 hz2 hnil
   have HNEW : Hid (∀ o j u, cs[j]? = some u → (w.alloc o).cell? (ad.add j) = some u) := fun o j u hj => by
    obtain ⟨b, off, e, _, hc⟩ := hA (fun e => by rw [e] at hj; simp at hj)
    injection e with e
    subst e
    rw [Addr.add_lit]
    exact Lib.cell?_alloc_some _ (hc j u hj)
   have H1 := zh h1
   clear hA h1
   go_enter Tryz.func133, Tryz.ntmps133
   go_wp2_with (at_builtin; refine wpList_append_own _ rfl _ _ 23 rfl w.heap.size 55 i0 _ 3 32 Tryz.underlying23 HI.out HZ0.out HZ1.out HZ2.out (by kernel_rfl) (by decide) _ _ _ rfl (World.ownsRow_made w #[] 0 (zL _) (Nat.zero_le _) rfl) ad n c cs rfl hl (HNEW.out _) H1.out (by unfold maxLen; omega) (by omega) (by simp) ?_)
   intro v' w1 hown hgrow _
   have hb : Below w.heap.size w w1 := ((zB _ w).alloc (zL _) _).grown hgrow (by simp) (by intro k hk; simp [Value.ownBlock] at hk; omega)
   replace hown : w1.ownsRow w.heap.size 55 3 v' n cs := by simpa using hown
   obtain ⟨A', c', rfl, _, _⟩ := own_form hown
   have HO := zh hown; have HB := zh hb
   clear hown hb hgrow
   go_wp2_with fail
   go_ret
   exact ⟨A', c', rfl, HO.out, HB.out⟩
theorem latC_len (l : List (ByteArray × Shp)) : (l.flatMap latC).length = l.length * 3 := by
 induction l with
 | nil => rfl
 | cons x l ih => rw [List.flatMap_cons, zA7, ih, zA8]; show 3 + _ = _; omega
theorem varC_len (l : List (ByteArray × Int × Int)) : (l.flatMap varC).length = l.length * 3 := by
 induction l with
 | nil => rfl
 | cons x l ih => rw [List.flatMap_cons, zA7, ih, zA8]; show 3 + _ = _; omega
theorem latC_one (l : List (ByteArray × Shp)) : ∀ u ∈ l.flatMap latC, u.oneCell' = true := fun u hu => by
 obtain ⟨x, _, hx⟩ := List.mem_flatMap.1 hu
 simp only [latC, List.mem_cons, List.not_mem_nil, or_false] at hx
 rcases hx with rfl | rfl | rfl <;> rfl
theorem varC_one (l : List (ByteArray × Int × Int)) : ∀ u ∈ l.flatMap varC, u.oneCell' = true := fun u hu => by
 obtain ⟨x, _, hx⟩ := List.mem_flatMap.1 hu
 simp only [varC, List.mem_cons, List.not_mem_nil, or_false] at hx
 rcases hx with rfl | rfl | rfl <;> rfl
structure LatO (w : World) (B : Nat) (l : ByteArray × Shp) : Prop where
 own : w.ownsRow B 104 67 (.slice l.2.A l.2.fs.length l.2.c) l.2.fs.length (fscells l.2.fs)
 fac : ∀ g ∈ l.2.fs, FacO w B g
def lcore (l : ByteArray × Shp) : ByteArray × Bool × List Fac := (l.1, l.2.t, l.2.fs.map core)
structure ScN (w : World) (B : Nat) (s' s : Sc) : Prop where
 lown : w.ownsRow B 53 3 (.slice s'.LA s'.ls.length s'.lc) s'.ls.length (s'.ls.flatMap latC)
 vown : w.ownsRow B 55 3 (.slice s'.VA s'.vs.length s'.vc) s'.vs.length (s'.vs.flatMap varC)
 lats : ∀ l ∈ s'.ls, LatO w B l
 le : s'.ls.map lcore = s.ls.map lcore
 ve : s'.vs = s.vs
theorem LatO.below {w w' : World} {B : Nat} {l : ByteArray × Shp} (h : LatO w B l) (hb : Below w.heap.size w w') : LatO w' B l := ⟨own_below h.own hb (zL _), fun g hg => (h.fac g hg).below hb (zL _)⟩
theorem own_some {w : World} {base size n c : Nat} {e : TypeId} {A : Option Addr} {cs : List Value} (h : w.ownsRow base e size (.slice A n c) n cs) (hn : 0 < n) : ∃ b, A = some ⟨b, 0, none⟩ ∧ base ≤ b ∧ b < w.heap.size := by
 rcases h.2 with ⟨hv, h0⟩ | ⟨g, cap, cur, hv, hg, hh, _⟩
 ·omega
 ·injection hv with h1 _ _
  exact ⟨g, h1, hg, (Array.getElem?_eq_some_iff.1 hh).1⟩
theorem one_shape (w : World) (sh : Shp) : Sl (w.alloc (.cells #[.bool sh.t, .slice sh.A sh.fs.length sh.c] 45)) (w.alloc (.cells #[.bool sh.t, .slice sh.A sh.fs.length sh.c] 45)).heap.size (some ⟨w.heap.size, 0, none⟩) (shcells [sh]) := fun _ => by
 have hr := RowAt.new w 45 #[.bool sh.t, .slice sh.A sh.fs.length sh.c]
 refine ⟨w.heap.size, 0, rfl, hr.lt, fun j u hu => ?_⟩
 rw [Nat.zero_add, hr.cell j]
 have : shcells [sh] = [.bool sh.t, .slice sh.A sh.fs.length sh.c] := by simp [shcells, shc]
 rw [this] at hu
 simpa using hu
theorem set_app (a b : List Value) (m : Nat) (u : Value) : (a ++ b).set (a.length + m) u = a ++ b.set m u := by
 rw [List.set_append_right _ _ (by omega), Nat.add_sub_cancel_left]
theorem lat_set (l1 l2 : List (ByteArray × Shp)) (nm : ByteArray) (sh : Shp) (A2 : Option Addr) (c2 : Nat) (gs : List Fac) :
 ((((l1 ++ (nm, sh) :: l2).flatMap latC).set (l1.length * 3 + 1) (.bool true)).set (l1.length * 3 + 1 + 1) (.slice A2 gs.length c2)).set (l1.length * 3 + 1) (.bool sh.t) = ((l1 ++ [(nm, (⟨sh.t, A2, c2, gs⟩ : Shp))]) ++ l2).flatMap latC := by
 have hl := latC_len l1
 rw [← hl, List.flatMap_append, List.flatMap_cons, List.flatMap_append, List.flatMap_append]
 generalize l1.flatMap latC = a
 generalize l2.flatMap latC = b
 rw [set_app a _ 1, show a.length + 1 + 1 = a.length + 2 from rfl, set_app a _ 2, set_app a _ 1]
 simp [latC]
theorem scopied_any (s : Sc) (w : World) (h : ScOk w s) :
 Calls Tryz.prog 72 #[.agg (scv s)] w fun e w' => ∃ s', e = .returned (.agg (scv s')) ∧ ScN w' w.heap.size s' s ∧ Below w.heap.size w w' := by
 obtain ⟨r0, z0, hb⟩ := two_rows w (scv s) #[.slice none 0 0, .slice none 0 0] 25 25
 refine cHid fun Q' hQ => ?_
 have HQ := zh hQ; clear hQ
 go_enter Tryz.func72, Tryz.ntmps72
 go_upto_region 1 with fail
 change Code.wp _ _ _ _ ((w.alloc (.cells (scv s) 25)).alloc (.cells #[.slice none 0 0, .slice none 0 0] 25))
 generalize (w.alloc (.cells (scv s) 25)).alloc (.cells #[.slice none 0 0, .slice none 0 0] 25) = w1 at *
 have h1 := h.below hb
 have HOK := zh h1
 have HZR := zh z0
 have hz := z0.lt
 have C0 : ∀ W, Below w1.heap.size w1 W → W.cell? ⟨w.heap.size, 0, none⟩ = some (.slice s.LA s.ls.length s.lc) := fun W hW => (hW.cell (p := ⟨w.heap.size, 0, none⟩) r0.lt).trans (r0.cell 0)
 have C1 : ∀ W, Below w1.heap.size w1 W → W.cell? ⟨w.heap.size, 1, none⟩ = some (.slice s.VA s.vs.length s.vc) := fun W hW => (hW.cell (p := ⟨w.heap.size, 1, none⟩) r0.lt).trans (r0.cell 1)
 have HC1 : Hid (∀ W, Below w1.heap.size w1 W → Calls Tryz.prog 132 #[.slice s.LA s.ls.length s.lc] W fun e w' => ∃ A' c', e = .returned (.slice A' s.ls.length c') ∧ w'.ownsRow W.heap.size 53 3 (.slice A' s.ls.length c') s.ls.length (s.ls.flatMap latC) ∧ Below W.heap.size W w') := zh fun W hW =>
  cloneLat_any _ _ _ _ W (latC_len _) (latC_one _) h.lfew (h1.lats.below hW) fun e => by
   refine ⟨?_, h.lnil e⟩
   rcases Nat.eq_zero_or_pos s.ls.length with h0 | h0
   ·exact h0
   ·obtain ⟨b, o, hA, _⟩ := h1.lats.at 3 (fun _ => rfl) (by omega) lat0 h0
    rw [e] at hA; cases hA
 have HC2 : Hid (∀ W, Below w1.heap.size w1 W → Calls Tryz.prog 133 #[.slice s.VA s.vs.length s.vc] W fun e w' => ∃ A' c', e = .returned (.slice A' s.vs.length c') ∧ w'.ownsRow W.heap.size 55 3 (.slice A' s.vs.length c') s.vs.length (s.vs.flatMap varC) ∧ Below W.heap.size W w') := zh fun W hW =>
  cloneVar_any _ _ _ _ W (varC_len _) (varC_one _) h.vfew (h1.vars.below hW) fun e => by
   refine ⟨?_, h.vnil e⟩
   rcases Nat.eq_zero_or_pos s.vs.length with h0 | h0
   ·exact h0
   ·obtain ⟨b, o, hA, _⟩ := h1.vars.at 3 (fun _ => rfl) (by omega) var0 h0
    rw [e] at hA; cases hA
 have HLF := zh h.lfew
 clear h h1 r0 z0
 have HTY1 : Hid (53 ≠ 25) := zh (by show (53 : Nat) ≠ 25; decide)
 have HTY2 : Hid (55 ≠ 25) := zh (by show (55 : Nat) ≠ 25; decide)
 generalize hLC : s.ls.flatMap latC = LC at *
 generalize hVC : s.vs.flatMap varC = VC at *
 have HLC := zh hLC; have HVC := zh hVC; clear hLC hVC
 generalize hln : s.ls.length = ln at *
 generalize hvn : s.vs.length = vn at *
 have HLN := zh hln; have HVN := zh hvn; clear hln hvn
 go_cut [3] from 6 to 12 (fun v3 wx => ∃ (X1 X2 : Option Addr) (d1 d2 g3 : Nat), v3 = .pointer (some ⟨g3, 0, none⟩) ∧ Hid (Below w1.heap.size w1 wx) ∧ Hid (RowAt wx g3 25 #[.slice X1 ln d1, .slice X2 vn d2]) ∧ Hid (wx.ownsRow w1.heap.size 53 3 (.slice X1 ln d1) ln LC) ∧ Hid (wx.ownsRow w1.heap.size 55 3 (.slice X2 vn d2) vn VC) ∧ w1.heap.size ≤ g3)
 case first =>
  have HSv0 : Hid (Below w1.heap.size w1 w1.drew) := zh (zB _ _).drew
  refine wp_region_ou (fun w' => Below w1.heap.size w1 w') ((.take 0 (.take 1 (.take 3 (.take 4 (.two 2 (.two 5 (.take 6 (.solo 7 (.solo 8 .nil))) 7 (.solo 5 (.take 6 (.solo 8 .nil)))) 7 (.solo 2 (.solo 5 (.take 6 (.solo 8 .nil)))))))))) (by kernel_rfl) (by kernel_rfl) rfl (by kernel_rfl) HSv0.out ?_
  generalize w1.drew = v0 at HSv0 ⊢
  iterate 4
   (refine wpOU_step (zO rfl) ?_)
   (first
    | (refine wpOU_skip (by rfl) ?_)
    | (refine wpOU_take (v := ?_) (by rfl) ?_ ?_; rotate_left 1; (intro wx hSx; have hc_0 := C0 wx hSx; have hc_1 := C1 wx hSx; go_simp; try with_reducible rfl)))
   (try simp only [Act.put, zA4, zA5, zA6])
  refine wpOU_two ?_ ?_
  ·(refine wpOU_solo (zO rfl) ?_)
   intro K hK
   go_simp
   go_at_call 132
   refine (HC1.out v0 HSv0.out).mono ?_
   rintro e v1 ⟨X1, d1, rfl, hown, hb⟩
   have HSv1 := zh (HSv0.out.trans (hb.mono HSv0.out.size))
   have HW1v1 := zh (own_mono hown HSv0.out.size)
   clear hown hb
   refine hK.out _ _ HSv1.out ?_
   clear hK K
   (try simp only [Act.put, zA4, zA5, zA6])
   refine wpOU_two ?_ ?_
   ·(refine wpOU_solo (zO rfl) ?_)
    intro K hK
    go_simp
    go_at_call 133
    refine (HC2.out v1 HSv1.out).mono ?_
    rintro e v2 ⟨X2, d2, rfl, hown, hb⟩
    have HSv2 := zh (HSv1.out.trans (hb.mono HSv1.out.size))
    have HW2v2 := zh (own_mono hown HSv1.out.size)
    have HW1v2 := zh (own_below HW1v1.out hb (zL _))
    clear hown hb
    refine hK.out _ _ HSv2.out ?_
    clear hK K
    (try simp only [Act.put, zA4, zA5, zA6])
    iterate 1
     (refine wpOU_step (zO rfl) ?_)
     (first
           | (refine wpOU_skip (by rfl) ?_)
           | (refine wpOU_take (v := ?_) (by rfl) ?_ ?_; rotate_left 1; (intro wx hSx; have hc_0 := C0 wx hSx; have hc_1 := C1 wx hSx; go_simp; try with_reducible rfl)))
     (try simp only [Act.put, zA4, zA5, zA6])
    (refine wpOU_solo (zO rfl) ?_)
    intro K hK
    go_simp
    have hb : Below v2.heap.size v2 (v2.alloc (.cells #[.slice none 0 0, .slice none 0 0] 25)) := (zB _ _).alloc (zL _) _
    have HSv3 : Hid (Below w1.heap.size w1 (v2.alloc (.cells #[.slice none 0 0, .slice none 0 0] 25))) := zh (HSv2.out.trans (hb.mono HSv2.out.size))
    have HR3v3 := zh (RowAt.new v2 25 #[.slice none 0 0, .slice none 0 0])
    have HZ3 : Hid (w1.heap.size ≤ v2.heap.size) := zh HSv2.out.size
    have HW1v3 := zh (own_below HW1v2.out hb (zL _))
    have HW2v3 := zh (own_below HW2v2.out hb (zL _))
    clear hb
    refine hK.out _ _ HSv3.out ?_
    clear hK K
    (try simp only [Act.put, zA4, zA5, zA6])
    generalize hgb : v2.heap.size = g3 at *
    generalize (v2.alloc (.cells #[.slice none 0 0, .slice none 0 0] 25)) = v3 at *
    clear hgb
    (refine wpOU_solo (zO rfl) ?_)
    intro K hK
    rw [if_pos (by rfl)]
    refine wp_store_row _ _ _ rfl g3 #[.slice X1 ln d1, .slice X2 vn d2] rfl rfl _ _ HR3v3.out (by kernel_rfl) rfl (by simp [Value.oneCell']) ?_
    have HSv9 : Hid (Below w1.heap.size w1 (v3.setRow g3 #[.slice X1 ln d1, .slice X2 vn d2])) := zh (HSv3.out.trans (Else.below (Else.setRow v3 g3 _) HZ3.out))
    have HR4 := zh (HR3v3.out.setRow #[.slice X1 ln d1, .slice X2 vn d2])
    have HW6 : Hid ((v3.setRow g3 #[.slice X1 ln d1, .slice X2 vn d2]).ownsRow w1.heap.size 53 3 (.slice X1 ln d1) ln LC) := zh (own_same HW1v3.out fun b _ hv => setRow_other _ _ _ _ (fun e => own_ne2 HW1v3.out HR3v3.out HTY1.out (by rw [← e]; exact hv)))
    have HW7 : Hid ((v3.setRow g3 #[.slice X1 ln d1, .slice X2 vn d2]).ownsRow w1.heap.size 55 3 (.slice X2 vn d2) vn VC) := zh (own_same HW2v3.out fun b _ hv => setRow_other _ _ _ _ (fun e => own_ne2 HW2v3.out HR3v3.out HTY2.out (by rw [← e]; exact hv)))
    refine hK.out _ _ HSv9.out ?_
    clear hK K
    (try simp only [Act.put, zA4, zA5, zA6])
    generalize v3.setRow g3 #[.slice X1 ln d1, .slice X2 vn d2] = v9 at *
    refine wpOU_done ?_
    go_wp2
    go_meet
    case rel => exact ⟨X1, X2, d1, d2, g3, rfl, HSv9, HR4, HW6, HW7, HZ3.out⟩
   ·(refine wpOU_solo (zO rfl) ?_)
    intro K hK
    go_simp
    have hb : Below v1.heap.size v1 (v1.alloc (.cells #[.slice none 0 0, .slice none 0 0] 25)) := (zB _ _).alloc (zL _) _
    have HSv2 : Hid (Below w1.heap.size w1 (v1.alloc (.cells #[.slice none 0 0, .slice none 0 0] 25))) := zh (HSv1.out.trans (hb.mono HSv1.out.size))
    have HR3v2 := zh (RowAt.new v1 25 #[.slice none 0 0, .slice none 0 0])
    have HZ3 : Hid (w1.heap.size ≤ v1.heap.size) := zh HSv1.out.size
    have HW1v2 := zh (own_below HW1v1.out hb (zL _))
    clear hb
    refine hK.out _ _ HSv2.out ?_
    clear hK K
    (try simp only [Act.put, zA4, zA5, zA6])
    generalize hgb : v1.heap.size = g3 at *
    generalize (v1.alloc (.cells #[.slice none 0 0, .slice none 0 0] 25)) = v2 at *
    clear hgb
    (refine wpOU_solo (zO rfl) ?_)
    intro K hK
    go_simp
    go_at_call 133
    refine (HC2.out v2 HSv2.out).mono ?_
    rintro e v3 ⟨X2, d2, rfl, hown, hb⟩
    have HSv3 := zh (HSv2.out.trans (hb.mono HSv2.out.size))
    have HW2v3 := zh (own_mono hown HSv2.out.size)
    have HW1v3 := zh (own_below HW1v2.out hb (zL _))
    have HR3v3 := zh (HR3v2.out.below hb HR3v2.out.lt)
    clear hown hb
    refine hK.out _ _ HSv3.out ?_
    clear hK K
    (try simp only [Act.put, zA4, zA5, zA6])
    iterate 1
     (refine wpOU_step (zO rfl) ?_)
     (first
           | (refine wpOU_skip (by rfl) ?_)
           | (refine wpOU_take (v := ?_) (by rfl) ?_ ?_; rotate_left 1; (intro wx hSx; have hc_0 := C0 wx hSx; have hc_1 := C1 wx hSx; go_simp; try with_reducible rfl)))
     (try simp only [Act.put, zA4, zA5, zA6])
    (refine wpOU_solo (zO rfl) ?_)
    intro K hK
    rw [if_pos (by rfl)]
    refine wp_store_row _ _ _ rfl g3 #[.slice X1 ln d1, .slice X2 vn d2] rfl rfl _ _ HR3v3.out (by kernel_rfl) rfl (by simp [Value.oneCell']) ?_
    have HSv9 : Hid (Below w1.heap.size w1 (v3.setRow g3 #[.slice X1 ln d1, .slice X2 vn d2])) := zh (HSv3.out.trans (Else.below (Else.setRow v3 g3 _) HZ3.out))
    have HR4 := zh (HR3v3.out.setRow #[.slice X1 ln d1, .slice X2 vn d2])
    have HW6 : Hid ((v3.setRow g3 #[.slice X1 ln d1, .slice X2 vn d2]).ownsRow w1.heap.size 53 3 (.slice X1 ln d1) ln LC) := zh (own_same HW1v3.out fun b _ hv => setRow_other _ _ _ _ (fun e => own_ne2 HW1v3.out HR3v3.out HTY1.out (by rw [← e]; exact hv)))
    have HW7 : Hid ((v3.setRow g3 #[.slice X1 ln d1, .slice X2 vn d2]).ownsRow w1.heap.size 55 3 (.slice X2 vn d2) vn VC) := zh (own_same HW2v3.out fun b _ hv => setRow_other _ _ _ _ (fun e => own_ne2 HW2v3.out HR3v3.out HTY2.out (by rw [← e]; exact hv)))
    refine hK.out _ _ HSv9.out ?_
    clear hK K
    (try simp only [Act.put, zA4, zA5, zA6])
    generalize v3.setRow g3 #[.slice X1 ln d1, .slice X2 vn d2] = v9 at *
    refine wpOU_done ?_
    go_wp2
    go_meet
    case rel => exact ⟨X1, X2, d1, d2, g3, rfl, HSv9, HR4, HW6, HW7, HZ3.out⟩
  ·(refine wpOU_solo (zO rfl) ?_)
   intro K hK
   go_simp
   have hb : Below v0.heap.size v0 (v0.alloc (.cells #[.slice none 0 0, .slice none 0 0] 25)) := (zB _ _).alloc (zL _) _
   have HSv1 : Hid (Below w1.heap.size w1 (v0.alloc (.cells #[.slice none 0 0, .slice none 0 0] 25))) := zh (HSv0.out.trans (hb.mono HSv0.out.size))
   have HR3v1 := zh (RowAt.new v0 25 #[.slice none 0 0, .slice none 0 0])
   have HZ3 : Hid (w1.heap.size ≤ v0.heap.size) := zh HSv0.out.size
   clear hb
   refine hK.out _ _ HSv1.out ?_
   clear hK K
   (try simp only [Act.put, zA4, zA5, zA6])
   generalize hgb : v0.heap.size = g3 at *
   generalize (v0.alloc (.cells #[.slice none 0 0, .slice none 0 0] 25)) = v1 at *
   clear hgb
   (refine wpOU_solo (zO rfl) ?_)
   intro K hK
   go_simp
   go_at_call 132
   refine (HC1.out v1 HSv1.out).mono ?_
   rintro e v2 ⟨X1, d1, rfl, hown, hb⟩
   have HSv2 := zh (HSv1.out.trans (hb.mono HSv1.out.size))
   have HW1v2 := zh (own_mono hown HSv1.out.size)
   have HR3v2 := zh (HR3v1.out.below hb HR3v1.out.lt)
   clear hown hb
   refine hK.out _ _ HSv2.out ?_
   clear hK K
   (try simp only [Act.put, zA4, zA5, zA6])
   (refine wpOU_solo (zO rfl) ?_)
   intro K hK
   go_simp
   go_at_call 133
   refine (HC2.out v2 HSv2.out).mono ?_
   rintro e v3 ⟨X2, d2, rfl, hown, hb⟩
   have HSv3 := zh (HSv2.out.trans (hb.mono HSv2.out.size))
   have HW2v3 := zh (own_mono hown HSv2.out.size)
   have HR3v3 := zh (HR3v2.out.below hb HR3v2.out.lt)
   have HW1v3 := zh (own_below HW1v2.out hb (zL _))
   clear hown hb
   refine hK.out _ _ HSv3.out ?_
   clear hK K
   (try simp only [Act.put, zA4, zA5, zA6])
   iterate 1
        (refine wpOU_step (zO rfl) ?_)
        (first
         | (refine wpOU_skip (by rfl) ?_)
         | (refine wpOU_take (v := ?_) (by rfl) ?_ ?_; rotate_left 1; (intro wx hSx; have hc_0 := C0 wx hSx; have hc_1 := C1 wx hSx; go_simp; try with_reducible rfl)))
        (try simp only [Act.put, zA4, zA5, zA6])
   (refine wpOU_solo (zO rfl) ?_)
   intro K hK
   rw [if_pos (by rfl)]
   refine wp_store_row _ _ _ rfl g3 #[.slice X1 ln d1, .slice X2 vn d2] rfl rfl _ _ HR3v3.out (by kernel_rfl) rfl (by simp [Value.oneCell']) ?_
   have HSv9 : Hid (Below w1.heap.size w1 (v3.setRow g3 #[.slice X1 ln d1, .slice X2 vn d2])) := zh (HSv3.out.trans (Else.below (Else.setRow v3 g3 _) HZ3.out))
   have HR4 := zh (HR3v3.out.setRow #[.slice X1 ln d1, .slice X2 vn d2])
   have HW6 : Hid ((v3.setRow g3 #[.slice X1 ln d1, .slice X2 vn d2]).ownsRow w1.heap.size 53 3 (.slice X1 ln d1) ln LC) := zh (own_same HW1v3.out fun b _ hv => setRow_other _ _ _ _ (fun e => own_ne2 HW1v3.out HR3v3.out HTY1.out (by rw [← e]; exact hv)))
   have HW7 : Hid ((v3.setRow g3 #[.slice X1 ln d1, .slice X2 vn d2]).ownsRow w1.heap.size 55 3 (.slice X2 vn d2) vn VC) := zh (own_same HW2v3.out fun b _ hv => setRow_other _ _ _ _ (fun e => own_ne2 HW2v3.out HR3v3.out HTY2.out (by rw [← e]; exact hv)))
   refine hK.out _ _ HSv9.out ?_
   clear hK K
   (try simp only [Act.put, zA4, zA5, zA6])
   generalize v3.setRow g3 #[.slice X1 ln d1, .slice X2 vn d2] = v9 at *
   refine wpOU_done ?_
   go_wp2
   go_meet
   case rel => exact ⟨X1, X2, d1, d2, g3, rfl, HSv9, HR4, HW6, HW7, HZ3.out⟩
 case rest =>
  obtain ⟨X1, X2, d1, d2, g3, rfl, HS3, HR3, HL3, HV3, HG3⟩ := hcut
  have hg3 := HR3.out.lt
  have HTY4 : Hid (55 ≠ 53) := zh (by show (55 : Nat) ≠ 53; decide)
  have HTY5 : Hid (104 ≠ 53) := zh (by show (104 : Nat) ≠ 53; decide)
  have HTY6 : Hid (9 ≠ 53) := zh (by show (9 : Nat) ≠ 53; decide)
  have HL0 : Hid (wc.ownsRow w1.heap.size 53 3 (.slice X1 ln d1) ln (([] ++ s.ls.drop 0).flatMap latC)) := zh (by rw [List.nil_append, List.drop_zero, HLC.out]; exact HL3.out)
  have hl16 : ln ≤ 65536 := HLF.out
  have HSHf : Hid (∀ k, k < ln → ∀ W, Below w1.heap.size w1 W → ShOk W (s.ls.getD k lat0).2) := zh fun k hk W hW => (HOK.out.sh _ (getD_mem' (by rw [HLN.out]; exact hk))).below hW
  have HDR : Hid (∀ k, k < ln → s.ls.drop k = s.ls.getD k lat0 :: s.ls.drop (k + 1)) := zh fun k hk => by
   have hk2 : k < s.ls.length := by rw [HLN.out]; exact hk
   rw [List.drop_eq_getElem_cons hk2, List.getD_eq_getElem?_getD, List.getElem?_eq_getElem hk2]; rfl
  have HTK : Hid (∀ k, k < ln → s.ls.take (k + 1) = s.ls.take k ++ [s.ls.getD k lat0]) := zh fun k hk => by
   have hk2 : k < s.ls.length := by rw [HLN.out]; exact hk
   rw [List.take_succ_eq_append_getElem hk2, List.getD_eq_getElem?_getD, List.getElem?_eq_getElem hk2]; rfl
  have c3 := (HR3.out.cell 0).trans (show (#[Value.slice X1 ln d1, .slice X2 vn d2])[0]? = some (.slice X1 ln d1) from rfl)
  go_wp2_with fail
  clear c3
  go_loopw [5, 16] (fun _ kv wr => ∃ (k : Nat) (NL : List (ByteArray × Shp)), k ≤ ln ∧ kv = .int .i64 k ∧ NL.length = k ∧ Hid (Below w1.heap.size w1 wr) ∧ Hid (RowAt wr g3 25 #[.slice X1 ln d1, .slice X2 vn d2]) ∧ Hid (wr.ownsRow w1.heap.size 53 3 (.slice X1 ln d1) ln ((NL ++ s.ls.drop k).flatMap latC)) ∧ Hid (wr.ownsRow w1.heap.size 55 3 (.slice X2 vn d2) vn VC) ∧ Hid (∀ l ∈ NL, LatO wr w1.heap.size l) ∧ Hid (NL.map lcore = (s.ls.take k).map lcore)) (fun _ kv _ => ln - (intOf kv).toNat)
  case atStart => exact ⟨0, [], by omega, rfl, rfl, HS3, HR3, HL0, HV3, zh (fun l hl => by cases hl), zh rfl⟩
  case round =>
   clear HS3 HR3 HL0 HV3 HL3 hg3
   obtain ⟨k, NL, hk, rfl, hnl, HSr, HRr, HLr, HVr, HNr, HEr⟩ := hrel
   by_cases hlt : k < ln
   ·have HLT := zh hlt
    obtain ⟨bL, rfl, hbL, hbLt⟩ := own_some HLr.out (by omega)
    have HBL := zh hbL; have HBLt := zh hbLt
    have HNLn := zh hnl
    have hdr := HDR.out k hlt
    have HSH := zh (HSHf.out k hlt)
    have HTKk := zh (HTK.out k hlt)
    rw [hdr] at HLr
    have hcur : ∀ j, j < 3 → ((NL ++ s.ls.getD k lat0 :: s.ls.drop (k + 1)).flatMap latC)[k * 3 + j]? = (latC (s.ls.getD k lat0))[j]? := fun j hj => by
     rw [flat_at latC 3 (fun _ => rfl) lat0 _ k j (by simp; omega) hj]
     congr 2
     rw [List.getD_eq_getElem?_getD, List.getElem?_append_right (by omega), hnl, Nat.sub_self]; rfl
    have HLS2 : Hid (∀ A2 c2 gs, ((((NL ++ s.ls.getD k lat0 :: s.ls.drop (k + 1)).flatMap latC).set (k * 3 + 1) (.bool true)).set (k * 3 + 1 + 1) (.slice A2 (List.length gs) c2)).set (k * 3 + 1) (.bool (s.ls.getD k lat0).2.t) = ((NL ++ [((s.ls.getD k lat0).1, (⟨(s.ls.getD k lat0).2.t, A2, c2, gs⟩ : Shp))]) ++ s.ls.drop (k + 1)).flatMap latC) := zh fun A2 c2 gs => by
     have := lat_set NL (s.ls.drop (k + 1)) (s.ls.getD k lat0).1 (s.ls.getD k lat0).2 A2 c2 gs
     rw [hnl] at this
     exact this
    generalize (NL ++ s.ls.getD k lat0 :: s.ls.drop (k + 1)).flatMap latC = CUR at *
    generalize s.ls.getD k lat0 = el at *
    obtain ⟨nm, sh⟩ := el
    have HAT : Hid (CUR[k * 3]? = some (.string nm) ∧ CUR[k * 3 + 1]? = some (.bool sh.t) ∧ CUR[k * 3 + 1 + 1]? = some (.slice sh.A sh.fs.length sh.c)) := zh ⟨hcur 0 (by omega), hcur 1 (by omega), hcur 2 (by omega)⟩
    have p0 := ownS_at HLr.out HAT.out.1
    have p1 := ownS_at HLr.out HAT.out.2.1
    have p2 := ownS_at HLr.out HAT.out.2.2
    have HFW : Hid ((flat [sh]).length ≤ 65536) := zh (by simp [flat]; exact (HSH.out _ HSr.out).few)
    have c3 := (HRr.out.cell 0).trans (show (#[Value.slice (some ⟨bL, 0, none⟩) ln d1, .slice X2 vn d2])[0]? = some (.slice (some ⟨bL, 0, none⟩) ln d1) from rfl)
    have hk16 : k < 65536 := by omega
    clear hcur hdr hnl
    have hbx : Below wr.heap.size wr (wr.alloc (.cells #[.string nm, .bool sh.t, .slice sh.A sh.fs.length sh.c] 53)) := (zB _ _).alloc (zL _) _
    have HSx := zh (HSr.out.trans (hbx.mono HSr.out.size))
    have HRx := zh (HRr.out.below hbx HRr.out.lt)
    have HLx := zh (own_below HLr.out hbx (zL _))
    have HVx := zh (own_below HVr.out hbx (zL _))
    have HNx : Hid (∀ l ∈ NL, LatO (wr.alloc (.cells #[.string nm, .bool sh.t, .slice sh.A sh.fs.length sh.c] 53)) w1.heap.size l) := zh fun l hl => (HNr.out l hl).below hbx
    have HGl := zh (RowAt.new wr 53 #[.string nm, .bool sh.t, .slice sh.A sh.fs.length sh.c])
    have HNEl : Hid (bL ≠ wr.heap.size) := zh (by omega)
    have HSH2 : Hid (∀ W, Below w1.heap.size w1 W → ShOk W sh) := HSH
    clear HSH hbx hbL hbLt
    have HSH := HSH2
    clear HSH2
    go_upto_region 5 with fail
    change Code.wp _ _ _ _ (wr.alloc (.cells #[.string nm, .bool sh.t, .slice sh.A sh.fs.length sh.c] 53))
    generalize wr.alloc (.cells #[.string nm, .bool sh.t, .slice sh.A sh.fs.length sh.c] 53) = yx at *
    generalize wr.heap.size = gl at *
    clear p0 p1 p2 c3
    have C0 : ∀ W, (Below w1.heap.size w1 W ∧ RowAt W g3 25 #[.slice (some ⟨bL, 0, none⟩) ln d1, .slice X2 vn d2] ∧ RowAt W gl 53 #[.string nm, .bool sh.t, .slice sh.A sh.fs.length sh.c]) → W.cell? ⟨g3, 0, none⟩ = some (.slice (some ⟨bL, 0, none⟩) ln d1) := fun W h => (h.2.1.cell 0).trans rfl
    have C1 : ∀ W, (Below w1.heap.size w1 W ∧ RowAt W g3 25 #[.slice (some ⟨bL, 0, none⟩) ln d1, .slice X2 vn d2] ∧ RowAt W gl 53 #[.string nm, .bool sh.t, .slice sh.A sh.fs.length sh.c]) → W.cell? ⟨gl, 1, none⟩ = some (.bool sh.t) := fun W h => (h.2.2.cell 1).trans rfl
    have C2 : ∀ W, (Below w1.heap.size w1 W ∧ RowAt W g3 25 #[.slice (some ⟨bL, 0, none⟩) ln d1, .slice X2 vn d2] ∧ RowAt W gl 53 #[.string nm, .bool sh.t, .slice sh.A sh.fs.length sh.c]) → W.cell? ⟨gl, 2, none⟩ = some (.slice sh.A sh.fs.length sh.c) := fun W h => (h.2.2.cell 2).trans rfl
    have HSy0 : Hid (Below w1.heap.size w1 yx.drew ∧ RowAt yx.drew g3 25 #[.slice (some ⟨bL, 0, none⟩) ln d1, .slice X2 vn d2] ∧ RowAt yx.drew gl 53 #[.string nm, .bool sh.t, .slice sh.A sh.fs.length sh.c]) := zh ⟨HSx.out.drew, HRx.out, HGl.out⟩
    have HLy0 : Hid (yx.drew.ownsRow w1.heap.size 53 3 (.slice (some ⟨bL, 0, none⟩) ln d1) ln CUR) := HLx
    have HVy0 : Hid (yx.drew.ownsRow w1.heap.size 55 3 (.slice X2 vn d2) vn VC) := HVx
    have HNy0 : Hid (∀ l ∈ NL, LatO yx.drew w1.heap.size l) := zh fun l hl => (HNx.out l hl).below (zB _ _).drew
    refine wp_region_ou (fun W => Below w1.heap.size w1 W ∧ RowAt W g3 25 #[.slice (some ⟨bL, 0, none⟩) ln d1, .slice X2 vn d2] ∧ RowAt W gl 53 #[.string nm, .bool sh.t, .slice sh.A sh.fs.length sh.c]) ((.take 0 (.take 1 (.take 2 (.take 3 (.take 4 (.solo 5 (.solo 6 (.take 7 (.take 8 (.solo 9 .nil))))))))))) (by kernel_rfl) (by kernel_rfl) rfl (by kernel_rfl) HSy0.out ?_
    generalize yx.drew = y0 at *
    iterate 5
     (refine wpOU_step (zO rfl) ?_)
     (first
      | (refine wpOU_skip (by rfl) ?_)
      | (refine wpOU_take (v := ?_) (by rfl) ?_ ?_; rotate_left 1; (intro wx hSx; have hc_0 := C0 wx hSx; have hc_1 := C1 wx hSx; have hc_2 := C2 wx hSx; go_simp; try with_reducible rfl)))
     (try simp only [Act.put, zA4, zA5, zA6])
    (refine wpOU_solo (zO rfl) ?_)
    intro K hK
    go_simp
    have hb : Below y0.heap.size y0 (y0.alloc (.cells #[.bool sh.t, .slice sh.A sh.fs.length sh.c] 45)) := (zB _ _).alloc (zL _) _
    have HSy1 : Hid (Below w1.heap.size w1 (y0.alloc (.cells #[.bool sh.t, .slice sh.A sh.fs.length sh.c] 45)) ∧ RowAt (y0.alloc (.cells #[.bool sh.t, .slice sh.A sh.fs.length sh.c] 45)) g3 25 #[.slice (some ⟨bL, 0, none⟩) ln d1, .slice X2 vn d2] ∧ RowAt (y0.alloc (.cells #[.bool sh.t, .slice sh.A sh.fs.length sh.c] 45)) gl 53 #[.string nm, .bool sh.t, .slice sh.A sh.fs.length sh.c]) := zh ⟨HSy0.out.1.trans (hb.mono HSy0.out.1.size), HSy0.out.2.1.below hb HSy0.out.2.1.lt, HSy0.out.2.2.below hb HSy0.out.2.2.lt⟩
    have HFy : Hid (Sl (y0.alloc (.cells #[.bool sh.t, .slice sh.A sh.fs.length sh.c] 45)) (y0.alloc (.cells #[.bool sh.t, .slice sh.A sh.fs.length sh.c] 45)).heap.size (some ⟨y0.heap.size, 0, none⟩) (shcells [sh]) ∧ ∀ y ∈ [sh], ShOk (y0.alloc (.cells #[.bool sh.t, .slice sh.A sh.fs.length sh.c] 45)) y) := zh ⟨one_shape y0 sh, fun y hy => by
     obtain rfl : y = sh := by simpa using hy
     exact HSH.out _ (HSy0.out.1.trans (hb.mono HSy0.out.1.size))⟩
    have HLy1 := zh (own_below HLy0.out hb (zL _))
    have HVy1 := zh (own_below HVy0.out hb (zL _))
    have HNy1 : Hid (∀ l ∈ NL, LatO (y0.alloc (.cells #[.bool sh.t, .slice sh.A sh.fs.length sh.c] 45)) w1.heap.size l) := zh fun l hl => (HNy0.out l hl).below hb
    clear hb
    refine hK.out _ _ HSy1.out ?_
    clear hK K
    (try simp only [Act.put, zA4, zA5, zA6])
    generalize hgb : y0.heap.size = g6 at *
    generalize (y0.alloc (.cells #[.bool sh.t, .slice sh.A sh.fs.length sh.c] 45)) = y1 at *
    clear hgb
    (refine wpOU_solo (zO rfl) ?_)
    intro K hK
    go_simp
    go_at_call 69
    have HPR := zh (product_any (some ⟨g6, 0, none⟩) 1 [sh] y1 HFy.out.1 HFy.out.2 (by simp) HFW.out)
    refine HPR.out.mono ?_
    rintro e y2 ⟨A2, c2, gs, rfl, hown, hfo, hcore, hb⟩
    have HSy2 : Hid (Below w1.heap.size w1 y2 ∧ RowAt y2 g3 25 #[.slice (some ⟨bL, 0, none⟩) ln d1, .slice X2 vn d2] ∧ RowAt y2 gl 53 #[.string nm, .bool sh.t, .slice sh.A sh.fs.length sh.c]) := zh ⟨HSy1.out.1.trans (hb.mono HSy1.out.1.size), HSy1.out.2.1.below hb HSy1.out.2.1.lt, HSy1.out.2.2.below hb HSy1.out.2.2.lt⟩
    have HLy2 := zh (own_below HLy1.out hb (zL _))
    have HVy2 := zh (own_below HVy1.out hb (zL _))
    have HNy2 : Hid (∀ l ∈ NL, LatO y2 w1.heap.size l) := zh fun l hl => (HNy1.out l hl).below hb
    have HNW : Hid (LatO y2 w1.heap.size (nm, ⟨sh.t, A2, c2, gs⟩)) := zh ⟨own_mono hown HSy1.out.1.size, fun g hg => (hfo g hg).mono HSy1.out.1.size⟩
    have HCR := zh hcore
    clear hown hfo hcore hb HPR
    refine hK.out _ _ HSy2.out ?_
    clear hK K
    (try simp only [Act.put, zA4, zA5, zA6])
    iterate 2
     (refine wpOU_step (zO rfl) ?_)
     (first
      | (refine wpOU_skip (by rfl) ?_)
      | (refine wpOU_take (v := ?_) (by rfl) ?_ ?_; rotate_left 1; (intro wx hSx; have hc_0 := C0 wx hSx; have hc_1 := C1 wx hSx; have hc_2 := C2 wx hSx; go_simp; try with_reducible rfl)))
     (try simp only [Act.put, zA4, zA5, zA6])
    (refine wpOU_solo (zO rfl) ?_)
    intro K hK
    have m1 := ownS_at HLy2.out HAT.out.2.1
    have m2 := ownS_at HLy2.out HAT.out.2.2
    have f1 := own_free HLy2.out (k * 3 + 1)
    have f2 := own_free HLy2.out (k * 3 + 1 + 1)
    obtain ⟨rs, hrs⟩ := ownS_row HLy2.out
    have HRS := zh hrs; clear hrs
    have HNE3 : Hid (bL ≠ g3) := zh fun e => own_ne2 HLy2.out HSy2.out.2.1 HTY1.out (by rw [← e]; rfl)
    have HOW : Hid ((((y2.setCell ⟨bL, k * 3 + 1, none⟩ (.bool true)).setCell ⟨bL, k * 3 + 1 + 1, none⟩ (.slice A2 gs.length c2))).ownsRow w1.heap.size 53 3 (.slice (some ⟨bL, 0, none⟩) ln d1) ln ((CUR.set (k * 3 + 1) (.bool true)).set (k * 3 + 1 + 1) (.slice A2 gs.length c2))) := zh (ownS_set (ownS_set HLy2.out _ _) _ _)
    have HFAR : Hid (∀ {base size n : Nat} {e : TypeId} {v : Value} {cs : List Value}, y2.ownsRow base e size v n cs → e ≠ 53 → ((y2.setCell ⟨bL, k * 3 + 1, none⟩ (.bool true)).setCell ⟨bL, k * 3 + 1 + 1, none⟩ (.slice A2 gs.length c2)).ownsRow base e size v n cs) := zh fun h ht => ownS_far (ownS_far h HRS.out ht _ _) (HRS.out.put _ _) ht _ _
    have HSy3 : Hid (Below w1.heap.size w1 ((y2.setCell ⟨bL, k * 3 + 1, none⟩ (.bool true)).setCell ⟨bL, k * 3 + 1 + 1, none⟩ (.slice A2 gs.length c2)) ∧ RowAt ((y2.setCell ⟨bL, k * 3 + 1, none⟩ (.bool true)).setCell ⟨bL, k * 3 + 1 + 1, none⟩ (.slice A2 gs.length c2)) g3 25 #[.slice (some ⟨bL, 0, none⟩) ln d1, .slice X2 vn d2] ∧ RowAt ((y2.setCell ⟨bL, k * 3 + 1, none⟩ (.bool true)).setCell ⟨bL, k * 3 + 1 + 1, none⟩ (.slice A2 gs.length c2)) gl 53 #[.string nm, .bool sh.t, .slice sh.A sh.fs.length sh.c]) := zh ⟨(HSy2.out.1.setCell (p := ⟨bL, k * 3 + 1, none⟩) HBL.out _).setCell (p := ⟨bL, k * 3 + 1 + 1, none⟩) HBL.out _, (HSy2.out.2.1.far (p := ⟨bL, k * 3 + 1, none⟩) HNE3.out _).far (p := ⟨bL, k * 3 + 1 + 1, none⟩) HNE3.out _, (HSy2.out.2.2.far (p := ⟨bL, k * 3 + 1, none⟩) HNEl.out _).far (p := ⟨bL, k * 3 + 1 + 1, none⟩) HNEl.out _⟩
    have HVy3 := zh (HFAR.out HVy2.out HTY4.out)
    have HNy3 : Hid (∀ l ∈ NL, LatO ((y2.setCell ⟨bL, k * 3 + 1, none⟩ (.bool true)).setCell ⟨bL, k * 3 + 1 + 1, none⟩ (.slice A2 gs.length c2)) w1.heap.size l) := zh fun l hl => ⟨HFAR.out (HNy2.out l hl).own HTY5.out, fun g hg => ⟨HFAR.out ((HNy2.out l hl).fac g hg).own HTY6.out, ((HNy2.out l hl).fac g hg).rows⟩⟩
    have HNW3 : Hid (LatO ((y2.setCell ⟨bL, k * 3 + 1, none⟩ (.bool true)).setCell ⟨bL, k * 3 + 1 + 1, none⟩ (.slice A2 gs.length c2)) w1.heap.size (nm, ⟨sh.t, A2, c2, gs⟩)) := zh ⟨HFAR.out HNW.out.own HTY5.out, fun g hg => ⟨HFAR.out (HNW.out.fac g hg).own HTY6.out, (HNW.out.fac g hg).rows⟩⟩
    simp only [sv]
    go_simp
    refine hK.out _ _ HSy3.out ?_
    clear hK K m1 m2 f1 f2 HFAR HRS
    (try simp only [Act.put, zA4, zA5, zA6])
    generalize ((y2.setCell ⟨bL, k * 3 + 1, none⟩ (.bool true)).setCell ⟨bL, k * 3 + 1 + 1, none⟩ (.slice A2 gs.length c2)) = y3 at *
    refine wpOU_done ?_
    obtain ⟨_, r1, r2, _, _, _⟩ := rw3 HSy3.out.2.2
    have c3 := (HSy3.out.2.1.cell 0).trans (show (#[Value.slice (some ⟨bL, 0, none⟩) ln d1, .slice X2 vn d2])[0]? = some (.slice (some ⟨bL, 0, none⟩) ln d1) from rfl)
    have m1 := ownS_at HOW.out (show ((CUR.set (k * 3 + 1) (.bool true)).set (k * 3 + 1 + 1) (.slice A2 gs.length c2))[k * 3 + 1]? = some (.bool true) from by
     have := (List.getElem?_eq_some_iff.1 HAT.out.2.1).1
     rw [List.getElem?_set_ne (by omega), List.getElem?_set_self this])
    have f1 := own_free HOW.out (k * 3 + 1)
    obtain ⟨rs, hrs⟩ := ownS_row HOW.out
    have HRS := zh hrs; clear hrs
    have HNE3 : Hid (bL ≠ g3) := zh fun e => own_ne2 HOW.out HSy3.out.2.1 HTY1.out (by rw [← e]; rfl)
    go_wp2_with fail
    have HOZ : Hid ((y3.setCell ⟨bL, k * 3 + 1, none⟩ (.bool sh.t)).ownsRow w1.heap.size 53 3 (.slice (some ⟨bL, 0, none⟩) ln d1) ln (((NL ++ [(nm, (⟨sh.t, A2, c2, gs⟩ : Shp))]) ++ s.ls.drop (k + 1)).flatMap latC)) := zh (by rw [← HLS2.out]; exact ownS_set HOW.out _ _)
    have HFAR : Hid (∀ {base size n : Nat} {e : TypeId} {v : Value} {cs : List Value}, y3.ownsRow base e size v n cs → e ≠ 53 → (y3.setCell ⟨bL, k * 3 + 1, none⟩ (.bool sh.t)).ownsRow base e size v n cs) := zh fun h ht => ownS_far h HRS.out ht _ _
    go_roundw
    case rel =>
     refine ⟨k + 1, NL ++ [(nm, (⟨sh.t, A2, c2, gs⟩ : Shp))], by have := HLT.out; omega, by go_num, by rw [zA7, HNLn.out]; rfl, zh (HSy3.out.1.setCell (p := ⟨bL, k * 3 + 1, none⟩) HBL.out _), zh (HSy3.out.2.1.far (p := ⟨bL, k * 3 + 1, none⟩) HNE3.out _), HOZ, zh (HFAR.out HVy3.out HTY4.out), zh fun l hl => ?_, ?_⟩
     ·rcases List.mem_append.1 hl with h | h
      ·exact ⟨HFAR.out (HNy3.out l h).own HTY5.out, fun g hg => ⟨HFAR.out ((HNy3.out l h).fac g hg).own HTY6.out, ((HNy3.out l h).fac g hg).rows⟩⟩
      ·obtain rfl : l = (nm, (⟨sh.t, A2, c2, gs⟩ : Shp)) := by simpa using h
       exact ⟨HFAR.out HNW3.out.own HTY5.out, fun g hg => ⟨HFAR.out (HNW3.out.fac g hg).own HTY6.out, (HNW3.out.fac g hg).rows⟩⟩
     ·show (NL ++ [(nm, (⟨sh.t, A2, c2, gs⟩ : Shp))]).map lcore = (s.ls.take (k + 1)).map lcore
      rw [HTKk.out, List.map_append, List.map_append, HEr.out]
      have hcc := HCR.out
      simp [lcore, flat] at hcc ⊢
      exact hcc
    case measure => have := HLT.out; simp [intOf]; omega
   ·obtain rfl : k = ln := by omega
    have hZ := HZR.out.below HSr.out HZR.out.lt
    have HZr := zh hZ; clear hZ
    have hdrop : s.ls.drop k = [] := List.drop_eq_nil_of_le (by rw [HLN.out]; omega)
    have htake : s.ls.take k = s.ls := List.take_of_length_le (by rw [HLN.out]; omega)
    have hL := HLr.out
    rw [hdrop, List.append_nil] at hL
    have hE := HEr.out
    rw [htake] at hE
    have hV := HVr.out
    rw [← HVC.out] at hV
    have HL9 := zh hL; have HE9 := zh hE; have HV9 := zh hV
    clear hL hE hV hdrop htake
    go_wp2_with (first
     | (refine wpList_loadS (by rfl) _ _ rfl g3 rfl _ _ _ HRr.out Tryz.underlying25 rfl (by kernel_rfl) ?_)
     | (refine wpList_stRow (by rfl) _ _ _ rfl (w.heap.size + 1) _ rfl rfl _ _ HZr.out (by kernel_rfl) rfl (by simp [Value.oneCell']) ?_; intro wz rz he))
    have hne : ∀ {size n : Nat} {e : TypeId} {v : Value} {cs : List Value}, wr.ownsRow w1.heap.size e size v n cs → wz.ownsRow w1.heap.size e size v n cs := fun h => own_same h fun b _ hv => he.block b (by have := (h.lt b hv).1; omega)
    have hBz : Below w.heap.size w wz := hb.trans ((HSr.out.mono (by omega)).trans (he.below (by omega)))
    have hm : ∀ {e : TypeId} {size n : Nat} {v : Value} {cs : List Value}, wr.ownsRow w1.heap.size e size v n cs → wz.ownsRow w.heap.size e size v n cs := fun h => own_mono (hne h) (by omega)
    refine bodyPost_ret (retRow rfl _ _ (w.heap.size + 1) _ _ (0, 0) _ rfl rz Tryz.underlying25 rfl (by kernel_rfl)) rfl (HQ.out _ _ ⟨⟨X1, d1, NL, X2, d2, s.vs⟩, ?_, ⟨?_, ?_, fun l hl => ⟨hm (HNr.out l hl).own, fun g hg => ⟨hm ((HNr.out l hl).fac g hg).own, ((HNr.out l hl).fac g hg).rows⟩⟩, HE9.out, rfl⟩, hBz⟩)
    ·simp only [scv]
     rw [hnl, HVN.out]
    ·show wz.ownsRow w.heap.size 53 3 (.slice X1 NL.length d1) NL.length (NL.flatMap latC)
     rw [hnl]; exact hm HL9.out
    ·show wz.ownsRow w.heap.size 55 3 (.slice X2 s.vs.length d2) s.vs.length (s.vs.flatMap varC)
     rw [HVN.out]; exact hm HV9.out
end
section
open Go.RowKit RM
theorem rw_range {l : List Nat} (h : RW l) : ∃ f : Nat → Nat, l = (List.range 64).map f := by
 refine ⟨fun i => l.getD i 0, List.ext_getElem? fun i => ?_⟩
 rw [List.getElem?_map]
 by_cases hi : i < 64
 ·rw [List.getElem?_range hi, List.getElem?_eq_getElem (by rw [h.1]; exact hi)]
  simp [List.getD_eq_getElem?_getD, List.getElem?_eq_getElem (show i < l.length by rw [h.1]; exact hi)]
 ·rw [List.getElem?_eq_none (by rw [h.1]; omega), List.getElem?_eq_none (by simp; omega)]; rfl
theorem built_range (kd n : Int) (f : Nat → Nat) (X : Option Addr) (m d : Nat) : Tryz.prog.built 104 [(0, .int .i64 kd), (1, .slice X m d), (2, .agg (rv n ((List.range 64).map f)))] = some (.mk (.int .i64 kd :: .slice X m d :: rvl n ((List.range 64).map f))) := by kernel_rfl
theorem built_fac (kd n : Int) (l : List Nat) (X : Option Addr) (d : Nat) (xs : List ByteArray) (m : Nat) (hm : xs.length = m) (hl : RW l) : Tryz.prog.built 104 [(0, .int .i64 kd), (1, .slice X m d), (2, .agg (rv n l))] = some (fv ⟨kd, X, d, xs, n, l⟩) := by
 obtain ⟨f, rfl⟩ := rw_range hl
 subst hm
 exact built_range kd n f X xs.length d
end
section
open Go.RowKit RM
def shT (op : Int) : Bool := decide (op = 3)
def shF (s : Sc) (x : Cd) : List Fac :=
 if x.op = 1 then [⟨1, none, 0, x.txt, 0, zs⟩] else if x.op = 2 then [⟨2, none, 0, x.txt, 0, zs⟩] else if x.op = 3 then flat (dshF s x.ws)
 else if x.op = 4 then [⟨3, none, 0, x.txt, ((pts (x.ws.length : Nat) : Nat) : Int), relF x⟩] else if x.op = 5 then [⟨4, none, 0, x.txt, ((pts (x.ws.length : Nat) : Nat) : Int), relF x⟩] else []
theorem fac_own {w : World} {B : Nat} {X : Option Addr} {d : Nat} {xs : List ByteArray} (kd n : Int) (l : List Nat) (h : w.ownsRow B 9 1 (.slice X xs.length d) xs.length (scells xs)) (hl : RW l) (hm : xs.length ≤ 65536) : FacOk w ⟨kd, X, d, xs, n, l⟩ :=
 FacO.ok (B := B) (f := ⟨kd, X, d, xs, n, l⟩) ⟨h, hl⟩
theorem one_build (kd : Int) (X : Option Addr) (d : Nat) (xs : List ByteArray) (w : World) (hf : FacOk w ⟨kd, X, d, xs, 0, zs⟩) (hm : xs.length ≤ 65536) :
 Calls Tryz.prog 67 #[.agg ((Tryz.zeroCells104.setIfInBounds 0 (Value.int IntKind.i64 kd)).setIfInBounds 1 (.slice X xs.length d))] w fun e w' => ∃ A' c' gs, e = .returned (.agg (sv false A' gs.length c')) ∧ w'.ownsRow w.heap.size 104 67 (.slice A' gs.length c') gs.length (fscells gs) ∧
  (∀ g ∈ gs, FacO w' w.heap.size g) ∧ gs.map core = [⟨kd, none, 0, xs, 0, zs⟩].map core ∧ Below w.heap.size w w' := by
 have e : ((Tryz.zeroCells104.setIfInBounds 0 (Value.int IntKind.i64 kd)).setIfInBounds 1 (.slice X xs.length d)) = fv ⟨kd, X, d, xs, 0, zs⟩ := by
  have hz : Tryz.zeroCells104 = fv f0 := by kernel_rfl
  rw [hz]
  rfl
 rw [e]
 exact one_any ⟨kd, X, d, xs, 0, zs⟩ w hf hm
theorem take_build3 {P : Program} {S : World → Prop} {o : Oper} {a : Act} (t : TypeId) (i0 i1 i2 : Nat) (x0 x1 x2 : Operand) (ho : o.op = .build t #[(i0, x0), (i1, x1), (i2, x2)]) (v0 v1 v2 : Value) (h0 : a.eval x0 = v0) (h1 : a.eval x1 = v1) (h2 : a.eval x2 = v2) (cells : Array Value) (hc : P.built t [(i0, v0), (i1, v1), (i2, v2)] = some cells) : ∀ w, S w → (execOp a.eval o).run P w = .ok (.value (.agg cells)) w := fun w _ => by
 have hl : (#[(i0, x0), (i1, x1), (i2, x2)].map fun (x : Nat × Operand) => (x.1, a.eval x.2)).toList = [(i0, v0), (i1, v1), (i2, v2)] := by simp [h0, h1, h2]
 unfold execOp
 simp only [ho, Sem.run_bind]
 rw [run_build w t _ cells (by rw [hl]; exact hc)]
 rfl
theorem sshape_any (s : Sc) (x : Cd) (w : World) (h : ScOk w s) (hx : CdOk w w.heap.size x) (hsum : x.op = 3 → (flat (dshF s x.ws)).length ≤ 65536) :
 Calls Tryz.prog 17 #[.agg (scv s), .agg (cdv x)] w fun e w' => ∃ A' c' gs, e = .returned (.agg (sv (shT x.op) A' gs.length c')) ∧ w'.ownsRow w.heap.size 104 67 (.slice A' gs.length c') gs.length (fscells gs) ∧ (∀ g ∈ gs, FacO w' w.heap.size g) ∧ gs.map core = (shF s x).map core ∧ Below w.heap.size w w' := by
 have h3 := (three_rows w (scv s) (cdv x) (sv false none 0 0) 25 34 45)
 obtain ⟨r0, q0, z0, hb⟩ := h3
 refine cHid fun Q' hQ => ?_
 have HQ := zh hQ; clear hQ
 go_enter Tryz.func17, Tryz.ntmps17
 go_upto_region 1 with fail
 change Code.wp _ _ _ _ (((w.alloc (.cells (scv s) 25)).alloc (.cells (cdv x) 34)).alloc (.cells (sv false none 0 0) 45))
 generalize ((w.alloc (.cells (scv s) 25)).alloc (.cells (cdv x) 34)).alloc (.cells (sv false none 0 0) 45) = w1 at *
 have HOK := zh (h.below hb)
 have HX := zh (hx.below hb)
 have HRS := zh r0
 have HRC := zh q0
 have HRZ : Hid (RowAt w1 (w.heap.size + 1 + 1) 45 (sv false none 0 0)) := zh z0
 have HB := zh hb
 have hz := z0.lt
 have d0 := (cd_cells q0).1
 have d4 := (cd_cells q0).2.2.2.2.1
 have hws : x.ws.length ≤ 65536 := hx.wfew
 have HTM : Hid (x.txt.length = x.ws.length) := zh (by simp [Cd.txt])
 have HTL : Hid (x.txt.length ≤ 65536) := zh (by rw [HTM.out]; exact hws)
 have HTX0 : Hid (Calls Tryz.prog 68 #[.slice x.A x.ws.length x.c] w1 fun e w' => ∃ X d, e = .returned (.slice X x.ws.length d) ∧ w'.ownsRow w1.heap.size 9 1 (.slice X x.ws.length d) x.ws.length (scells x.txt) ∧ Below w1.heap.size w1 w') := zh (stexts_any x.A x.c x.ws w1 (by omega) (HX.out.ws.mono (by omega)))
 have HXF : Hid (∀ W, Below (w.heap.size + 1 + 1) w1 W → CdOk W w.heap.size x) := zh fun W hW => HX.out.below (hW.mono (by omega))
 have HTX : Hid (∀ W, Below (w.heap.size + 1 + 1) w1 W → Calls Tryz.prog 68 #[.slice x.A x.ws.length x.c] W fun e w' => ∃ X d, e = .returned (.slice X x.ws.length d) ∧ w'.ownsRow W.heap.size 9 1 (.slice X x.ws.length d) x.ws.length (scells x.txt) ∧ Below W.heap.size W w') := zh fun W hW => stexts_any x.A x.c x.ws W (by omega) ((HXF.out W hW).ws.mono (by have := hW.size; omega))
 have C0 : ∀ W, Below (w.heap.size + 1 + 1) w1 W → W.cell? ⟨w.heap.size + 1, 4, none⟩ = some (.slice x.A x.ws.length x.c) := fun W hW => (hW.cell (p := ⟨w.heap.size + 1, 4, none⟩) (by show w.heap.size + 1 < _; omega)).trans d4
 have C1 : ∀ W, Below (w.heap.size + 1 + 1) w1 W → RowAt W (w.heap.size + 1) 34 (cdv x) := fun W hW => HRC.out.below hW (by omega)
 have HCI := zh (cdinfo hx)
 have HWN := zh hx.wn
 have HSUM := zh hsum
 clear h hx r0 q0 z0 hb hsum
 by_cases h1 : x.op = 1
 ·have hxo := h1; clear h1
  have hkd : shF s x = [⟨1, none, 0, x.txt, 0, zs⟩] := by unfold shF; rw [hxo]; rfl
  have hst : shT x.op = false := by unfold shT; rw [hxo]; rfl
  rw [hkd, hst] at HQ
  have HON := zh fun (X : Option Addr) (d : Nat) (W : World) (h : FacOk W ⟨1, X, d, x.txt, 0, zs⟩) => one_build 1 X d x.txt W h HTL.out
  rw [hxo] at d0
  have HXO := zh hxo; clear hxo hkd hst
  go_wp2_with (first
   | (go_at_call 68; refine HTX0.out.mono ?_; rintro e w2 ⟨X, d, rfl, hown, hb2⟩; have HFO := zh (fac_own 1 0 zs (by rw [HTM.out]; exact hown) RW.zs HTL.out); have HB2 := zh hb2; have HOX := zh (HON.out X d w2); rw [HTM.out] at HOX; clear hown hb2)
   | (go_at_call 67; refine (HOX.out HFO.out).mono ?_; rintro e w3 ⟨A3, c3, gs, rfl, hown, hfo, hcr, hb3⟩; have HOW := zh hown; have HFF := zh hfo; have HCR := zh hcr; have HB3 := zh hb3; have HZ3 := zh ((HRZ.out.below HB2.out HRZ.out.lt).below hb3 (by have := HB2.out.size; have := HRZ.out.lt; omega)); clear hown hfo hcr hb3)
   | (refine wpList_storeShape (by rfl) _ _ rfl (w.heap.size + 1 + 1) rfl false A3 gs.length c3 rfl _ zero_shape_size HZ3.out ?_; intro wz rz he))
  have hke : ∀ {size n : Nat} {e : TypeId} {v : Value} {cs : List Value}, w3.ownsRow w2.heap.size e size v n cs → wz.ownsRow w.heap.size e size v n cs := fun h => own_mono (own_same h fun b _ hv => he.block b (by have := (h.lt b hv).1; have := HB2.out.size; have := HRZ.out.lt; omega)) (by have := HB.out.size; have := HB2.out.size; omega)
  exact bodyPost_ret (ret_shape rfl _ _ (w.heap.size + 1 + 1) false A3 gs.length c3 rfl rz) rfl (HQ.out _ _ ⟨A3, c3, gs, rfl, hke HOW.out, fun g hg => ⟨hke (HFF.out g hg).own, (HFF.out g hg).rows⟩, HCR.out, HB.out.trans ((HB2.out.mono HB.out.size).trans ((HB3.out.mono (by have := HB.out.size; have := HB2.out.size; omega)).trans (he.below (by omega))))⟩)
 by_cases h2 : x.op = 2
 ·have hxo := h2; clear h2
  have hkd : shF s x = [⟨2, none, 0, x.txt, 0, zs⟩] := by unfold shF; rw [hxo]; rfl
  have hst : shT x.op = false := by unfold shT; rw [hxo]; rfl
  rw [hkd, hst] at HQ
  have HON := zh fun (X : Option Addr) (d : Nat) (W : World) (h : FacOk W ⟨2, X, d, x.txt, 0, zs⟩) => one_build 2 X d x.txt W h HTL.out
  rw [hxo] at d0
  have HXO := zh hxo; clear hxo hkd hst
  go_wp2_with (first
   | (go_at_call 68; refine HTX0.out.mono ?_; rintro e w2 ⟨X, d, rfl, hown, hb2⟩; have HFO := zh (fac_own 2 0 zs (by rw [HTM.out]; exact hown) RW.zs HTL.out); have HB2 := zh hb2; have HOX := zh (HON.out X d w2); rw [HTM.out] at HOX; clear hown hb2)
   | (go_at_call 67; refine (HOX.out HFO.out).mono ?_; rintro e w3 ⟨A3, c3, gs, rfl, hown, hfo, hcr, hb3⟩; have HOW := zh hown; have HFF := zh hfo; have HCR := zh hcr; have HB3 := zh hb3; have HZ3 := zh ((HRZ.out.below HB2.out HRZ.out.lt).below hb3 (by have := HB2.out.size; have := HRZ.out.lt; omega)); clear hown hfo hcr hb3)
   | (refine wpList_storeShape (by rfl) _ _ rfl (w.heap.size + 1 + 1) rfl false A3 gs.length c3 rfl _ zero_shape_size HZ3.out ?_; intro wz rz he))
  have hke : ∀ {size n : Nat} {e : TypeId} {v : Value} {cs : List Value}, w3.ownsRow w2.heap.size e size v n cs → wz.ownsRow w.heap.size e size v n cs := fun h => own_mono (own_same h fun b _ hv => he.block b (by have := (h.lt b hv).1; have := HB2.out.size; have := HRZ.out.lt; omega)) (by have := HB.out.size; have := HB2.out.size; omega)
  exact bodyPost_ret (ret_shape rfl _ _ (w.heap.size + 1 + 1) false A3 gs.length c3 rfl rz) rfl (HQ.out _ _ ⟨A3, c3, gs, rfl, hke HOW.out, fun g hg => ⟨hke (HFF.out g hg).own, (HFF.out g hg).rows⟩, HCR.out, HB.out.trans ((HB2.out.mono HB.out.size).trans ((HB3.out.mono (by have := HB.out.size; have := HB2.out.size; omega)).trans (he.below (by omega))))⟩)
 by_cases h3 : x.op = 3
 ·have hkd : shF s x = flat (dshF s x.ws) := by unfold shF; rw [h3]; rfl
  have hst : shT x.op = true := by unfold shT; rw [h3]; rfl
  rw [hkd, hst] at HQ
  rw [h3] at d0
  have HSUM := zh (HSUM.out h3)
  have HXO := zh h3; clear h3 hkd hst h1 h2
  have HDN := zh (denoted_any s x.A x.c x.ws w1 HOK.out hws HWN.out (HX.out.ws.mono (by omega)))
  have HSHk : Hid (∀ y ∈ dshF s x.ws, ∀ W, Below w1.heap.size w1 W → ShOk W y) := zh fun y hy W hW => by
   obtain ⟨l, hl, rfl⟩ := dsh_mem hy
   exact (HOK.out.sh l hl).below hW
  have HLD : Hid ((dshF s x.ws).length ≤ 65536) := zh (zM (dshK_len s x.ws x.ws.length) hws)
  generalize dshF s x.ws = DF at *
  go_wp2_with (first
   | (refine wpList_loadS (by rfl) _ _ rfl w.heap.size rfl _ _ _ HRS.out Tryz.underlying25 rfl (by kernel_rfl) ?_)
   | (go_at_call 70; refine HDN.out.mono ?_; rintro e w2 ⟨X, d, rfl, hown, hb2⟩; have HB2 := zh hb2; have HPR := zh (product_any X d DF w2 (Sl.of_own hown) (fun y hy => HSHk.out y hy w2 hb2) HLD.out HSUM.out); clear hown hb2)
   | (go_at_call 69; refine HPR.out.mono ?_; rintro e w3 ⟨A3, c3, gs, rfl, hown, hfo, hcr, hb3⟩; have HOW := zh hown; have HFF := zh hfo; have HCR := zh hcr; have HB3 := zh hb3; have HZ3 := zh ((HRZ.out.below HB2.out HRZ.out.lt).below hb3 (by have := HB2.out.size; have := HRZ.out.lt; omega)); clear hown hfo hcr hb3)
   | (refine wpList_storeShape (by rfl) _ _ rfl (w.heap.size + 1 + 1) rfl true A3 gs.length c3 rfl _ zero_shape_size HZ3.out ?_; intro wz rz he))
  have hke : ∀ {size n : Nat} {e : TypeId} {v : Value} {cs : List Value}, w3.ownsRow w2.heap.size e size v n cs → wz.ownsRow w.heap.size e size v n cs := fun h => own_mono (own_same h fun b _ hv => he.block b (by have := (h.lt b hv).1; have := HB2.out.size; have := HRZ.out.lt; omega)) (by have := HB.out.size; have := HB2.out.size; omega)
  exact bodyPost_ret (ret_shape rfl _ _ (w.heap.size + 1 + 1) true A3 gs.length c3 rfl rz) rfl (HQ.out _ _ ⟨A3, c3, gs, rfl, hke HOW.out, fun g hg => ⟨hke (HFF.out g hg).own, (HFF.out g hg).rows⟩, HCR.out, HB.out.trans ((HB2.out.mono HB.out.size).trans ((HB3.out.mono (by have := HB.out.size; have := HB2.out.size; omega)).trans (he.below (by omega))))⟩)
 by_cases h4 : x.op = 4
 ·have hxo := h4; clear h4 h1 h2 h3
  have hkd : shF s x = [⟨3, none, 0, x.txt, ((pts (x.ws.length : Nat) : Nat) : Int), relF x⟩] := by unfold shF; rw [hxo]; rfl
  have hst : shT x.op = false := by unfold shT; rw [hxo]; rfl
  rw [hkd, hst] at HQ
  rw [hxo] at d0
  have HXO := zh hxo; clear hxo hkd hst
  go_upto_region 9 with fail
  clear d0 d4
  have HRZ0 : Hid (RowAt w1.drew (w.heap.size + 1 + 1) 45 (sv false none 0 0)) := HRZ
  have HSv0 : Hid (Below (w.heap.size + 1 + 1) w1 w1.drew) := zh (zB _ _).drew
  refine wp_region_ou (fun W => Below (w.heap.size + 1 + 1) w1 W) ((.take 0 (.take 1 (.take 3 (.solo 2 (.solo 4 (.take 5 (.solo 6 (.solo 7 .nil))))))))) (by kernel_rfl) (by kernel_rfl) rfl (by kernel_rfl) HSv0.out ?_
  generalize w1.drew = v0 at HRZ0 HSv0 ⊢
  iterate 3
   (refine wpOU_step (zO rfl) ?_)
   (first
    | (refine wpOU_skip (by rfl) ?_)
    | (refine wpOU_take (by rfl) (take_row _ _ rfl (w.heap.size + 1) rfl _ _ _ C1 Tryz.underlying34 rfl HCI.out) ?_)
    | (refine wpOU_take (v := ?_) (by rfl) ?_ ?_; rotate_left 1; (intro wx hSx; have hc_0 := C0 wx hSx; go_simp; try with_reducible rfl)))
   (try simp only [Act.put, zA4, zA5, zA6])
  (refine wpOU_solo (zO rfl) ?_)
  intro K hK
  go_simp
  go_at_call 68
  refine (HTX.out v0 HSv0.out).mono ?_
  rintro e v1 ⟨X, d, rfl, hown, hb⟩
  have HSv1 : Hid (Below (w.heap.size + 1 + 1) w1 v1) := zh (HSv0.out.trans (hb.mono (by have := HSv0.out.size; omega)))
  have HOW1 := zh hown
  have HZc : Hid (w1.heap.size ≤ v0.heap.size) := zh HSv0.out.size
  have HRZ1 := zh (HRZ0.out.below hb HRZ0.out.lt)
  clear hb hown
  refine hK.out _ _ HSv1.out ?_
  clear hK K
  (try simp only [Act.put, zA4, zA5, zA6])
  (refine wpOU_solo (zO rfl) ?_)
  intro K hK
  go_simp
  go_at_call 56
  refine (relation_any x v1 ((HXF.out v1 HSv1.out).mono (by have := HSv1.out.size; omega))).mono ?_
  rintro e v2 ⟨rfl, hb⟩
  have HSv2 : Hid (Below (w.heap.size + 1 + 1) w1 v2) := zh (HSv1.out.trans (hb.mono (by have := HSv1.out.size; omega)))
  have HOW2 := zh (own_below HOW1.out hb (zL _))
  have HRZ2 := zh (HRZ1.out.below hb HRZ1.out.lt)
  have HZd : Hid (w1.heap.size ≤ v2.heap.size) := zh HSv2.out.size
  clear hb
  refine hK.out _ _ HSv2.out ?_
  clear hK K
  (try simp only [Act.put, zA4, zA5, zA6])
  iterate 1
   (refine wpOU_step (zO rfl) ?_)
   (first
    | (refine wpOU_skip (by rfl) ?_)
    | (refine wpOU_take (by rfl) (take_row _ _ rfl (w.heap.size + 1) rfl _ _ _ C1 Tryz.underlying34 rfl HCI.out) ?_)
    | (refine wpOU_take (by rfl) (take_build3 _ _ _ _ _ _ _ rfl _ _ _ rfl rfl rfl _ (built_fac 3 _ (relF x) X d x.txt x.ws.length HTM.out (relF_rw x))) ?_)
    | (refine wpOU_take (v := ?_) (by rfl) ?_ ?_; rotate_left 1; (intro wx hSx; have hc_0 := C0 wx hSx; go_simp; try with_reducible rfl)))
   (try simp only [Act.put, zA4, zA5, zA6])
  (refine wpOU_solo (zO rfl) ?_)
  intro K hK
  go_simp
  go_at_call 67
  refine (one_any ⟨3, X, d, x.txt, ((pts (x.ws.length : Nat) : Nat) : Int), relF x⟩ v2 (fac_own 3 _ _ (by rw [HTM.out]; exact HOW2.out) (relF_rw x) HTL.out) HTL.out).mono ?_
  rintro e v3 ⟨A3, c3, gs, rfl, hown, hfo, hcr, hb⟩
  have HSv3 : Hid (Below (w.heap.size + 1 + 1) w1 v3) := zh (HSv2.out.trans (hb.mono (by have := HSv2.out.size; omega)))
  have HOW3 := zh hown; have HFF := zh hfo; have HCR := zh hcr
  have HRZ3 := zh (HRZ2.out.below hb HRZ2.out.lt)
  clear hb hown hfo hcr
  refine hK.out _ _ HSv3.out ?_
  clear hK K
  (try simp only [Act.put, zA4, zA5, zA6])
  (refine wpOU_solo (zO rfl) ?_)
  intro K hK
  rw [if_pos (by rfl)]
  refine wp_store_row _ _ _ rfl (w.heap.size + 1 + 1) (sv false A3 gs.length c3) rfl rfl _ _ HRZ3.out (by kernel_rfl) rfl (by simp [sv, Value.oneCell']) ?_
  have HRZ4 := zh (HRZ3.out.setRow (sv false A3 gs.length c3))
  have HSv4 : Hid (Below (w.heap.size + 1 + 1) w1 (v3.setRow (w.heap.size + 1 + 1) (sv false A3 gs.length c3))) := zh (HSv3.out.trans (Else.below (Else.setRow v3 _ _) (zL _)))
  have HKE : Hid (∀ {size n : Nat} {e : TypeId} {v : Value} {cs : List Value}, v3.ownsRow v2.heap.size e size v n cs → (v3.setRow (w.heap.size + 1 + 1) (sv false A3 gs.length c3)).ownsRow w.heap.size e size v n cs) := zh fun h => own_mono (own_same h fun b _ hv => setRow_other _ _ _ _ (by have := (h.lt b hv).1; have := HZd.out; have := HRZ.out.lt; omega)) (by have := HB.out.size; have := HZd.out; omega)
  refine hK.out _ _ HSv4.out ?_
  clear hK K
  (try simp only [Act.put, zA4, zA5, zA6])
  generalize v3.setRow (w.heap.size + 1 + 1) (sv false A3 gs.length c3) = v4 at *
  refine wpOU_done ?_
  go_wp2_with fail
  exact bodyPost_ret (ret_shape rfl _ _ (w.heap.size + 1 + 1) false A3 gs.length c3 rfl HRZ4.out) rfl (HQ.out _ _ ⟨A3, c3, gs, rfl, HKE.out HOW3.out, fun g hg => ⟨HKE.out (HFF.out g hg).own, (HFF.out g hg).rows⟩, HCR.out, HB.out.trans (HSv4.out.mono (by omega))⟩)
 by_cases h5 : x.op = 5
 ·have hxo := h5; clear h5 h1 h2 h3 h4
  have hkd : shF s x = [⟨4, none, 0, x.txt, ((pts (x.ws.length : Nat) : Nat) : Int), relF x⟩] := by unfold shF; rw [hxo]; rfl
  have hst : shT x.op = false := by unfold shT; rw [hxo]; rfl
  rw [hkd, hst] at HQ
  rw [hxo] at d0
  have HXO := zh hxo; clear hxo hkd hst
  go_upto_region 11 with fail
  clear d0 d4
  have HRZ0 : Hid (RowAt w1.drew (w.heap.size + 1 + 1) 45 (sv false none 0 0)) := HRZ
  have HSv0 : Hid (Below (w.heap.size + 1 + 1) w1 w1.drew) := zh (zB _ _).drew
  refine wp_region_ou (fun W => Below (w.heap.size + 1 + 1) w1 W) ((.take 0 (.take 1 (.take 3 (.solo 2 (.solo 4 (.take 5 (.solo 6 (.solo 7 .nil))))))))) (by kernel_rfl) (by kernel_rfl) rfl (by kernel_rfl) HSv0.out ?_
  generalize w1.drew = v0 at HRZ0 HSv0 ⊢
  iterate 3
   (refine wpOU_step (zO rfl) ?_)
   (first
    | (refine wpOU_skip (by rfl) ?_)
    | (refine wpOU_take (by rfl) (take_row _ _ rfl (w.heap.size + 1) rfl _ _ _ C1 Tryz.underlying34 rfl HCI.out) ?_)
    | (refine wpOU_take (v := ?_) (by rfl) ?_ ?_; rotate_left 1; (intro wx hSx; have hc_0 := C0 wx hSx; go_simp; try with_reducible rfl)))
   (try simp only [Act.put, zA4, zA5, zA6])
  (refine wpOU_solo (zO rfl) ?_)
  intro K hK
  go_simp
  go_at_call 68
  refine (HTX.out v0 HSv0.out).mono ?_
  rintro e v1 ⟨X, d, rfl, hown, hb⟩
  have HSv1 : Hid (Below (w.heap.size + 1 + 1) w1 v1) := zh (HSv0.out.trans (hb.mono (by have := HSv0.out.size; omega)))
  have HOW1 := zh hown
  have HZc : Hid (w1.heap.size ≤ v0.heap.size) := zh HSv0.out.size
  have HRZ1 := zh (HRZ0.out.below hb HRZ0.out.lt)
  clear hb hown
  refine hK.out _ _ HSv1.out ?_
  clear hK K
  (try simp only [Act.put, zA4, zA5, zA6])
  (refine wpOU_solo (zO rfl) ?_)
  intro K hK
  go_simp
  go_at_call 56
  refine (relation_any x v1 ((HXF.out v1 HSv1.out).mono (by have := HSv1.out.size; omega))).mono ?_
  rintro e v2 ⟨rfl, hb⟩
  have HSv2 : Hid (Below (w.heap.size + 1 + 1) w1 v2) := zh (HSv1.out.trans (hb.mono (by have := HSv1.out.size; omega)))
  have HOW2 := zh (own_below HOW1.out hb (zL _))
  have HRZ2 := zh (HRZ1.out.below hb HRZ1.out.lt)
  have HZd : Hid (w1.heap.size ≤ v2.heap.size) := zh HSv2.out.size
  clear hb
  refine hK.out _ _ HSv2.out ?_
  clear hK K
  (try simp only [Act.put, zA4, zA5, zA6])
  iterate 1
   (refine wpOU_step (zO rfl) ?_)
   (first
    | (refine wpOU_skip (by rfl) ?_)
    | (refine wpOU_take (by rfl) (take_row _ _ rfl (w.heap.size + 1) rfl _ _ _ C1 Tryz.underlying34 rfl HCI.out) ?_)
    | (refine wpOU_take (by rfl) (take_build3 _ _ _ _ _ _ _ rfl _ _ _ rfl rfl rfl _ (built_fac 4 _ (relF x) X d x.txt x.ws.length HTM.out (relF_rw x))) ?_)
    | (refine wpOU_take (v := ?_) (by rfl) ?_ ?_; rotate_left 1; (intro wx hSx; have hc_0 := C0 wx hSx; go_simp; try with_reducible rfl)))
   (try simp only [Act.put, zA4, zA5, zA6])
  (refine wpOU_solo (zO rfl) ?_)
  intro K hK
  go_simp
  go_at_call 67
  refine (one_any ⟨4, X, d, x.txt, ((pts (x.ws.length : Nat) : Nat) : Int), relF x⟩ v2 (fac_own 4 _ _ (by rw [HTM.out]; exact HOW2.out) (relF_rw x) HTL.out) HTL.out).mono ?_
  rintro e v3 ⟨A3, c3, gs, rfl, hown, hfo, hcr, hb⟩
  have HSv3 : Hid (Below (w.heap.size + 1 + 1) w1 v3) := zh (HSv2.out.trans (hb.mono (by have := HSv2.out.size; omega)))
  have HOW3 := zh hown; have HFF := zh hfo; have HCR := zh hcr
  have HRZ3 := zh (HRZ2.out.below hb HRZ2.out.lt)
  clear hb hown hfo hcr
  refine hK.out _ _ HSv3.out ?_
  clear hK K
  (try simp only [Act.put, zA4, zA5, zA6])
  (refine wpOU_solo (zO rfl) ?_)
  intro K hK
  rw [if_pos (by rfl)]
  refine wp_store_row _ _ _ rfl (w.heap.size + 1 + 1) (sv false A3 gs.length c3) rfl rfl _ _ HRZ3.out (by kernel_rfl) rfl (by simp [sv, Value.oneCell']) ?_
  have HRZ4 := zh (HRZ3.out.setRow (sv false A3 gs.length c3))
  have HSv4 : Hid (Below (w.heap.size + 1 + 1) w1 (v3.setRow (w.heap.size + 1 + 1) (sv false A3 gs.length c3))) := zh (HSv3.out.trans (Else.below (Else.setRow v3 _ _) (zL _)))
  have HKE : Hid (∀ {size n : Nat} {e : TypeId} {v : Value} {cs : List Value}, v3.ownsRow v2.heap.size e size v n cs → (v3.setRow (w.heap.size + 1 + 1) (sv false A3 gs.length c3)).ownsRow w.heap.size e size v n cs) := zh fun h => own_mono (own_same h fun b _ hv => setRow_other _ _ _ _ (by have := (h.lt b hv).1; have := HZd.out; have := HRZ.out.lt; omega)) (by have := HB.out.size; have := HZd.out; omega)
  refine hK.out _ _ HSv4.out ?_
  clear hK K
  (try simp only [Act.put, zA4, zA5, zA6])
  generalize v3.setRow (w.heap.size + 1 + 1) (sv false A3 gs.length c3) = v4 at *
  refine wpOU_done ?_
  go_wp2_with fail
  exact bodyPost_ret (ret_shape rfl _ _ (w.heap.size + 1 + 1) false A3 gs.length c3 rfl HRZ4.out) rfl (HQ.out _ _ ⟨A3, c3, gs, rfl, HKE.out HOW3.out, fun g hg => ⟨HKE.out (HFF.out g hg).own, (HFF.out g hg).rows⟩, HCR.out, HB.out.trans (HSv4.out.mono (by omega))⟩)
 ·have hkd : shF s x = [] := by unfold shF; rw [if_neg h1, if_neg h2, if_neg h3, if_neg h4, if_neg h5]
  have hst : shT x.op = false := by unfold shT; rw [zF h3]
  rw [hkd, hst] at HQ
  have n1 : (x.op == 1) = false := by simp [h1]
  have n2 : (x.op == 2) = false := by simp [h2]
  have n3 : (x.op == 3) = false := by simp [h3]
  have n4 : (x.op == 4) = false := by simp [h4]
  have n5 : (x.op == 5) = false := by simp [h5]
  clear h1 h2 h3 h4 h5 hkd hst
  generalize x.op = op at *
  go_wp2_with (first
   | (refine wpList_storeShape (by rfl) _ _ rfl (w.heap.size + 1 + 1) rfl false none 0 0 rfl _ zero_shape_size HRZ.out ?_; intro wz rz he))
  exact bodyPost_ret (ret_shape rfl _ _ (w.heap.size + 1 + 1) false none 0 0 rfl rz) rfl (HQ.out _ _ ⟨none, 0, [], rfl, World.ownsRow_nil _ _ _ _, (fun g hg => by cases hg), rfl, HB.out.trans (he.below (by omega))⟩)
end
section
open Go.RowKit RM
theorem cmpF_comm {f g : Int × Int} (h1 : ¬ cmpF f g < 0) (h2 : ¬ cmpF g f < 0) : f = g := by
 rw [cmpF_neg] at h1 h2
 obtain ⟨a, b⟩ := f; obtain ⟨c, d⟩ := g
 simp only at h1 h2
 have e1 : a = c := by omega
 have e2 : b = d := by omega
 rw [e1, e2]
theorem cmpF_asym {f g : Int × Int} (h1 : cmpF f g < 0) : ¬ cmpF g f < 0 := by
 rw [cmpF_neg] at h1 ⊢
 omega
theorem cmpF_tr {f g h : Int × Int} (h1 : cmpF f g < 0) (h2 : cmpF g h < 0) : cmpF f h < 0 := by
 rw [cmpF_neg] at h1 h2 ⊢
 omega
theorem stepF_comm (b f g : Int × Int) : stepF (stepF b f) g = stepF (stepF b g) f := by
 unfold stepF
 by_cases hf : f.1 = 0
 ·simp only [if_pos hf]
 ·by_cases hg : g.1 = 0
  ·simp only [if_pos hg]
  ·simp only [if_neg hf, if_neg hg]
   by_cases hb : b.1 = 0
   ·simp only [if_pos hb, if_neg hf, if_neg hg]
    split
    ·rename_i h; rw [if_neg (cmpF_asym h)]
    ·rename_i h
     split
     ·rfl
     ·rename_i h'; exact cmpF_comm h' h
   ·simp only [if_neg hb]
    by_cases h1 : cmpF f b < 0
    ·simp only [if_pos h1, if_neg hf]
     by_cases h2 : cmpF g b < 0
     ·simp only [if_pos h2, if_neg hg]
      split
      ·rename_i h; rw [if_neg (cmpF_asym h)]
      ·rename_i h
       split
       ·rfl
       ·rename_i h'; exact cmpF_comm h' h
     ·simp only [if_neg h2, if_neg hb, if_pos h1]
      rw [if_neg (fun h => h2 (cmpF_tr h h1))]
    ·simp only [if_neg h1, if_neg hb]
     by_cases h2 : cmpF g b < 0
     ·simp only [if_pos h2, if_neg hg]
      rw [if_neg (fun h => h1 (cmpF_tr h h2))]
     ·simp only [if_neg h2, if_neg hb, if_neg h1]
theorem foldF_perm {l m : List (Int × Int)} (h : l.Perm m) : ∀ b, l.foldl stepF b = m.foldl stepF b := by
 induction h with
 | nil => intro b; rfl
 | cons x _ ih => intro b; exact ih _
 | swap x y l => intro b; simp only [List.foldl_cons]; rw [stepF_comm]
 | trans _ _ ih1 ih2 => intro b; rw [ih1, ih2]
theorem lstF_perm {l m : List (Int × Int)} (h : l.Perm m) : lstF l = lstF m := foldF_perm h _
theorem foldF_filter (l : List (Int × Int)) : ∀ b, (l.filter fun f => decide (f.1 ≠ 0)).foldl stepF b = l.foldl stepF b := by
 induction l with
 | nil => intro b; rfl
 | cons x l ih =>
   intro b
   rw [List.filter_cons]
   by_cases h : x.1 = 0
   ·rw [if_neg (by simp [h]), ih, List.foldl_cons]
    have : stepF b x = b := by unfold stepF; rw [if_pos h]
    rw [this]
   ·rw [if_pos (by simp [h]), List.foldl_cons, List.foldl_cons, ih]
theorem lstF_filter (l : List (Int × Int)) : lstF (l.filter fun f => decide (f.1 ≠ 0)) = lstF l := foldF_filter l _
def livB (s : Sc) (t : ByteArray) : Bool := decide (0 ≤ idx s.lnms t) || decide (0 ≤ idx s.vnms t)
theorem cls_liv (s : Sc) (t : ByteArray) : (clsF (idx s.lnms) (idx s.vnms) t != 3) = livB s t := by
 unfold clsF livB
 by_cases h1 : 0 ≤ idx s.lnms t
 ·rw [if_pos h1, zE h1]; rfl
 ·rw [if_neg h1, zF h1]
  by_cases h2 : 0 ≤ idx s.vnms t
  ·rw [if_pos h2, zE h2]; rfl
  ·rw [if_neg h2, zF h2]; rfl
def rnmS (s : Sc) (x : Cd) (i : Nat) : List (Int × Int) :=
 if x.op = 3 then (if livB s (x.ws.getD i wd0).1 = true then (if 0 ≤ idx s.lnms (x.ws.getD i wd0).1 then [] else [(4, (x.ws.getD i wd0).2)]) else [(3, (x.ws.getD i wd0).2)])
 else if (decide (idx x.txt (x.ws.getD i wd0).1 < i) || (dVar x.op && livB s (x.ws.getD i wd0).1)) = true then [(3, (x.ws.getD i wd0).2)] else []
def rnmK (s : Sc) (x : Cd) (k : Nat) : List (Int × Int) := (List.range k).flatMap (rnmS s x)
theorem rnmK_succ (s : Sc) (x : Cd) (k : Nat) : rnmK s x (k + 1) = rnmK s x k ++ rnmS s x k := by
 unfold rnmK
 rw [List.range_succ, List.flatMap_append]; simp
theorem rnmS_len (s : Sc) (x : Cd) (k : Nat) : (rnmS s x k).length ≤ 1 := by
 unfold rnmS
 repeat' split
 all_goals simp
theorem rnmK_len (s : Sc) (x : Cd) (k : Nat) : (rnmK s x k).length ≤ k := by
 induction k with
 | zero => simp [rnmK]
 | succ k ih =>
   rw [rnmK_succ, zA7]
   have := rnmS_len s x k
   omega
theorem rnmS_eq (s : Sc) (x : Cd) (i : Nat) : (nmS (idx s.lnms) (idx s.vnms) x i).filter (fun f => decide (f.1 ≠ 0)) = rnmS s x i := by
 unfold nmS rnmS
 rw [cls_liv]
 by_cases h3 : x.op = 3
 ·rw [if_pos h3, if_pos h3]
  generalize x.ws.getD i wd0 = y
  unfold clsF livB
  by_cases h1 : 0 ≤ idx s.lnms y.1
  ·simp [h1]
  ·by_cases h2 : 0 ≤ idx s.vnms y.1
   ·simp [h1, h2]
   ·simp [h1, h2]
 ·rw [if_neg h3, if_neg h3]
  split
  ·rfl
  ·rfl
theorem rnmK_eq (s : Sc) (x : Cd) (k : Nat) : (namesK (idx s.lnms) (idx s.vnms) x k).filter (fun f => decide (f.1 ≠ 0)) = rnmK s x k := by
 induction k with
 | zero => rfl
 | succ k ih => rw [namesK_succ, List.filter_append, ih, rnmS_eq, rnmK_succ]
theorem pairs_all (x : Cd) (k : Nat) : (pairsK x k).filter (fun f => decide (f.1 ≠ 0)) = pairsK x k := by
 rw [List.filter_eq_self]
 intro f hf
 unfold pairsK at hf
 obtain ⟨i, _, hf⟩ := List.mem_flatMap.1 hf
 rw [List.mem_append] at hf
 unfold prS at hf
 rcases hf with hf | hf
 all_goals
  split at hf
  ·simp at hf
  ·simp only [List.mem_singleton] at hf
   subst hf; rfl
def rnameF (s : Sc) (x : Cd) : List (Int × Int) := if dVar x.op = livB s x.n.1 then (if dVar x.op = true then (if 0 ≤ idx s.lnms x.n.1 then [] else [(4, x.n.2)]) else []) else [(3, x.n.2)]
theorem rname_eq (s : Sc) (x : Cd) : (nameF (idx s.lnms) (idx s.vnms) x).filter (fun f => decide (f.1 ≠ 0)) = rnameF s x := by
 unfold nameF rnameF
 rw [cls_liv]
 cases hv : dVar x.op
 ·cases hl : livB s x.n.1 <;> rfl
 ·have hc := cls_liv s x.n.1
  cases hl : livB s x.n.1
  ·rw [hl] at hc
   have h3 : clsF (idx s.lnms) (idx s.vnms) x.n.1 = 3 := by simpa using hc
   rw [if_pos rfl, h3]; rfl
  ·rw [if_pos rfl, if_pos rfl, if_pos rfl]
   unfold clsF
   unfold livB at hl
   by_cases h1 : 0 ≤ idx s.lnms x.n.1
   ·rw [if_pos h1, if_pos h1]; rfl
   ·rw [if_neg h1, if_neg h1]
    rw [zF h1, Bool.false_or, decide_eq_true_eq] at hl
    rw [if_pos hl]; rfl
def rmost (op : Int) : Nat := if op = 4 ∨ op = 3 then 8 else 64
def rnum (s : Sc) (x : Cd) : Nat := if x.op = 3 then (shF s x).length else x.ws.length
def rlimB (s : Sc) (x : Cd) : Bool := (!dVar x.op && (decide (rmost x.op < rnum s x) || decide (16 ≤ s.ls.length))) || (dVar x.op && decide (64 < s.vs.length + rnum s x))
def rlimF (s : Sc) (x : Cd) : List (Int × Int) := if rlimB s x = true then [(7, x.p)] else []
theorem rlim_eq (s : Sc) (x : Cd) (h : 1 ≤ x.op ∧ x.op ≤ 7) : rlimB s x = tooB s x := by
 obtain ⟨h1, h7⟩ := h
 have hc : x.op = 1 ∨ x.op = 2 ∨ x.op = 3 ∨ x.op = 4 ∨ x.op = 5 ∨ x.op = 6 ∨ x.op = 7 := by omega
 unfold rlimB tooB rmost rnum dVar dLat shF
 rcases hc with e | e | e | e | e | e | e
 all_goals
  rw [e]
  rw [Bool.eq_iff_iff]
  simp
 all_goals (try (constructor <;> intro h <;> omega))
def rfaultF (s : Sc) (x : Cd) : Int × Int := if 1 ≤ x.op ∧ x.op ≤ 7 then lstF (rnmK s x x.ws.length ++ pairsF x ++ rnameF s x ++ ordF x ++ rlimF s x) else (0, 0)
theorem rfault_eq (s : Sc) (x : Cd) : rfaultF s x = faultF s x := by
 unfold rfaultF faultF
 by_cases h : 1 ≤ x.op ∧ x.op ≤ 7
 ·have hd : (dLat x.op || dVar x.op) = true := by
   unfold dLat dVar
   rw [Bool.or_eq_true, decide_eq_true_eq, decide_eq_true_eq]; omega
  rw [if_pos h, if_pos hd, ← lstF_filter (nameF _ _ _ ++ _ ++ _ ++ _ ++ _)]
  simp only [List.filter_append]
  rw [rname_eq]
  have h1 : (namesF (idx s.lnms) (idx s.vnms) x).filter (fun f => decide (f.1 ≠ 0)) = rnmK s x x.ws.length := rnmK_eq s x x.ws.length
  have h2 : (pairsF x).filter (fun f => decide (f.1 ≠ 0)) = pairsF x := pairs_all x _
  have h3 : (ordF x).filter (fun f => decide (f.1 ≠ 0)) = ordF x := by unfold ordF; split <;> rfl
  have h4 : (limF s x).filter (fun f => decide (f.1 ≠ 0)) = rlimF s x := by
   unfold limF rlimF
   rw [rlim_eq s x h]
   split <;> rfl
  rw [h1, h2, h3, h4]
  apply lstF_perm
  apply List.Perm.append_right
  apply List.Perm.append_right
  rw [List.append_assoc (rnameF s x)]
  exact List.perm_append_comm
 ·have hd : ¬ (dLat x.op || dVar x.op) = true := by
   unfold dLat dVar
   rw [Bool.or_eq_true, decide_eq_true_eq, decide_eq_true_eq]; omega
  rw [if_neg h, if_neg hd]
end
section
open Go.RowKit RM
theorem idx_lt (xs : List ByteArray) (s : ByteArray) : -1 ≤ idx xs s ∧ idx xs s < xs.length := idn_bd xs xs.length s
theorem qlives_any (s : Sc) (t : ByteArray) (w : World) (h : ScOk w s) :
 Calls Tryz.prog 60 #[.agg (scv s), .string t] w fun e w' => e = .returned (.bool (livB s t)) ∧ Below w.heap.size w w' := by
 have r0 := RowAt.new w 25 (scv s)
 have HB : Hid (Below w.heap.size w (w.alloc (.cells (scv s) 25))) := (zB _ _).alloc (zL _) _
 have hok := h.below HB.out
 have HLA := zh (refLat_any s t _ hok)
 have HVA := zh fun W (hW : Below (w.alloc (.cells (scv s) 25)).heap.size (w.alloc (.cells (scv s) 25)) W) => refVar_any s t W (hok.below hW)
 have HR := zh r0
 have HRf := zh fun W (hW : Below (w.alloc (.cells (scv s) 25)).heap.size (w.alloc (.cells (scv s) 25)) W) => r0.below hW r0.lt
 clear h hok r0
 unfold livB
 generalize idx s.lnms t = a at *
 generalize idx s.vnms t = b at *
 have HBS := zh HB.out.size
 refine cHid fun Q' hQ => ?_
 have HQ := zh hQ; clear hQ
 go_enter Tryz.func60, Tryz.ntmps60
 go_upto_region 1 with fail
 change Code.wp _ _ _ _ (w.alloc (.cells (scv s) 25))
 generalize w.alloc (.cells (scv s) 25) = w1 at *
 by_cases ha : 0 ≤ a
 ·rw [zE ha, Bool.true_or] at HQ
  go_wp2_with (first
   | (refine wpList_loadS (by first | rfl | kernel_rfl) _ _ rfl w.heap.size rfl _ _ _ HR.out Tryz.underlying25 rfl (by kernel_rfl) ?_)
   | (go_at_call 61; refine HLA.out.mono ?_; rintro e w2 ⟨rfl, hb2⟩; have HB2 := zh hb2; clear hb2))
  exact HQ.out _ _ ⟨rfl, HB.out.trans (HB2.out.mono HBS.out)⟩
 ·rw [zF ha, Bool.false_or] at HQ
  have ha2 : decide (0 ≤ a) = false := zF ha
  clear ha
  cases hq : decide (0 ≤ b)
  all_goals
   rw [hq] at HQ
   go_wp2_with (first
        | (refine wpList_loadS (by first | rfl | kernel_rfl) _ _ rfl w.heap.size rfl _ _ _ HR.out Tryz.underlying25 rfl (by kernel_rfl) ?_)
        | (go_at_call 61; refine HLA.out.mono ?_; rintro e w2 ⟨rfl, hb2⟩; have HB2 := zh hb2; have HR2 := zh (HRf.out _ hb2); have HV2 := zh (HVA.out _ hb2); clear hb2)
        | (refine wpList_loadS (by first | rfl | kernel_rfl) _ _ rfl w.heap.size rfl _ _ _ HR2.out Tryz.underlying25 rfl (by kernel_rfl) ?_)
        | (go_at_call 97; refine HV2.out.mono ?_; rintro e w3 ⟨rfl, hb3⟩; have HB3 := zh (HB2.out.trans (hb3.mono HB2.out.size)); clear hb3))
   exact HQ.out _ _ ⟨rfl, HB.out.trans (HB3.out.mono HBS.out)⟩
theorem ofR_step (x : Cd) (k : Nat) (m : List Nat) (hm : m = ofR (x.ws.length : Nat) (prK x k)) (a b : Int) (ha : idx x.txt (x.ps.getD k pw0).1.1 = a) (hb : idx x.txt (x.ps.getD k pw0).2.1 = b) :
 ofR (x.ws.length : Nat) (prK x (k + 1)) = if (0 ≤ a ∧ 0 ≤ b) ∧ a < 64 ∧ b < 64 then m.set a.toNat (MM.withN (m.getD a.toNat 0) b) else m := by
 have h1 := idx_lt x.txt (x.ps.getD k pw0).1.1
 have h2 := idx_lt x.txt (x.ps.getD k pw0).2.1
 have h3 : x.txt.length = x.ws.length := by simp [Cd.txt]
 rw [ha, h3] at h1
 rw [hb, h3] at h2
 have hp : ∀ i : Int, isPt ((pts (x.ws.length : Nat) : Nat) : Int) i = true ↔ 0 ≤ i ∧ i < x.ws.length ∧ i < 64 := fun i => by
  rw [isPt_iff, pts2]
  unfold pts
  split
  ·omega
  ·split <;> omega
 rw [prK_succ]
 unfold prI
 rw [ha, hb]
 by_cases h0 : 0 ≤ a
 ·rw [if_pos h0]
  by_cases h00 : 0 ≤ b
  ·rw [if_pos h00, ofR_snoc, ← hm]
   show (if (isPt ((pts (x.ws.length : Nat) : Nat) : Int) a && isPt ((pts (x.ws.length : Nat) : Nat) : Int) b) = true then m.set a.toNat (MM.withN (m.getD a.toNat 0) b) else m) = _
   by_cases h6 : a < 64 ∧ b < 64
   ·rw [if_pos (show (isPt ((pts (x.ws.length : Nat) : Nat) : Int) a && isPt ((pts (x.ws.length : Nat) : Nat) : Int) b) = true by rw [(hp a).2 ⟨h0, h1.2, h6.1⟩, (hp b).2 ⟨h00, h2.2, h6.2⟩]; rfl), if_pos ⟨⟨h0, h00⟩, h6⟩]
   ·have : ¬ ((isPt ((pts (x.ws.length : Nat) : Nat) : Int) a && isPt ((pts (x.ws.length : Nat) : Nat) : Int) b) = true) := fun h => by
     rw [Bool.and_eq_true, hp, hp] at h
     omega
    rw [if_neg this, if_neg (fun h => h6 h.2)]
  ·rw [if_neg h00, if_neg (fun h => h00 h.1.2), List.append_nil, hm]
 ·rw [if_neg h0, if_neg (fun h => h0 h.1.1), List.append_nil, hm]
theorem qrelated_any (x : Cd) (w : World) (hx : CdOk w w.heap.size x) :
 Calls Tryz.prog 63 #[.agg (cdv x)] w fun e w' => e = .returned (.agg (rv ((pts (x.ws.length : Nat) : Nat) : Int) (relF x))) ∧ Below w.heap.size w w' := by
 obtain ⟨r0, q0, hb⟩ := two_rows w (cdv x) (rv 0 zs) 34 95
 refine cHid fun Q' hQ => ?_
 have HQ := zh hQ; clear hQ
 go_enter Tryz.func63, Tryz.ntmps63
 go_upto_region 1 with fail
 change Code.wp _ _ _ _ ((w.alloc (.cells (cdv x) 34)).alloc (.cells (rv 0 zs) 95))
 generalize (w.alloc (.cells (cdv x) 34)).alloc (.cells (rv 0 zs) 95) = w1 at *
 have hx1 := hx.below hb
 have hq1 := q0.lt
 have d4 := (cd_cells r0).2.2.2.2.1
 have hwf := hx.wfew
 have HTX : Hid (Calls Tryz.prog 71 #[.slice x.A x.ws.length x.c] w1 fun e w' => ∃ X d, e = .returned (.slice X x.ws.length d) ∧ w'.ownsRow w1.heap.size 9 1 (.slice X x.ws.length d) x.ws.length (scells x.txt) ∧ Below w1.heap.size w1 w') := zh (rtexts_any x.A x.c x.ws w1 (by omega) (hx1.ws.mono (by omega)))
 have HTM : Hid (x.txt.length = x.ws.length) := zh (by simp [Cd.txt])
 have HXf : Hid (∀ W, Below w.heap.size w W → CdOk W w.heap.size x) := zh fun W hW => hx.below hW
 have HSTEP := zh (ofR_step x)
 have HREL : Hid (∀ m, m = ofR (x.ws.length : Nat) (prK x x.ps.length) → relF x = cz (x.ws.length : Nat) m) := zh fun m hm => by rw [hm]; rfl
 have HRW : Hid (RW (relF x)) := zh (relF_rw x)
 have hpf := hx.pfew
 clear hx hx1
 go_upto_region 2 with (go_at_call 71; refine HTX.out.mono ?_; rintro e w2 ⟨X, d, rfl, hown, hb2⟩)
 have HST : Hid (Sl w2 w2.heap.size X (scells x.txt)) := zh (Sl.of_own hown)
 have HRC2 := zh (r0.below hb2 r0.lt)
 have HRZ2 := zh (q0.below hb2 q0.lt)
 have HB2 : Hid (Below w.heap.size w w2) := zh (hb.trans (hb2.mono (by have := hb.size; omega)))
 have hs2 : w.heap.size + 1 < w2.heap.size := by have := hb2.size; omega
 clear hown hb2 r0 q0 hb d4 HTX hq1
 go_upto_region 3 with (refine wpList_storeRel rfl _ _ rfl w2.heap.size rfl (x.ws.length : Int) zs ?c1 0 zs RW.zs RW.zs ?c2 ?_; (case c1 => exact congrArg Value.agg (by rw [zero_rel, rv_setN])); (case c2 => rw [zero_rel]; exact RelAt.new _ _ _); intro w3 r3 he)
 have hb3 : Below w2.heap.size w2 w3 := ((zB _ _).alloc (zL _) _).trans (he.below (zL _))
 have HRC3 := zh (HRC2.out.below hb3 HRC2.out.lt)
 have HRZ3 := zh (HRZ2.out.below hb3 HRZ2.out.lt)
 have HB3 : Hid (Below w.heap.size w w3) := zh (HB2.out.trans (hb3.mono HB2.out.size))
 have hs3 : w2.heap.size < w3.heap.size := by rw [he.size]; simp
 have HSF : Hid (∀ W, Below w2.heap.size w3 W → Strs W X x.txt) := zh fun W hW => ((Sl.below HST.out hb3).below hW).mono (by have := hW.size; omega)
 generalize hg : w2.heap.size = g at *
 clear he hb3 HRC2 HRZ2 HB2 HST hg
 have HFN := zh fun s W (hW : Strs W X x.txt) => refFind_any X d x.txt s W (by rw [HTM.out]; omega) hW
 rw [HTM.out] at HFN
 generalize hn : x.ps.length = n at *
 have HN := zh hn; clear hn
 generalize x.ws.length = wn at *
 generalize hXB : x.B = XB at *
 have HXB := zh hXB; clear hXB
 go_upto_region 4 with fail
 go_loopw [5, 6, 7] (fun kv _ _ wr => ∃ (k : Nat) (m : List Nat), k ≤ n ∧ kv = .int .i64 k ∧ RW m ∧ RelAt wr g wn m ∧ Hid (m = ofR (wn : Nat) (prK x k)) ∧ Hid (Below g w3 wr)) (fun kv _ _ _ => n - (intOf kv).toNat)
 case atStart => exact ⟨0, zs, by omega, rfl, RW.zs, r3, zh rfl, zh (zB _ _)⟩
 case round =>
  obtain ⟨k, m, hk, rfl, hm, hr, HM, HW⟩ := hrel
  have HRC := zh (HRC3.out.below HW.out (by omega))
  have d5 := (cd_cells HRC.out).2.2.2.2.2.1
  rw [HN.out, HXB.out] at d5
  have HWS : Hid (Below w.heap.size w wr) := zh (HB3.out.trans (HW.out.mono (by omega)))
  by_cases hlt : k < n
  ·have HX := zh (HXf.out _ HWS.out)
   obtain ⟨b1, o1, hA, hrg⟩ := pair_at HX.out HWS.out.size (k := k) (by rw [HN.out]; exact hlt)
   have hA2 : XB = some ⟨b1, o1, none⟩ := HXB.out.symm.trans hA
   clear hA
   subst hA2
   have c0 := hrg 0 _ rfl
   have c2 := hrg 2 _ rfl
   rw [Nat.add_zero] at c0
   clear hrg
   have HF1 := zh (HFN.out (x.ps.getD k pw0).1.1 wr (HSF.out _ HW.out))
   have HF2 := zh (HFN.out (x.ps.getD k pw0).2.1 wr (HSF.out _ HW.out))
   have HSP := zh fun a b h1 h2 => HSTEP.out k m HM.out a b h1 h2
   clear HM
   have hin : (k : Int) < (n : Int) := by omega
   generalize (x.ps.getD k pw0).1.1 = s1 at *
   generalize (x.ps.getD k pw0).2.1 = s2 at *
   have HE := zh (HSP.out _ _ rfl rfl)
   clear HSP
   generalize idx x.txt s1 = a at *
   generalize idx x.txt s2 = b at *
   go_upto_region 7 with (go_at_call 125; refine HF1.out.mono ?_; rintro e w' ⟨rfl, rfl⟩)
   go_upto_region 8 with (go_at_call 125; refine HF2.out.mono ?_; rintro e w' ⟨rfl, rfl⟩)
   clear c0 c2 HF1 HF2 d5
   by_cases ha : 0 ≤ a
   ·by_cases hb : 0 ≤ b
    ·by_cases ha6 : a < 64
     ·by_cases hb6 : b < 64
      ·obtain ⟨a, rfl⟩ := Int.eq_ofNat_of_zero_le ha
       have ha7 : a < 64 := by omega
       have hcd := hr.cell hm a ha7
       have hfd := hr.free (1 + a)
       have hx := hm.lt a
       have e := u64_or_nat (m.getD a 0) _ hx (MM.sg_lt b)
       have hz : ((MM.sg b : Nat) : Int) = IntKind.u64.wrap (2 ^ b.toNat) := by
        have hp : (2 : Nat) ^ b.toNat < 2 ^ 64 := Nat.pow_lt_pow_right (by omega) (by omega)
        have hc : ((2 : Int) ^ b.toNat) = ((2 ^ b.toNat : Nat) : Int) := by simp
        unfold MM.sg
        rw [if_pos (by omega), IntKind.wrap_u64, hc]
        generalize 2 ^ b.toNat = n at *
        omega
       rw [hz] at e
       have HM2 : Hid (m.set a (MM.withN (m.getD a 0) b) = ofR (wn : Nat) (prK x (k + 1))) := zh (by rw [HE.out, if_pos ⟨⟨ha, hb⟩, ha6, hb6⟩]; simp)
       have HRW2 : Hid (RW (m.set a (MM.withN (m.getD a 0) b))) := zh (hm.set _ _ (MM.withN_lt hx _))
       have e2 : bits BinOp.or IntKind.u64 ((m.getD a 0 : Nat) : Int) (IntKind.u64.wrap (2 ^ b.toNat)) = ((MM.withN (m.getD a 0) b : Nat) : Int) := e
       clear e hz
       generalize MM.withN (m.getD a 0) b = y at *
       generalize m.getD a 0 = z at *
       clear ha ha6 HE
       go_wp2_with fail
       go_roundw
       case rel => exact ⟨k + 1, _, by omega, by go_num, HRW2.out, hr.put a y, HM2, zh (HW.out.setCell (zL _) _)⟩
       case measure => simp [intOf]; omega
      ·have HM2 : Hid (m = ofR (wn : Nat) (prK x (k + 1))) := zh (by rw [HE.out, if_neg (by omega)])
       clear HE
       go_wp2_with fail
       go_roundw
       case rel => exact ⟨k + 1, m, by omega, by go_num, hm, hr, HM2, HW⟩
       case measure => simp [intOf]; omega
     ·have HM2 : Hid (m = ofR (wn : Nat) (prK x (k + 1))) := zh (by rw [HE.out, if_neg (by omega)])
      clear HE
      go_wp2_with fail
      go_roundw
      case rel => exact ⟨k + 1, m, by omega, by go_num, hm, hr, HM2, HW⟩
      case measure => simp [intOf]; omega
    ·have HM2 : Hid (m = ofR (wn : Nat) (prK x (k + 1))) := zh (by rw [HE.out, if_neg (by omega)])
     clear HE
     go_wp2_with fail
     go_roundw
     case rel => exact ⟨k + 1, m, by omega, by go_num, hm, hr, HM2, HW⟩
     case measure => simp [intOf]; omega
   ·have HM2 : Hid (m = ofR (wn : Nat) (prK x (k + 1))) := zh (by rw [HE.out, if_neg (by omega)])
    clear HE
    go_wp2_with fail
    go_roundw
    case rel => exact ⟨k + 1, m, by omega, by go_num, hm, hr, HM2, HW⟩
    case measure => simp [intOf]; omega
  ·obtain rfl : k = n := by omega
   have HEQ := zh (HREL.out m HM.out)
   have HCL := zh (qclosure_any (wn : Int) m hm wr)
   rw [← HEQ.out] at HCL
   have HRZ := zh (HRZ3.out.below HW.out (by omega))
   go_wp2_with (first
        | (refine wpList_loadRel rfl _ rfl g rfl _ _ hm hr ?_)
        | (go_at_call 129; refine HCL.out.mono ?_; rintro e w4 ⟨rfl, hb4⟩; have hrz4 := HRZ.out.below hb4 HRZ.out.lt; have HB4 : Hid (Below w.heap.size w w4) := zh (HWS.out.trans (hb4.mono HWS.out.size)))
        | (refine wpList_storeRel rfl _ _ rfl (w.heap.size + 1) rfl _ _ rfl 0 zs RW.zs HRW.out hrz4 ?_; intro w5 hr5 he))
   exact bodyPost_ret (ret_rel rfl _ _ (w.heap.size + 1) _ _ HRW.out rfl hr5) rfl (HQ.out _ _ ⟨rfl, HB4.out.trans (he.below (by omega))⟩)
end
section
open Go.RowKit
theorem setCells_row {g : Nat} {t : TypeId} : ∀ (ys : List Value) (o : Nat) (cs : Array Value) (w : World), RowAt w g t cs → ∃ ds : Array Value, RowAt (w.setCells g o ys) g t ds ∧ ds.size = cs.size ∧ (∀ j, (j < o ∨ o + ys.length ≤ j) → ds[j]? = cs[j]?) ∧ (∀ j, j < ys.length → o + j < cs.size → ds[o + j]? = ys[j]?)
 | [], o, cs, w, h => ⟨cs, h, rfl, fun _ _ => rfl, fun j hj => by simp at hj⟩
 | y :: ys, o, cs, w, h => by
   obtain ⟨ds, h1, h2, h3, h4⟩ := setCells_row ys (o + 1) _ _ (h.put o y)
   refine ⟨ds, h1, by rw [h2, Array.size_setIfInBounds], fun j hj => ?_, fun j hj hjs => ?_⟩
   ·rw [h3 j (by simp only [zA8] at hj; omega), Array.getElem?_setIfInBounds_ne (by simp only [zA8] at hj; omega)]
   ·cases j with
    | zero =>
      rw [Nat.add_zero, h3 o (by omega), Array.getElem?_setIfInBounds_self_of_lt (by omega)]
      simp
    | succ j =>
      rw [show o + (j + 1) = o + 1 + j by omega, h4 j (by simpa using hj) (by rw [Array.size_setIfInBounds]; omega)]
      simp
theorem setCells_size (w : World) (g o : Nat) (ys : List Value) : (w.setCells g o ys).heap.size = w.heap.size := by
 induction ys generalizing w o with
 | nil => rfl
 | cons y ys ih => rw [World.setCells, ih]; simp [World.setCell]
theorem setCells_other (w : World) (g o : Nat) (ys : List Value) (k : Nat) (hk : k ≠ g) : (w.setCells g o ys).heap[k]? = w.heap[k]? := by
 induction ys generalizing w o with
 | nil => rfl
 | cons y ys ih =>
   rw [World.setCells, ih]
   simp only [World.setCell, Array.getElem?_modify, if_neg (fun e => hk (Eq.symm e))]
theorem setCells_env (w : World) (g o : Nat) (ys : List Value) : (w.setCells g o ys).os = w.os ∧ (w.setCells g o ys).tape = w.tape ∧ (w.setCells g o ys).output = w.output := by
 induction ys generalizing w o with
 | nil => exact ⟨rfl, rfl, rfl⟩
 | cons y ys ih => rw [World.setCells]; exact ih _ _
theorem setCells_below {B g : Nat} {w : World} (hB : B ≤ g) (o : Nat) (ys : List Value) : Below B w (w.setCells g o ys) :=
 ⟨(setCells_env w g o ys).1, (setCells_env w g o ys).2.1, (setCells_env w g o ys).2.2, by rw [setCells_size]; exact zL _, fun k hk => setCells_other w g o ys k (by omega)⟩
end
section
open Go.RowKit RM
theorem fac_there {w : World} {g : Nat} {f : Fac} {n : Int} {l : List Nat} (h : RowAt w g 104 (fv f)) (hl : RW l) (hf : RW f.l := by exact RW.zs) : w.there g 2 (rv n l).size := fun j hj => by
 rw [rv_size n hl] at hj
 refine ⟨?_, h.free _⟩
 rw [h.cell, Array.getElem?_eq_getElem (by rw [fv_size f hf]; omega)]
 rfl
theorem facPut {w : World} {g : Nat} {f : Fac} (hf : RW f.l) (h : RowAt w g 104 (fv f)) (n : Int) (l : List Nat) (hl : RW l) : RowAt (w.setCells g 2 (rv n l).toList) g 104 (fv { f with n := n, l := l }) := by
 obtain ⟨ds, h1, h2, h3, h4⟩ := setCells_row (rv n l).toList 2 (fv f) w h
 have hr : (rv n l).toList.length = 65 := by rw [Array.length_toList, rv_size n hl]
 have e : ds = fv { f with n := n, l := l } := by
  refine Array.ext_getElem? fun j => ?_
  by_cases hj : j < 2
  ·rw [h3 j (.inl hj)]
   have : j = 0 ∨ j = 1 := by omega
   rcases this with rfl | rfl <;> rfl
  ·by_cases hj2 : j < 67
   ·have h5 := h4 (j - 2) (by omega) (by rw [fv_size f hf]; omega)
    rw [show 2 + (j - 2) = j by omega] at h5
    rw [h5]
    obtain ⟨k, rfl⟩ : ∃ k, j = k + 2 := ⟨j - 2, by omega⟩
    rw [Nat.add_sub_cancel]
    simp [fv, fcells, rvl, rv]
   ·rw [Array.getElem?_eq_none (by rw [h2, fv_size f hf]; omega), Array.getElem?_eq_none (by rw [fv_size _ (show RW ({ f with n := n, l := l } : Fac).l from hl)]; omega)]
 rw [← e]; exact h1
theorem fac_built (X : Option Addr) (d : Nat) (xs : List ByteArray) : (Tryz.zeroCells104.setIfInBounds 1 (.slice X xs.length d)) = fv ⟨0, X, d, xs, 0, zs⟩ := by
 have hz : Tryz.zeroCells104 = fv f0 := by kernel_rfl
 rw [hz]
 rfl
theorem dshK_mono (s : Sc) (ws : List (ByteArray × Int)) {i j : Nat} (h : i ≤ j) : (flat (dshK s ws i)).length ≤ (flat (dshK s ws j)).length := by
 induction j with
 | zero => rw [show i = 0 by omega]; exact zL _
 | succ j ih =>
   by_cases e : i = j + 1
   ·rw [e]; exact zL _
   ·have := ih (by omega)
    rw [dshK_succ]
    unfold flat at this ⊢
    rw [List.flatMap_append, zA7]
    omega
theorem idx_mem {xs : List ByteArray} {t : ByteArray} (h : 0 ≤ idx xs t) : ∃ k : Nat, idx xs t = k ∧ k < xs.length := by
 have := idx_lt xs t
 exact ⟨(idx xs t).toNat, by omega, by omega⟩
def ShKeep (w0 w w' : World) (A : Option Addr) (gs : List Fac) : Prop := ∀ W, Below w0.heap.size w0 W → (∀ b, w.heap.size ≤ b → b < w'.heap.size → W.heap[b]? = w'.heap[b]?) → Facs W A gs
theorem ShKeep.facs {w0 w w' : World} {A : Option Addr} {gs : List Fac} (h : ShKeep w0 w w' A gs) (h0 : Below w0.heap.size w0 w) (hb : Below w.heap.size w w') : Facs w' A gs := h w' (h0.trans (hb.mono h0.size)) fun _ _ _ => rfl
theorem qshape13_any (s : Sc) (x : Cd) (w00 w : World) (h0 : ScOk w00 s) (hw0 : Below w00.heap.size w00 w) (hx : CdOk w w.heap.size x) (hsum : x.op = 3 → (flat (dshF s x.ws)).length ≤ 65536) :
 Calls Tryz.prog 18 #[.agg (scv s), .agg (cdv x)] w fun e w' => ∃ A' c' gs, e = .returned (.agg (sv (shT x.op) A' gs.length c')) ∧ ShKeep w00 w w' A' gs ∧ (A' = none → c' = 0) ∧ gs.map core = (shF s x).map core ∧ Below w.heap.size w w' := by
 have h := h0.below hw0
 obtain ⟨r0, q0, z0, hb⟩ := (three_rows w (scv s) (cdv x) (sv false none 0 0) 25 34 45)
 refine cHid fun Q' hQ => ?_
 have HQ := zh hQ; clear hQ
 go_enter Tryz.func18, Tryz.ntmps18
 go_upto_region 1 with fail
 change Code.wp _ _ _ _ (((w.alloc (.cells (scv s) 25)).alloc (.cells (cdv x) 34)).alloc (.cells (sv false none 0 0) 45))
 generalize ((w.alloc (.cells (scv s) 25)).alloc (.cells (cdv x) 34)).alloc (.cells (sv false none 0 0) 45) = w1 at *
 have hz := z0.lt
 have hws : x.ws.length ≤ 65536 := hx.wfew
 have HTM : Hid (x.txt.length = x.ws.length) := zh (by simp [Cd.txt])
 have HTL : Hid (x.txt.length ≤ 65536) := zh (by rw [HTM.out]; exact hws)
 have hx1 := hx.below hb
 have HTX : Hid (Calls Tryz.prog 71 #[.slice x.A x.ws.length x.c] w1 fun e w' => ∃ X d, e = .returned (.slice X x.ws.length d) ∧ w'.ownsRow w1.heap.size 9 1 (.slice X x.ws.length d) x.ws.length (scells x.txt) ∧ Below w1.heap.size w1 w') := zh (rtexts_any x.A x.c x.ws w1 (by omega) (hx1.ws.mono (by omega)))
 have HOKf : Hid (∀ W, Below w.heap.size w W → ScOk W s) := zh fun W hW => h.below hW
 have HOK0 : Hid (∀ W, Below w00.heap.size w00 W → ScOk W s) := zh fun W hW => h0.below hW
 have HXf : Hid (∀ W, Below w.heap.size w W → CdOk W w.heap.size x) := zh fun W hW => hx.below hW
 have HCI := zh (cdinfo hx)
 have HSUM := zh hsum
 have HRC := zh q0
 have HRZ := zh z0
 have HRS := zh r0
 have HB := zh hb
 have d4 := (cd_cells q0).2.2.2.2.1
 clear h hx hx1 hsum r0 q0 z0 hb h0 hw0
 go_upto_region 2 with (first
  | (go_at_call 71; refine HTX.out.mono ?_; rintro e w2 ⟨X, d, rfl, hown, hb2⟩; rw [← HTM.out] at hown ⊢; have HB2 := zh hb2; have HOW2 := zh hown; clear hb2 hown)
  | (refine wpList_storeFac (by rfl) _ _ rfl w2.heap.size rfl ⟨0, X, d, x.txt, 0, zs⟩ RW.zs (congrArg Value.agg (fac_built X d x.txt)) _ zero_fac_size (RowAt.new _ _ _) ?_; intro w3 r3 he; have hb3 : Below w2.heap.size w2 w3 := ((zB _ _).alloc (zL _) _).trans (he.below (zL _))))
 have hg0 : w.heap.size + 1 + 1 < w2.heap.size := by have := HB2.out.size; omega
 have HB3w : Hid (Below w1.heap.size w1 w3) := zh (HB2.out.trans (hb3.mono HB2.out.size))
 have HB3 : Hid (Below w.heap.size w w3) := zh (HB.out.trans (HB3w.out.mono HB.out.size))
 have HRC3 := zh (HRC.out.below HB3w.out HRC.out.lt)
 have HRS3 := zh (HRS.out.below HB3w.out HRS.out.lt)
 have HRZ3 := zh (HRZ.out.below HB3w.out HRZ.out.lt)
 have HR3 := zh r3
 have hg3 := r3.lt
 have HFO : Hid (∀ (kd n : Int) (l : List Nat), RW l → ∀ W, W.ownsRow w1.heap.size 9 1 (.slice X x.txt.length d) x.txt.length (scells x.txt) → FacOk W ⟨kd, X, d, x.txt, n, l⟩) := zh fun kd n l hl W hW => fac_own kd n l hW hl HTL.out
 have HOW3 := zh (own_mono (own_below HOW2.out hb3 (zL _)) (zL _))
 have HTYS : Hid (9 ≠ 45) := by show (9 : Nat) ≠ 45; decide
 have HTYF : Hid (104 ≠ 45) := by show (104 : Nat) ≠ 45; decide
 have d0 := (cd_cells HRC3.out).1
 generalize hgg : w2.heap.size = g at *
 have HTMn := HTM
 clear r3 he hb3 d4 HTX hws HTM
 by_cases h1 : x.op = 1
 ·have hxo := h1; clear h1
  have hkd : shF s x = [⟨1, none, 0, x.txt, 0, zs⟩] := by unfold shF; rw [hxo]; rfl
  have hst : shT x.op = false := by unfold shT; rw [hxo]; rfl
  rw [hkd, hst] at HQ
  rw [hxo] at d0
  have HXO := zh hxo; clear hxo hkd hst
  have c0 := HR3.out.cell 0
  rw [show (fv ⟨0, X, d, x.txt, 0, zs⟩)[0]? = some (.int .i64 0) from rfl] at c0
  have f0 := HR3.out.free 0
  have r4 : RowAt (w3.setCell ⟨g, 0, none⟩ (.int .i64 1)) g 104 (fv (⟨1, X, d, x.txt, 0, zs⟩ : Fac)) := HR3.out.put 0 (.int .i64 1)
  have HB34 : Hid (Below g w3 (w3.setCell ⟨g, 0, none⟩ (.int .i64 1))) := zh ((zB _ _).setCell (p := ⟨g, 0, none⟩) (zL _) _)
  go_upto_region 23 with fail
  generalize w3.setCell ⟨g, 0, none⟩ (.int .i64 1) = w4 at *
  clear c0 f0 d0
  have HB4 : Hid (Below w.heap.size w w4) := zh (HB3.out.trans (HB34.out.mono (by omega)))
  have HFK := zh fun W hW => HFO.out 1 0 zs RW.zs W hW
  have HFL : Hid (RW zs) := zh RW.zs
  have HOW4 := zh (own_same HOW3.out fun b _ hv => HB34.out.block b (by have := (HOW2.out.lt b hv).2; omega))
  have HRW4 : Hid (RW ((⟨1, X, d, x.txt, 0, zs⟩ : Fac)).l) := HFL
  have HZ4 := zh (HRZ3.out.below HB34.out (by omega))
  go_wp2_with (first
   | (refine wpList_loadFac (by rfl) _ rfl g rfl ((⟨1, X, d, x.txt, 0, zs⟩ : Fac)) HRW4.out r4 ?_)
   | (refine wpList_oneF (by rfl) _ rfl ((⟨1, X, d, x.txt, 0, zs⟩ : Fac)) HRW4.out rfl ?_; intro w5 r5 hb5; have HZ5 := zh (HZ4.out.below hb5 HZ4.out.lt); have R5 := zh r5; have HB5 := zh hb5; clear r5 hb5)
   | (refine wpList_storeShape (by rfl) _ _ rfl (w.heap.size + 1 + 1) rfl false (some ⟨w4.heap.size, 0, none⟩) 1 1 rfl _ zero_shape_size HZ5.out ?_; intro w6 r6 he))
  have hz4 := HZ4.out.lt
  have hown6 := own_other (own_below HOW4.out HB5.out (zL _)) he HTYS.out HZ5.out
  have hr6 := R5.out.other he (by omega)
  have hbw := HB.out.size
  have hb4 := HB4.out.size
  have hkeep : ShKeep w00 w w6 (some ⟨w4.heap.size, 0, none⟩) [(⟨1, X, d, x.txt, 0, zs⟩ : Fac)] := fun W2 _ hk => fac_of_row ((hk _ hb4 hr6.lt).trans hr6) (HFK.out W2 (own_same hown6 fun b hb hv => hk b (by have := (hown6.lt b hv).1; omega) hb))
  have HBw6 : Hid (Below w.heap.size w w6) := zh ((HB4.out.trans (HB5.out.mono HB4.out.size)).trans (he.below (by omega)))
  exact bodyPost_ret (ret_shape rfl _ _ (w.heap.size + 1 + 1) false (some ⟨w4.heap.size, 0, none⟩) 1 1 rfl r6) rfl (HQ.out _ _ ⟨some ⟨w4.heap.size, 0, none⟩, 1, [(⟨1, X, d, x.txt, 0, zs⟩ : Fac)], rfl, hkeep, (fun h => by cases h), rfl, HBw6.out⟩)
 by_cases h2 : x.op = 2
 ·have hxo := h2; clear h2
  have hkd : shF s x = [⟨2, none, 0, x.txt, 0, zs⟩] := by unfold shF; rw [hxo]; rfl
  have hst : shT x.op = false := by unfold shT; rw [hxo]; rfl
  rw [hkd, hst] at HQ
  rw [hxo] at d0
  have HXO := zh hxo; clear hxo hkd hst
  have c0 := HR3.out.cell 0
  rw [show (fv ⟨0, X, d, x.txt, 0, zs⟩)[0]? = some (.int .i64 0) from rfl] at c0
  have f0 := HR3.out.free 0
  have r4 : RowAt (w3.setCell ⟨g, 0, none⟩ (.int .i64 2)) g 104 (fv (⟨2, X, d, x.txt, 0, zs⟩ : Fac)) := HR3.out.put 0 (.int .i64 2)
  have HB34 : Hid (Below g w3 (w3.setCell ⟨g, 0, none⟩ (.int .i64 2))) := zh ((zB _ _).setCell (p := ⟨g, 0, none⟩) (zL _) _)
  go_upto_region 23 with fail
  generalize w3.setCell ⟨g, 0, none⟩ (.int .i64 2) = w4 at *
  clear c0 f0 d0
  have HB4 : Hid (Below w.heap.size w w4) := zh (HB3.out.trans (HB34.out.mono (by omega)))
  have HFK := zh fun W hW => HFO.out 2 0 zs RW.zs W hW
  have HFL : Hid (RW zs) := zh RW.zs
  have HOW4 := zh (own_same HOW3.out fun b _ hv => HB34.out.block b (by have := (HOW2.out.lt b hv).2; omega))
  have HRW4 : Hid (RW ((⟨2, X, d, x.txt, 0, zs⟩ : Fac)).l) := HFL
  have HZ4 := zh (HRZ3.out.below HB34.out (by omega))
  go_wp2_with (first
   | (refine wpList_loadFac (by rfl) _ rfl g rfl ((⟨2, X, d, x.txt, 0, zs⟩ : Fac)) HRW4.out r4 ?_)
   | (refine wpList_oneF (by rfl) _ rfl ((⟨2, X, d, x.txt, 0, zs⟩ : Fac)) HRW4.out rfl ?_; intro w5 r5 hb5; have HZ5 := zh (HZ4.out.below hb5 HZ4.out.lt); have R5 := zh r5; have HB5 := zh hb5; clear r5 hb5)
   | (refine wpList_storeShape (by rfl) _ _ rfl (w.heap.size + 1 + 1) rfl false (some ⟨w4.heap.size, 0, none⟩) 1 1 rfl _ zero_shape_size HZ5.out ?_; intro w6 r6 he))
  have hz4 := HZ4.out.lt
  have hown6 := own_other (own_below HOW4.out HB5.out (zL _)) he HTYS.out HZ5.out
  have hr6 := R5.out.other he (by omega)
  have hbw := HB.out.size
  have hb4 := HB4.out.size
  have hkeep : ShKeep w00 w w6 (some ⟨w4.heap.size, 0, none⟩) [(⟨2, X, d, x.txt, 0, zs⟩ : Fac)] := fun W2 _ hk => fac_of_row ((hk _ hb4 hr6.lt).trans hr6) (HFK.out W2 (own_same hown6 fun b hb hv => hk b (by have := (hown6.lt b hv).1; omega) hb))
  have HBw6 : Hid (Below w.heap.size w w6) := zh ((HB4.out.trans (HB5.out.mono HB4.out.size)).trans (he.below (by omega)))
  exact bodyPost_ret (ret_shape rfl _ _ (w.heap.size + 1 + 1) false (some ⟨w4.heap.size, 0, none⟩) 1 1 rfl r6) rfl (HQ.out _ _ ⟨some ⟨w4.heap.size, 0, none⟩, 1, [(⟨2, X, d, x.txt, 0, zs⟩ : Fac)], rfl, hkeep, (fun h => by cases h), rfl, HBw6.out⟩)
 by_cases h4 : x.op = 4
 ·have hxo := h4; clear h4 h1 h2
  have hkd : shF s x = [⟨3, none, 0, x.txt, ((pts (x.ws.length : Nat) : Nat) : Int), relF x⟩] := by unfold shF; rw [hxo]; rfl
  have hst : shT x.op = false := by unfold shT; rw [hxo]; rfl
  rw [hkd, hst] at HQ
  rw [hxo] at d0
  have HXO := zh hxo; clear hxo hkd hst
  have c0 := HR3.out.cell 0
  rw [show (fv ⟨0, X, d, x.txt, 0, zs⟩)[0]? = some (.int .i64 0) from rfl] at c0
  have f0 := HR3.out.free 0
  have r4 : RowAt (w3.setCell ⟨g, 0, none⟩ (.int .i64 3)) g 104 (fv (⟨3, X, d, x.txt, 0, zs⟩ : Fac)) := HR3.out.put 0 (.int .i64 3)
  have HB34 : Hid (Below g w3 (w3.setCell ⟨g, 0, none⟩ (.int .i64 3))) := zh ((zB _ _).setCell (p := ⟨g, 0, none⟩) (zL _) _)
  go_upto_region 10 with fail
  generalize w3.setCell ⟨g, 0, none⟩ (.int .i64 3) = w4 at *
  clear c0 f0 d0
  have HR4 := zh r4; clear r4
  have HB4a : Hid (Below w.heap.size w w4) := zh (HB3.out.trans (HB34.out.mono (by omega)))
  have HRL := zh (qrelated_any x w4 ((HXf.out _ HB4a.out).mono HB4a.out.size))
  have HRC4 := zh (HRC3.out.below HB34.out (by omega))
  have HRWr : Hid (RW (relF x)) := zh (relF_rw x)
  go_upto_region 23 with (first
   | (refine wpList_loadS (by rfl) _ _ rfl (w.heap.size + 1) rfl _ _ _ HRC4.out Tryz.underlying34 rfl HCI.out ?_)
   | (go_at_call 63; refine HRL.out.mono ?_; rintro e w5 ⟨rfl, hb5⟩; have HR5 := zh (HR4.out.below hb5 HR4.out.lt); have HB45 := zh hb5; clear hb5)
   | (refine wpList_store_mid rfl _ _ _ rfl g 2 (rv ((pts (x.ws.length : Nat) : Nat) : Int) (relF x)) rfl rfl (fac_there HR5.out HRWr.out) (rinfo _ HRWr.out) (rv_one _ _) ?_))
  have r4 := facPut RW.zs HR5.out ((pts (x.ws.length : Nat) : Nat) : Int) (relF x) HRWr.out
  have HB56 : Hid (Below g w5 (w5.setCells g 2 (rv ((pts (x.ws.length : Nat) : Nat) : Int) (relF x)).toList)) := zh (setCells_below (zL _) _ _)
  have hgs4 := HR4.out.lt
  generalize w5.setCells g 2 (rv ((pts (x.ws.length : Nat) : Nat) : Int) (relF x)).toList = w7 at *
  have HB34b : Hid (Below g w3 w7) := zh ((HB34.out.trans (HB45.out.mono (by omega))).trans HB56.out)
  clear HB34
  have HB34 := HB34b
  have HB4 : Hid (Below w.heap.size w w7) := zh (HB3.out.trans (HB34.out.mono (by omega)))
  have HFK := zh fun W hW => HFO.out 3 ((pts (x.ws.length : Nat) : Nat) : Int) (relF x) HRWr.out W hW
  have HFL := HRWr
  have HOW4 := zh (own_same HOW3.out fun b _ hv => HB34.out.block b (by have := (HOW2.out.lt b hv).2; omega))
  have HRW4 : Hid (RW ((⟨3, X, d, x.txt, ((pts (x.ws.length : Nat) : Nat) : Int), relF x⟩ : Fac)).l) := HFL
  have HZ4 := zh (HRZ3.out.below HB34.out (by omega))
  go_wp2_with (first
   | (refine wpList_loadFac (by rfl) _ rfl g rfl ((⟨3, X, d, x.txt, ((pts (x.ws.length : Nat) : Nat) : Int), relF x⟩ : Fac)) HRW4.out r4 ?_)
   | (refine wpList_oneF (by rfl) _ rfl ((⟨3, X, d, x.txt, ((pts (x.ws.length : Nat) : Nat) : Int), relF x⟩ : Fac)) HRW4.out rfl ?_; intro w5 r5 hb5; have HZ5 := zh (HZ4.out.below hb5 HZ4.out.lt); have R5 := zh r5; have HB5 := zh hb5; clear r5 hb5)
   | (refine wpList_storeShape (by rfl) _ _ rfl (w.heap.size + 1 + 1) rfl false (some ⟨w7.heap.size, 0, none⟩) 1 1 rfl _ zero_shape_size HZ5.out ?_; intro w6 r6 he))
  have hz4 := HZ4.out.lt
  have hown6 := own_other (own_below HOW4.out HB5.out (zL _)) he HTYS.out HZ5.out
  have hr6 := R5.out.other he (by omega)
  have hbw := HB.out.size
  have hb4 := HB4.out.size
  have hkeep : ShKeep w00 w w6 (some ⟨w7.heap.size, 0, none⟩) [(⟨3, X, d, x.txt, ((pts (x.ws.length : Nat) : Nat) : Int), relF x⟩ : Fac)] := fun W2 _ hk => fac_of_row ((hk _ hb4 hr6.lt).trans hr6) (HFK.out W2 (own_same hown6 fun b hb hv => hk b (by have := (hown6.lt b hv).1; omega) hb))
  have HBw6 : Hid (Below w.heap.size w w6) := zh ((HB4.out.trans (HB5.out.mono HB4.out.size)).trans (he.below (by omega)))
  exact bodyPost_ret (ret_shape rfl _ _ (w.heap.size + 1 + 1) false (some ⟨w7.heap.size, 0, none⟩) 1 1 rfl r6) rfl (HQ.out _ _ ⟨some ⟨w7.heap.size, 0, none⟩, 1, [(⟨3, X, d, x.txt, ((pts (x.ws.length : Nat) : Nat) : Int), relF x⟩ : Fac)], rfl, hkeep, (fun h => by cases h), rfl, HBw6.out⟩)
 by_cases h5 : x.op = 5
 ·have hxo := h5; clear h5 h1 h2 h4
  have hkd : shF s x = [⟨4, none, 0, x.txt, ((pts (x.ws.length : Nat) : Nat) : Int), relF x⟩] := by unfold shF; rw [hxo]; rfl
  have hst : shT x.op = false := by unfold shT; rw [hxo]; rfl
  rw [hkd, hst] at HQ
  rw [hxo] at d0
  have HXO := zh hxo; clear hxo hkd hst
  have c0 := HR3.out.cell 0
  rw [show (fv ⟨0, X, d, x.txt, 0, zs⟩)[0]? = some (.int .i64 0) from rfl] at c0
  have f0 := HR3.out.free 0
  have r4 : RowAt (w3.setCell ⟨g, 0, none⟩ (.int .i64 4)) g 104 (fv (⟨4, X, d, x.txt, 0, zs⟩ : Fac)) := HR3.out.put 0 (.int .i64 4)
  have HB34 : Hid (Below g w3 (w3.setCell ⟨g, 0, none⟩ (.int .i64 4))) := zh ((zB _ _).setCell (p := ⟨g, 0, none⟩) (zL _) _)
  go_upto_region 13 with fail
  generalize w3.setCell ⟨g, 0, none⟩ (.int .i64 4) = w4 at *
  clear c0 f0 d0
  have HR4 := zh r4; clear r4
  have HB4a : Hid (Below w.heap.size w w4) := zh (HB3.out.trans (HB34.out.mono (by omega)))
  have HRL := zh (qrelated_any x w4 ((HXf.out _ HB4a.out).mono HB4a.out.size))
  have HRC4 := zh (HRC3.out.below HB34.out (by omega))
  have HRWr : Hid (RW (relF x)) := zh (relF_rw x)
  go_upto_region 23 with (first
   | (refine wpList_loadS (by rfl) _ _ rfl (w.heap.size + 1) rfl _ _ _ HRC4.out Tryz.underlying34 rfl HCI.out ?_)
   | (go_at_call 63; refine HRL.out.mono ?_; rintro e w5 ⟨rfl, hb5⟩; have HR5 := zh (HR4.out.below hb5 HR4.out.lt); have HB45 := zh hb5; clear hb5)
   | (refine wpList_store_mid rfl _ _ _ rfl g 2 (rv ((pts (x.ws.length : Nat) : Nat) : Int) (relF x)) rfl rfl (fac_there HR5.out HRWr.out) (rinfo _ HRWr.out) (rv_one _ _) ?_))
  have r4 := facPut RW.zs HR5.out ((pts (x.ws.length : Nat) : Nat) : Int) (relF x) HRWr.out
  have HB56 : Hid (Below g w5 (w5.setCells g 2 (rv ((pts (x.ws.length : Nat) : Nat) : Int) (relF x)).toList)) := zh (setCells_below (zL _) _ _)
  have hgs4 := HR4.out.lt
  generalize w5.setCells g 2 (rv ((pts (x.ws.length : Nat) : Nat) : Int) (relF x)).toList = w7 at *
  have HB34b : Hid (Below g w3 w7) := zh ((HB34.out.trans (HB45.out.mono (by omega))).trans HB56.out)
  clear HB34
  have HB34 := HB34b
  have HB4 : Hid (Below w.heap.size w w7) := zh (HB3.out.trans (HB34.out.mono (by omega)))
  have HFK := zh fun W hW => HFO.out 4 ((pts (x.ws.length : Nat) : Nat) : Int) (relF x) HRWr.out W hW
  have HFL := HRWr
  have HOW4 := zh (own_same HOW3.out fun b _ hv => HB34.out.block b (by have := (HOW2.out.lt b hv).2; omega))
  have HRW4 : Hid (RW ((⟨4, X, d, x.txt, ((pts (x.ws.length : Nat) : Nat) : Int), relF x⟩ : Fac)).l) := HFL
  have HZ4 := zh (HRZ3.out.below HB34.out (by omega))
  go_wp2_with (first
   | (refine wpList_loadFac (by rfl) _ rfl g rfl ((⟨4, X, d, x.txt, ((pts (x.ws.length : Nat) : Nat) : Int), relF x⟩ : Fac)) HRW4.out r4 ?_)
   | (refine wpList_oneF (by rfl) _ rfl ((⟨4, X, d, x.txt, ((pts (x.ws.length : Nat) : Nat) : Int), relF x⟩ : Fac)) HRW4.out rfl ?_; intro w5 r5 hb5; have HZ5 := zh (HZ4.out.below hb5 HZ4.out.lt); have R5 := zh r5; have HB5 := zh hb5; clear r5 hb5)
   | (refine wpList_storeShape (by rfl) _ _ rfl (w.heap.size + 1 + 1) rfl false (some ⟨w7.heap.size, 0, none⟩) 1 1 rfl _ zero_shape_size HZ5.out ?_; intro w6 r6 he))
  have hz4 := HZ4.out.lt
  have hown6 := own_other (own_below HOW4.out HB5.out (zL _)) he HTYS.out HZ5.out
  have hr6 := R5.out.other he (by omega)
  have hbw := HB.out.size
  have hb4 := HB4.out.size
  have hkeep : ShKeep w00 w w6 (some ⟨w7.heap.size, 0, none⟩) [(⟨4, X, d, x.txt, ((pts (x.ws.length : Nat) : Nat) : Int), relF x⟩ : Fac)] := fun W2 _ hk => fac_of_row ((hk _ hb4 hr6.lt).trans hr6) (HFK.out W2 (own_same hown6 fun b hb hv => hk b (by have := (hown6.lt b hv).1; omega) hb))
  have HBw6 : Hid (Below w.heap.size w w6) := zh ((HB4.out.trans (HB5.out.mono HB4.out.size)).trans (he.below (by omega)))
  exact bodyPost_ret (ret_shape rfl _ _ (w.heap.size + 1 + 1) false (some ⟨w7.heap.size, 0, none⟩) 1 1 rfl r6) rfl (HQ.out _ _ ⟨some ⟨w7.heap.size, 0, none⟩, 1, [(⟨4, X, d, x.txt, ((pts (x.ws.length : Nat) : Nat) : Int), relF x⟩ : Fac)], rfl, hkeep, (fun h => by cases h), rfl, HBw6.out⟩)
 by_cases h3 : x.op = 3
 ·have hkd : shF s x = flat (dshF s x.ws) := by unfold shF; rw [h3]; rfl
  have hst : shT x.op = true := by unfold shT; rw [h3]; rfl
  rw [hkd, hst] at HQ
  rw [h3] at d0
  have HSUM := zh (HSUM.out h3)
  have HXO := zh h3; clear h3 hkd hst h1 h2 h4 h5
  have hb6 : Below w3.heap.size w3 (w3.alloc (.cells (sv true none 0 0) 45)) := (zB _ _).alloc (zL _) _
  have ro := RowAt.new w3 45 (sv true none 0 0)
  have ho : (w3.alloc (.cells (sv true none 0 0) 45)).ownsRow w3.heap.size 104 67 (.slice none 0 0) 0 [] := World.ownsRow_nil _ _ _ _
  go_upto_region 16 with fail
  change Code.wp _ _ _ _ (w3.alloc (.cells (sv true none 0 0) 45))
  have hg6 := ro.lt
  generalize w3.alloc (.cells (sv true none 0 0) 45) = w6 at *
  have HRS6 := zh (HRS3.out.below hb6 (by omega))
  have HRC6 := zh (HRC3.out.below hb6 (by omega))
  have HRZ6 := zh (HRZ3.out.below hb6 (by omega))
  have HB6 : Hid (Below w.heap.size w w6) := zh (HB3.out.trans (hb6.mono (by omega)))
  generalize hgx : w3.heap.size = g6 at *
  have HSUMi : Hid (∀ i, i ≤ x.ws.length → (flat (dshK s x.ws i)).length ≤ 65536) := zh fun i hi => zM (dshK_mono s x.ws hi) HSUM.out
  have HALL : Hid (dshF s x.ws = dshK s x.ws x.ws.length) := zh rfl
  have HLL : Hid (s.lnms.length = s.ls.length) := zh (by simp [Sc.lnms])
  have hn16 : x.ws.length ≤ 65536 := by rw [← HTMn.out]; exact HTL.out
  clear hb6 HOW3 HFO HRC3 HRS3 HRZ3 HR3 HB3 HB3w HSUM d0 hgx
  generalize hn : x.ws.length = n at *
  have HN := zh hn; clear hn
  go_upto_region 17 with fail
  go_loopw [7, 8] (fun iv _ wr => ∃ (i : Nat) (Ar : Option Addr) (cr : Nat), i ≤ n ∧ iv = .int .i64 i ∧ Hid (RowAt wr g6 45 (sv true Ar (flat (dshK s x.ws i)).length cr)) ∧ Hid (wr.ownsRow g6 104 67 (.slice Ar (flat (dshK s x.ws i)).length cr) (flat (dshK s x.ws i)).length (fscells (flat (dshK s x.ws i)))) ∧ Hid (∀ f ∈ flat (dshK s x.ws i), ∀ W, ScOk W s → FacOk W f) ∧ Hid (Below g6 w6 wr)) (fun iv _ _ => n - (intOf iv).toNat)
  case atStart => exact ⟨0, none, 0, by omega, rfl, zh ro, zh ho, zh (fun f hf => by cases hf), zh (zB _ _)⟩
  case round =>
   clear ro ho
   obtain ⟨i, Ar, cr, hi, rfl, HRO, HO, HFA, HW⟩ := hrel
   have HWS : Hid (Below w.heap.size w wr) := zh (HB6.out.trans (HW.out.mono (by omega)))
   have hwz := HRO.out.lt
   have HRC := zh (HRC6.out.below HW.out (by omega))
   have HRS := zh (HRS6.out.below HW.out (by omega))
   have d4 := (cd_cells HRC.out).2.2.2.2.1
   rw [HN.out] at d4
   by_cases hlt : i < n
   ·obtain ⟨b, o, hA, hcw, _⟩ := word_at (HXf.out _ HWS.out) HWS.out.size (k := i) (by rw [HN.out]; exact hlt)
    have hbl := World.block_lt_of_cell? _ _ hcw
    rw [hA] at d4
    have CS : ∀ W, Below wr.heap.size wr W → RowAt W w.heap.size 25 (scv s) := fun W hW => HRS.out.below hW HRS.out.lt
    have C4 : ∀ W, Below wr.heap.size wr W → W.cell? ⟨w.heap.size + 1, 4, none⟩ = some (.slice (some ⟨b, o, none⟩) n x.c) := fun W hW => (hW.cell (p := ⟨w.heap.size + 1, 4, none⟩) HRC.out.lt).trans d4
    have CW : ∀ W, Below wr.heap.size wr W → W.cell? ⟨b, o + i * 2, none⟩ = some (.string (x.ws.getD i wd0).1) := fun W hW => (hW.cell (p := ⟨b, o + i * 2, none⟩) hbl).trans hcw
    have HTK : Hid (dshK s x.ws (i + 1) = dshK s x.ws i ++ dshI s (x.ws.getD i wd0).1) := zh (dshK_succ _ _ _)
    have HI1 : Hid (dshI s (x.ws.getD i wd0).1 = if 0 ≤ idx s.lnms (x.ws.getD i wd0).1 then [(s.ls.getD (idx s.lnms (x.ws.getD i wd0).1).toNat lat0).2] else []) := zh rfl
    have hgl1 := HSUMi.out (i + 1) (by omega)
    rw [HTK.out] at hgl1
    have hfl : flat (dshK s x.ws i ++ dshI s (x.ws.getD i wd0).1) = flat (dshK s x.ws i) ++ flat (dshI s (x.ws.getD i wd0).1) := by unfold flat; rw [List.flatMap_append]
    rw [hfl] at hgl1
    rw [← HTK.out] at hfl
    have HFL := zh hfl; clear hfl
    have hd4 := d4
    clear hcw d4 HTK
    generalize (x.ws.getD i wd0).1 = tt at *
    generalize hDK1 : dshK s x.ws (i + 1) = DK1 at *
    have HDK := zh hDK1; clear hDK1
    generalize dshK s x.ws i = DK at *
    have hin : (i : Int) < (n : Int) := by omega
    go_upto_region 19 with fail
    clear hd4
    have HSv0 : Hid (Below wr.heap.size wr wr.drew) := zh (zB _ _).drew
    refine wp_region_ou (fun W => Below wr.heap.size wr W) ((.take 0 (.take 1 (.take 2 (.take 3 (.take 4 (.take 5 (.take 6 (.solo 7 (.take 8 .nil)))))))))) (by kernel_rfl) (by kernel_rfl) rfl (by kernel_rfl) HSv0.out ?_
    generalize wr.drew = v0 at HSv0 ⊢
    iterate 7
     (refine wpOU_step (zO rfl) ?_)
     (first
      | (refine wpOU_skip (by rfl) ?_)
      | (refine wpOU_take (by rfl) (take_row _ _ rfl w.heap.size rfl _ _ _ CS Tryz.underlying25 rfl (by kernel_rfl)) ?_)
      | (refine wpOU_take (v := ?_) (by rfl) ?_ ?_; rotate_left 1; (intro wx hSx; have hc_0 := C4 wx hSx; have hc_1 := CW wx hSx; go_simp; try with_reducible rfl)))
     (try simp only [Act.put, zA4, zA5, zA6])
    (refine wpOU_solo (zO rfl) ?_)
    intro K hK
    go_simp
    go_at_call 61
    refine (refLat_any s tt v0 (HOKf.out _ (HWS.out.trans (HSv0.out.mono HWS.out.size)))).mono ?_
    rintro e v1 ⟨rfl, hb⟩
    have HSv1 : Hid (Below wr.heap.size wr v1) := zh (HSv0.out.trans (hb.mono HSv0.out.size))
    clear hb
    refine hK.out _ _ HSv1.out ?_
    clear hK K
    (try simp only [Act.put, zA4, zA5, zA6])
    iterate 1
     (refine wpOU_step (zO rfl) ?_)
     (first
      | (refine wpOU_skip (by rfl) ?_)
      | (refine wpOU_take (by rfl) (take_row _ _ rfl w.heap.size rfl _ _ _ CS Tryz.underlying25 rfl (by kernel_rfl)) ?_)
      | (refine wpOU_take (v := ?_) (by rfl) ?_ ?_; rotate_left 1; (intro wx hSx; have hc_0 := C4 wx hSx; have hc_1 := CW wx hSx; go_simp; try with_reducible rfl)))
     (try simp only [Act.put, zA4, zA5, zA6])
    refine wpOU_done ?_
    have HROv := zh (HRO.out.below HSv1.out HRO.out.lt)
    have HOv := zh (own_below HO.out HSv1.out (zL _))
    have HWv : Hid (Below g6 w6 v1) := zh (HW.out.trans (HSv1.out.mono (by omega)))
    have hv1 := HROv.out.lt
    clear CS C4 CW HRO HO
    by_cases hk0 : 0 ≤ idx s.lnms tt
    ·obtain ⟨k, hk, hkl⟩ := idx_mem hk0
     rw [HLL.out] at hkl
     have hi1 := HI1.out
     rw [if_pos hk0, hk, Int.toNat_natCast] at hi1
     rw [hi1] at hgl1 HFL
     clear HI1 hi1 hk0
     rw [hk] at *
     have HWSv : Hid (Below w.heap.size w v1) := zh (HB6.out.trans (HWv.out.mono (by omega)))
     have hok := HOKf.out _ HWSv.out
     obtain ⟨b2, o2, hLA, hb2l, hrg⟩ := hok.lats.at 3 (fun _ => rfl) (by omega) lat0 hkl
     have hrg2 := hrg k hkl
     obtain ⟨b3, o3, hLA3, hb3l, _⟩ := (HOKf.out w (zB _ _)).lats.at 3 (fun _ => rfl) (by omega) lat0 hkl
     have hb2w : b2 < w.heap.size := by
      rw [hLA] at hLA3
      injection hLA3 with e
      injection e with e1 _
      omega
     clear hLA3 hb3l
     have hsh := hok.sh _ (getD_mem' (d := lat0) hkl)
     have hmf : ∀ f ∈ (s.ls.getD k lat0).2.fs, ∀ W, ScOk W s → FacOk W f := fun f hf W hW => (hW.sh _ (getD_mem' (d := lat0) hkl)).facs.ok f hf
     have HMF := zh hmf; clear hmf
     have hcf := hrg2 2 _ rfl
     have hc0 := ((HRS6.out.below HWv.out (by omega)).cell 0).trans (show (scv s)[0]? = some (.slice s.LA s.ls.length s.lc) from rfl)
     rw [hLA] at hc0
     have hfe : flat [(s.ls.getD k lat0).2] = (s.ls.getD k lat0).2.fs := by simp [flat]
     rw [hfe] at hgl1 HFL
     have hnil : (s.ls.getD k lat0).2.A = none → (s.ls.getD k lat0).2.fs.length = 0 ∧ (s.ls.getD k lat0).2.c = 0 := fun hA0 => by
      refine ⟨?_, hsh.nil hA0⟩
      rcases Nat.eq_zero_or_pos (s.ls.getD k lat0).2.fs.length with e | e
      ·exact e
      ·obtain ⟨_, _, e2, _⟩ := hsh.facs.at e
       rw [hA0] at e2; cases e2
     have HNIL := zh hnil; clear hnil
     have HFC : Hid (Facs v1.drew (s.ls.getD k lat0).2.A (s.ls.getD k lat0).2.fs) := zh (hsh.facs.below (zB _ _).drew)
     clear hrg hrg2 hsh hfe hok
     generalize (s.ls.getD k lat0).2.fs = sfs at *
     generalize (s.ls.getD k lat0).2.A = sA at *
     generalize (s.ls.getD k lat0).2.c = sc at *
     generalize hln : s.ls.length = ln at *
     have CL : ∀ W, Below g6 v1 W → W.cell? ⟨w.heap.size, 0, none⟩ = some (.slice (some ⟨b2, o2, none⟩) ln s.lc) := fun W hW => (hW.cell (p := ⟨w.heap.size, 0, none⟩) (by show w.heap.size < g6; omega)).trans hc0
     have hb2g : b2 < g6 := by omega
     have CF : ∀ W, Below g6 v1 W → W.cell? ⟨b2, o2 + k * 3 + 2, none⟩ = some (.slice sA sfs.length sc) := fun W hW => (hW.cell (p := ⟨b2, o2 + k * 3 + 2, none⟩) hb2g).trans hcf
     have hkl2 : (k : Int) < (ln : Int) := by omega
     have HGL : Hid ((flat DK).length + sfs.length ≤ 65536) := zh (by rw [zA7] at hgl1; exact hgl1)
     have HRO1 : Hid (RowAt v1.drew g6 45 (sv true Ar (flat DK).length cr)) := HROv
     have HO1 : Hid (v1.drew.ownsRow g6 104 67 (.slice Ar (flat DK).length cr) (flat DK).length (fscells (flat DK))) := HOv
     have HSx0 : Hid (Below g6 v1 v1.drew) := zh (zB _ _).drew
     clear HROv HOv hc0 hcf hgl1
     go_upto_region 21 with fail
     refine wp_region_ou (fun W => Below g6 v1 W) ((.take 0 (.take 2 (.take 3 (.take 4 (.take 5 (.take 6 (.take 7 (.take 8 (.solo 1 (.solo 9 (.take 10 (.solo 11 .nil))))))))))))) (by kernel_rfl) (by kernel_rfl) rfl (by kernel_rfl) HSx0.out ?_
     generalize v1.drew = x0 at HRO1 HO1 HFC HSx0 ⊢
     iterate 8
      (refine wpOU_step (zO rfl) ?_)
      (first
            | (refine wpOU_skip (by rfl) ?_)
            | (refine wpOU_take (v := ?_) (by rfl) ?_ ?_; rotate_left 1; (intro wx hSx; have hc_0 := CL wx hSx; have hc_1 := CF wx hSx; go_simp; try with_reducible rfl)))
      (try simp only [Act.put, zA4, zA5, zA6])
     (refine wpOU_solo (zO rfl) ?_)
     intro K hK
     have cc := (HRO1.out.cell 1).trans (show (sv true Ar (flat DK).length cr)[1]? = some (.slice Ar (flat DK).length cr) from rfl)
     go_simp
     clear cc
     refine hK.out _ _ HSx0.out ?_
     clear hK K
     (try simp only [Act.put, zA4, zA5, zA6])
     (refine wpOU_solo (zO rfl) ?_)
     intro K hK
     rw [if_pos (by rfl)]
     refine wp_appendF _ _ rfl g6 Ar (flat DK).length cr (fscells (flat DK)) rfl HO1.out sA sfs.length sc (fscells sfs) rfl (fscells_length _ HFC.out.rw) HFC.out.sl (fun hn => HNIL.out hn) (fscells_one _) (by have := HGL.out; omega) (by have := HSx0.out.size; omega) ?_
     intro A5 c5 x1 hown5 hgr
     have hbel : Below g6 x0 x1 := (zB _ _).grown hgr (by have := HSx0.out.size; omega) (fun k hk => (HO1.out.lt k hk).1)
     have HSx1 : Hid (Below g6 v1 x1) := zh (HSx0.out.trans hbel)
     have HRO2 := zh (HRO1.out.grown hgr (own_ne2 HO1.out HRO1.out HTYF.out))
     have HO2 := zh hown5
     clear hown5 hgr hbel
     refine hK.out _ _ HSx1.out ?_
     clear hK K
     (try simp only [Act.put, zA4, zA5, zA6])
     iterate 1
      (refine wpOU_step (zO rfl) ?_)
      (first
            | (refine wpOU_skip (by rfl) ?_)
            | (refine wpOU_take (v := ?_) (by rfl) ?_ ?_; rotate_left 1; (intro wx hSx; have hc_0 := CL wx hSx; have hc_1 := CF wx hSx; go_simp; try with_reducible rfl)))
      (try simp only [Act.put, zA4, zA5, zA6])
     (refine wpOU_solo (zO rfl) ?_)
     intro K hK
     have m0 := (HRO2.out.cell 1).trans (show (sv true Ar (flat DK).length cr)[1]? = some (.slice Ar (flat DK).length cr) from rfl)
     have f0 := HRO2.out.free 1
     have HSx2 : Hid (Below g6 v1 (x1.setCell ⟨g6, 1, none⟩ (.slice A5 ((flat DK).length + sfs.length) c5))) := zh (HSx1.out.setCell (p := ⟨g6, 1, none⟩) (zL _) _)
     have HRO3 : Hid (RowAt (x1.setCell ⟨g6, 1, none⟩ (.slice A5 ((flat DK).length + sfs.length) c5)) g6 45 (sv true A5 ((flat DK).length + sfs.length) c5)) := zh (HRO2.out.put 1 (.slice A5 ((flat DK).length + sfs.length) c5))
     have HO3 : Hid ((x1.setCell ⟨g6, 1, none⟩ (.slice A5 ((flat DK).length + sfs.length) c5)).ownsRow g6 104 67 (.slice A5 ((flat DK).length + sfs.length) c5) ((flat DK).length + sfs.length) (fscells (flat DK) ++ fscells sfs)) := zh (ownS_far HO2.out HRO2.out HTYF.out _ _)
     go_simp
     refine hK.out _ _ HSx2.out ?_
     clear hK K m0 f0
     (try simp only [Act.put, zA4, zA5, zA6])
     generalize (x1.setCell ⟨g6, 1, none⟩ (.slice A5 ((flat DK).length + sfs.length) c5)) = x2 at *
     refine wpOU_done ?_
     go_wp2_with fail
     go_roundw
     case rel =>
      refine ⟨i + 1, by omega, by go_num, A5, c5, ?_, ?_, ?_, zh (HWv.out.trans HSx2.out)⟩
      ·show RowAt _ _ _ _
       rw [HDK.out, HFL.out, zA7]; exact HRO3.out
      ·show World.ownsRow _ _ _ _ _ _ _
       rw [HDK.out, HFL.out, zA7, fscells_append]; exact HO3.out
      ·show ∀ f ∈ flat (dshK s x.ws (i + 1)), ∀ W, ScOk W s → FacOk W f
       rw [HDK.out, HFL.out]
       intro f hf
       rcases List.mem_append.1 hf with h | h
       ·exact HFA.out f h
       ·exact HMF.out f h
     case measure => simp [intOf]; omega
    ·have hi1 := HI1.out
     rw [if_neg hk0] at hi1
     have hk1 : idx s.lnms tt < 0 := by omega
     rw [hi1] at HFL
     have hfe : flat ([] : List Shp) = [] := rfl
     rw [hfe, List.append_nil] at HFL
     clear HI1 hi1 hk0 hgl1
     generalize idx s.lnms tt = q at *
     go_wp2_with fail
     go_roundw
     case rel =>
      refine ⟨i + 1, by omega, by go_num, Ar, cr, ?_, ?_, ?_⟩
      ·show RowAt _ _ _ _
       rw [HDK.out, HFL.out]; exact HROv.out
      ·show World.ownsRow _ _ _ _ _ _ _
       rw [HDK.out, HFL.out]; exact HOv.out
      ·show ∀ f ∈ flat (dshK s x.ws (i + 1)), ∀ W, ScOk W s → FacOk W f
       rw [HDK.out, HFL.out]; exact HFA.out
     case measure => simp [intOf]; omega
   ·obtain rfl : i = n := by omega
    have hdf := HALL.out
    rw [hdf] at HQ
    have HRZ := zh (HRZ6.out.below HW.out (by omega))
    clear hdf
    generalize dshK s x.ws i = DK at *
    go_wp2_with (first
     | (refine wpList_loadShape (by rfl) _ rfl g6 rfl _ _ _ _ HRO.out ?_)
     | (refine wpList_storeShape (by rfl) _ _ rfl (w.heap.size + 1 + 1) rfl true Ar (flat DK).length cr rfl _ zero_shape_size HRZ.out ?_; intro w7 r7 he))
    have HBw7 : Hid (Below w.heap.size w w7) := zh (HWS.out.trans (he.below (by omega)))
    have ho7 := own_other HO.out he HTYF.out HRZ.out
    exact bodyPost_ret (ret_shape rfl _ _ (w.heap.size + 1 + 1) true Ar (flat DK).length cr rfl r7) rfl (HQ.out _ _ ⟨Ar, cr, flat DK, rfl, (fun W2 h2 hk => ⟨Sl.of_own (own_same ho7 fun b hb hv => hk b (by have := (ho7.lt b hv).1; have := HB.out.size; omega) hb), fun f hf => HFA.out f hf _ (HOK0.out _ h2)⟩), fun hn => (own_nil ho7 hn).2, rfl, HBw7.out⟩)
 ·have hkd : shF s x = [] := by unfold shF; rw [if_neg h1, if_neg h2, if_neg h3, if_neg h4, if_neg h5]
  have hst : shT x.op = false := by unfold shT; rw [zF h3]
  rw [hkd, hst] at HQ
  have n1 : (x.op == 1) = false := by simp [h1]
  have n2 : (x.op == 2) = false := by simp [h2]
  have n3 : (x.op == 3) = false := by simp [h3]
  have n4 : (x.op == 4) = false := by simp [h4]
  have n5 : (x.op == 5) = false := by simp [h5]
  clear h1 h2 h3 h4 h5 hkd hst
  generalize x.op = op at *
  go_wp2_with (refine wpList_storeShape (by rfl) _ _ rfl (w.heap.size + 1 + 1) rfl false none 0 0 rfl _ zero_shape_size HRZ3.out ?_; intro w6 r6 he)
  exact bodyPost_ret (ret_shape rfl _ _ (w.heap.size + 1 + 1) false none 0 0 rfl r6) rfl (HQ.out _ _ ⟨none, 0, [], rfl, (fun W2 _ _ => Facs.nil _ _), fun _ => rfl, rfl, HB3.out.trans (he.below (by omega))⟩)
end
end Go.Proofs.YtebnfmfpejnkcaaGreatDoor
