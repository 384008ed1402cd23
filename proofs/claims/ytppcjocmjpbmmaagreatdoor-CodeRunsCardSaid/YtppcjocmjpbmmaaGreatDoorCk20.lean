/- Texts that all the claims need. Conditions: those that each states. -/

import Derived.Test.YtppcjocmjpbmmaaGreatDoorCk19
set_option linter.unusedSimpArgs false
set_option linter.unusedVariables false
set_option maxRecDepth 100000
set_option maxHeartbeats 40000000
namespace Go.Proofs.YtppcjocmjpbmmaaGreatDoor
section
open Go.RowKit RM
section
variable {P : Program} {ops : Array Oper} {Q : Exit → Act → World → Prop} {S : World → Prop}
theorem wpOrd_st {i : Nat} {r : List (Nat × Bool)} {o : Oper} {a : Act} {w : World} (ho : ops[i]? = some o) (hw : Region.wanted o (yielded ops a.tmps) = true) (ty : TypeId) (x y : Operand) (hop : o.op = .store ty x y)
 (g : Nat) (cells : Array Value) (hx : a.eval x = .pointer (some ⟨g, 0, none⟩)) (hy : a.eval y = .agg cells) (t : TypeId) (old : Array Value) (hg : RowAt w g t old) (hi : (P.info? ty).map (·.size) = some cells.size)
 (hold : old.size = cells.size) (h1 : cells.all (·.oneCell') = true) (hS : S (w.setRow g cells)) (h : wpOrd P ops Q S r (a.put o.dst undef) (w.setRow g cells)) : wpOrd P ops Q S ((i, false) :: r) a w :=
 wpOrd_solo ho fun K' hK => by
  rw [if_pos hw]
  exact wp_store_row ty x y hop g cells hx hy t old hg hi hold h1 (hK.out _ _ hS h)
end
theorem kind_one (f : Fac) (hk : f.kind = 1) (hl : RW f.l) (w : World) :
 Calls Tryz.prog 109 #[.agg (fv f)] w fun e w' => e = .returned (.int .i64 2) ∧ Below w.heap.size w w' := by
 have HB : Hid (Below w.heap.size w (w.alloc (.cells (fv f) 44))) := (zB _ _).alloc (zL _) _
 obtain ⟨c0, c1, c2, _⟩ := fac_cells (RowAt.new w 44 (fv f))
 rw [hk] at c0
 clear c1 c2 hk
 go_enter Tryz.func109, Tryz.ntmps109
 go_wp2_with fail
 go_ret
 exact ⟨rfl, HB.out⟩
theorem index_hit (gf ge : Nat) (f : Fac) (s : ByteArray) (p : Int) (j : Nat) (W : World) (hn : f.names.length ≤ 4294967296) (hf : RowAt W gf 44 (fv f)) (hst : Strs W f.A f.names) (hj : idx f.names s = (j : Int)) :
 Calls Tryz.prog 110 #[.string s, .int .i64 p, .pointer (some ⟨gf, 0, none⟩), .pointer (some ⟨ge, 0, none⟩)] W fun e W' => e = .returned (.int .i64 (j : Int)) ∧ Below W.heap.size W W' := by
 have HF := zh (find_any f.A f.c f.names s W hn hst)
 rw [hj] at HF
 obtain ⟨_, c1, _, _⟩ := fac_cells hf
 have tk : decide ((j : Int) < 0) = false := zF (by omega)
 clear hst hf hj
 generalize f.names.length = nn at *
 go_enter Tryz.func110, Tryz.ntmps110
 go_wp2_with fail
 refine HF.out.mono ?_
 rintro e w1 ⟨rfl, hb⟩
 have HB := zh hb; clear hb
 go_wp2_with fail
 go_ret
 exact ⟨rfl, HB.out⟩
theorem ret2b {P : Program} {fn : Func} {q r : Tmp} {ty : TypeId} (h : fn.results = #[.tmp r, .cell q ty]) (tmps : Array Value) (w : World) (g : Nat) (t : TypeId) (cs : Array Value) (fr : Nat × Nat) (d : TypeDesc) (v : Value)
 (hp : tmps.getD q undef = .pointer (some ⟨g, 0, none⟩)) (hv : tmps.getD r undef = v) (hg : w.heap[g]? = some (.cells cs t fr))
 (hu : P.underlying ty = some d) (hd : (match d with | .struct _ | .array _ _ => true | _ => false) = true) (hi : (P.info? ty).map (·.size) = some cs.size) :
 (results fn tmps).run P w = .ok (.tuple #[v, .agg cs]) w := by
 have hp' : tmps[q]?.getD undef = .pointer (some ⟨g, 0, none⟩) := by simpa using hp
 have hv' : tmps[r]?.getD undef = v := by simpa using hv
 simp [results, h, hp', hv', asAddr, run_loadVar_row w g t ty cs fr d hg hu hd hi]
theorem ret2c {P : Program} {fn : Func} {q r : Tmp} {ty ty2 : TypeId} (h : fn.results = #[.cell q ty, .cell r ty2]) (tmps : Array Value) (w : World) (g g2 : Nat) (t t2 : TypeId) (cs ds : Array Value) (fr fr2 : Nat × Nat) (d d2 : TypeDesc)
 (hp : tmps.getD q undef = .pointer (some ⟨g, 0, none⟩)) (hp2 : tmps.getD r undef = .pointer (some ⟨g2, 0, none⟩)) (hg : w.heap[g]? = some (.cells cs t fr)) (hg2 : w.heap[g2]? = some (.cells ds t2 fr2))
 (hu : P.underlying ty = some d) (hd : (match d with | .struct _ | .array _ _ => true | _ => false) = true) (hi : (P.info? ty).map (·.size) = some cs.size)
 (hu2 : P.underlying ty2 = some d2) (hd2 : (match d2 with | .struct _ | .array _ _ => true | _ => false) = true) (hi2 : (P.info? ty2).map (·.size) = some ds.size) :
 (results fn tmps).run P w = .ok (.tuple #[.agg cs, .agg ds]) w := by
 have hp' : tmps[q]?.getD undef = .pointer (some ⟨g, 0, none⟩) := by simpa using hp
 have hv' : tmps[r]?.getD undef = .pointer (some ⟨g2, 0, none⟩) := by simpa using hp2
 simp [results, h, hp', hv', asAddr, run_loadVar_row w g t ty cs fr d hg hu hd hi, run_loadVar_row w g2 t2 ty2 ds fr2 d2 hg2 hu2 hd2 hi2]
def f00 : Array Value := #[.int .i64 0, .int .i64 0]
theorem word_chain (f : Fac) (hk : f.kind = 1) (s : ByteArray) (j : Nat) (hj : idx f.names s = (j : Int)) (hn : f.names.length ≤ 64) (w : World) (hf : FacOk w f) :
 Calls Tryz.prog 95 #[.agg (fv f), .agg (ntC (leafN 2 s)).toArray] w fun e w' => e = .returned (.tuple #[.int .u64 (RG.wR f.names.length j : Int), .agg f00]) ∧ Below w.heap.size w w' := by
 obtain ⟨rf, rn, rr, hb⟩ := three_rows w (fv f) (ntC (leafN 2 s)).toArray f00 44 56 113
 refine cHid fun Q' hQ => ?_
 have HQ := zh hQ; clear hQ
 go_enter Tryz.func95, Tryz.ntmps95
 go_upto_region 1 with fail
 change Code.wp _ _ _ _ (((w.alloc (.cells (fv f) 44)).alloc (.cells (ntC (leafN 2 s)).toArray 56)).alloc (.cells f00 113))
 generalize ((w.alloc (.cells (fv f) 44)).alloc (.cells (ntC (leafN 2 s)).toArray 56)).alloc (.cells f00 113) = wb at *
 have HB := zh hb
 have HSB := zh hb.size
 have HRF := zh rf
 have HRN := zh rn
 have HRR := zh rr
 have hl := hf.rows
 have HKD := zh fun W => kind_one f hk hl W
 have HST : Hid (∀ W, Below wb.heap.size wb W → Strs W f.A f.names) := zh fun W hW => (hf.strs.below hb).below hW
 have HKI := zh hk
 have HJ := zh hj
 have C0 : ∀ W, Below wb.heap.size wb W → W.cell? ⟨w.heap.size + 1, 0, none⟩ = some (.int .i64 2) := fun W hW => (nt_row (HRN.out.below hW HRN.out.lt)).1
 have C1 : ∀ W, Below wb.heap.size wb W → W.cell? ⟨w.heap.size + 1, 1, none⟩ = some (.int .i64 0) := fun W hW => (nt_row (HRN.out.below hW HRN.out.lt)).2.1
 have C2 : ∀ W, Below wb.heap.size wb W → W.cell? ⟨w.heap.size + 1, 2, none⟩ = some (.string s) := fun W hW => (nt_row (HRN.out.below hW HRN.out.lt)).2.2.1
 have CF : ∀ W, Below wb.heap.size wb W → RowAt W w.heap.size 44 (fv f) := fun W hW => HRF.out.below hW HRF.out.lt
 have CF0 : ∀ W, Below wb.heap.size wb W → W.cell? ⟨w.heap.size, 0, none⟩ = some (.int .i64 1) := fun W hW => by
  have := (fac_cells (CF W hW)).1
  rw [hk] at this; exact this
 have CF1 : ∀ W, Below wb.heap.size wb W → W.cell? ⟨w.heap.size, 1, none⟩ = some (.slice f.A f.names.length f.c) := fun W hW => (fac_cells (CF W hW)).2.1
 have HBW := zh hb
 clear hf hb rf rn rr hk hj
 have HSv0 : Hid (Below wb.heap.size wb wb.drew) := zh (zB _ _).drew
 refine wp_region_ou (fun V => Below wb.heap.size wb V) ((.take 0 (.take 1 (.take 2 (.solo 3 (.take 4 .nil)))))) (by kernel_rfl) (by kernel_rfl) rfl (by kernel_rfl) HSv0.out ?_
 generalize hwd : wb.drew = v0 at HSv0 ⊢
 clear hwd
 iterate 3
  (refine wpOU_step (zO rfl) ?_)
  (first
        | (refine wpOU_skip (by rfl) ?_)
        | (refine wpOU_take (by rfl) (take_loadFac _ rfl _ rfl f hl CF) ?_)
        | (refine wpOU_take (v := ?_) (by rfl) ?_ ?_; rotate_left 1; (intro wx hSx; have hc_0 := C0 wx hSx; go_simp; try with_reducible rfl)))
  (try simp only [Act.put, zA4, zA5, zA6])
 (refine wpOU_solo (zO rfl) ?_)
 intro K hK
 go_simp
 go_at_call 109
 refine (HKD.out v0).mono ?_
 rintro e v1 ⟨rfl, hb⟩
 have HSv1 : Hid (Below wb.heap.size wb v1) := zh (HSv0.out.trans (hb.mono HSv0.out.size))
 clear hb
 refine hK.out _ _ HSv1.out ?_
 clear hK K
 (try simp only [Act.put, zA4, zA5, zA6])
 iterate 1
  (refine wpOU_step (zO rfl) ?_)
  (first
        | (refine wpOU_skip (by rfl) ?_)
        | (refine wpOU_take (by rfl) (take_loadFac _ rfl _ rfl f hl CF) ?_)
        | (refine wpOU_take (v := ?_) (by rfl) ?_ ?_; rotate_left 1; (intro wx hSx; have hc_0 := C0 wx hSx; go_simp; try with_reducible rfl)))
  (try simp only [Act.put, zA4, zA5, zA6])
 refine wpOU_done ?_
 have c0f := CF0 v1 HSv1.out
 have HSZ1 := zh HSv1.out.size
 have hba : Below v1.heap.size v1 ((v1.alloc (.cells #[.int .i64 0, .int .i64 0] 113)).alloc (.cells #[(.func (.func 110) #[] #[.pointer (some ⟨w.heap.size, 0, none⟩), .pointer (some ⟨v1.heap.size, 0, none⟩)])] 168)) := ((zB _ _).alloc (zL _) _).alloc (by simp) _
 have hra : RowAt ((v1.alloc (.cells #[.int .i64 0, .int .i64 0] 113)).alloc (.cells #[(.func (.func 110) #[] #[.pointer (some ⟨w.heap.size, 0, none⟩), .pointer (some ⟨v1.heap.size, 0, none⟩)])] 168)) v1.heap.size 113 f00 := (RowAt.new v1 113 f00).alloc _
 have hi0 := Box.new (v1.alloc (.cells #[.int .i64 0, .int .i64 0] 113)) 168 (.func (.func 110) #[] #[.pointer (some ⟨w.heap.size, 0, none⟩), .pointer (some ⟨v1.heap.size, 0, none⟩)])
 rw [show (v1.alloc (.cells #[.int .i64 0, .int .i64 0] 113)).heap.size = v1.heap.size + 1 by simp] at hi0
 have HBA := zh hba
 have HRA := zh hra
 have HI := zh hi0
 have HSZ2 := zh hi0.lt
 clear hba hra hi0
 have hsf : ∀ (a : Addr) (fn : Fn) (fi ca : Array Value) (m : Mode) (W : World), (store a (.func fn fi ca) m).run Tryz.prog W = stored Tryz.prog W a (.func fn fi ca) m := fun _ _ _ _ _ _ => run_store _ _ _ _ _ rfl
 go_upto_region 6 with fail
 clear hsf c0f
 generalize ((v1.alloc (.cells #[.int .i64 0, .int .i64 0] 113)).alloc (.cells #[(.func (.func 110) #[] #[.pointer (some ⟨w.heap.size, 0, none⟩), .pointer (some ⟨v1.heap.size, 0, none⟩)])] 168)) = v2 at *
 obtain ⟨ge, hge⟩ : ∃ z, z = v1.heap.size := ⟨_, rfl⟩
 rw [← hge] at HRA HI HSZ2 ⊢
 have HGE : Hid (wb.heap.size ≤ ge) := zh (by rw [hge]; exact HSZ1.out)
 have HSv2 : Hid (Below wb.heap.size wb v2) := zh (HSv1.out.trans (HBA.out.mono HSZ1.out))
 clear HBA hge
 have HLT : Hid (w.heap.size + 2 < wb.heap.size) := zh HRR.out.lt
 have c0f := CF0 v2 HSv2.out
 go_upto_region 9 with fail
 clear c0f
 have HFN : Hid (∀ W, Below wb.heap.size wb W → W.cell? ⟨w.heap.size, 1, none⟩ = some (.slice f.A f.names.length f.c)) := zh CF1
 have HIX : Hid (∀ p W, Below v2.heap.size v2 W → Calls Tryz.prog 110 #[.string s, .int .i64 p, .pointer (some ⟨w.heap.size, 0, none⟩), .pointer (some ⟨ge, 0, none⟩)] W fun e W' => e = .returned (.int .i64 (j : Int)) ∧ Below W.heap.size W W') := zh fun p W hW => by
  have hw := HSv2.out.trans (hW.mono HSv2.out.size)
  exact index_hit w.heap.size ge f s p j W (by omega) (CF W hw) (HST.out W hw) HJ.out
 have K0 : ∀ W, Below v2.heap.size v2 W → W.cell? ⟨w.heap.size, 1, none⟩ = some (.slice f.A f.names.length f.c) := fun W hW => CF1 W (HSv2.out.trans (hW.mono HSv2.out.size))
 have K1 : ∀ W, Below v2.heap.size v2 W → W.cell? ⟨w.heap.size + 1, 1, none⟩ = some (.int .i64 0) := fun W hW => C1 W (HSv2.out.trans (hW.mono HSv2.out.size))
 have K2 : ∀ W, Below v2.heap.size v2 W → W.cell? ⟨w.heap.size + 1, 2, none⟩ = some (.string s) := fun W hW => C2 W (HSv2.out.trans (hW.mono HSv2.out.size))
 have K3 : ∀ W, Below v2.heap.size v2 W → W.cell? ⟨ge + 1, 0, none⟩ = some (.func (.func 110) #[] #[.pointer (some ⟨w.heap.size, 0, none⟩), .pointer (some ⟨ge, 0, none⟩)]) := fun W hW => Box.cell (t := 168) ((hW.block (ge + 1) HSZ2.out).trans HI.out)
 have HCF := zh CF
 clear C0 C1 C2 CF CF0 CF1
 have hn64 : f.names.length ≤ 64 := hn
 have HRWI : Hid (∀ W, Calls Tryz.prog 113 #[.int .i64 (f.names.length : Int), .int .i64 (j : Int)] W fun e w' => e = .returned (.tuple #[.int .u64 (RG.wR f.names.length j : Int), .bool (RG.okR f.names.length j)]) ∧ W = w') := zh fun W => rungWord_any (f.names.length : Int) (j : Int) W
 generalize RG.wR (f.names.length : Int) (j : Int) = a9 at *
 generalize RG.okR (f.names.length : Int) (j : Int) = ok9 at *
 generalize f.names.length = nn at *
 have HTv3 : Hid (Below v2.heap.size v2 v2.drew) := zh (zB _ _).drew
 refine wp_region_ou (fun V => Below v2.heap.size v2 V) ((.take 0 (.take 1 (.take 2 (.take 3 (.take 4 (.take 5 (.take 6 (.take 7 (.solo 8 (.solo 9 (.take 10 (.take 11 (.take 12 (.take 13 .nil))))))))))))))) (by kernel_rfl) (by kernel_rfl) rfl (by kernel_rfl) HTv3.out ?_
 generalize hwd : v2.drew = v3 at HTv3 ⊢
 clear hwd
 iterate 8
  (refine wpOU_step (zO rfl) ?_)
  (first
        | (refine wpOU_skip (by rfl) ?_)
        | (refine wpOU_take (v := ?_) (by rfl) ?_ ?_; rotate_left 1; (intro wx hSx; have hc_0 := K0 wx hSx; have hc_1 := K1 wx hSx; have hc_2 := K2 wx hSx; have hc_3 := K3 wx hSx; go_simp; try with_reducible rfl)))
  (try simp only [Act.put, zA4, zA5, zA6])
 (refine wpOU_solo (zO rfl) ?_)
 intro K hK
 go_simp
 refine (HIX.out _ v3 HTv3.out).mono ?_
 rintro e v4 ⟨rfl, hb⟩
 have HTv4 : Hid (Below v2.heap.size v2 v4) := zh (HTv3.out.trans (hb.mono HTv3.out.size))
 clear hb
 refine hK.out _ _ HTv4.out ?_
 clear hK K
 (try simp only [Act.put, zA4, zA5, zA6])
 (refine wpOU_solo (zO rfl) ?_)
 intro K hK
 go_simp
 go_at_call 113
 refine (HRWI.out v4).mono ?_
 rintro e w' ⟨rfl, rfl⟩
 refine hK.out _ _ HTv4.out ?_
 clear hK K
 (try simp only [Act.put, zA4, zA5, zA6])
 iterate 4
  (refine wpOU_step (zO rfl) ?_)
  (first
        | (refine wpOU_skip (by rfl) ?_)
        | (refine wpOU_take (v := ?_) (by rfl) ?_ ?_; rotate_left 1; (intro wx hSx; have hc_0 := K0 wx hSx; have hc_1 := K1 wx hSx; have hc_2 := K2 wx hSx; have hc_3 := K3 wx hSx; go_simp; try with_reducible rfl)))
  (try simp only [Act.put, zA4, zA5, zA6])
 refine wpOU_done ?_
 have HS4 : Hid (Below wb.heap.size wb v4) := zh (HSv2.out.trans (HTv4.out.mono HSv2.out.size))
 have HRE : Hid (RowAt v4 ge 113 f00) := zh (HRA.out.below HTv4.out HRA.out.lt)
 have HRR4 : Hid (RowAt v4 (w.heap.size + 2) 113 f00) := zh (HRR.out.below HS4.out HRR.out.lt)
 go_upto_region 21 with fail
 have hr0 := HRR4.out.drew
 have hs0 : RowAt v4.drew ge 113 f00 := HRE.out.drew
 have hb0 : Below wb.heap.size wb v4.drew := HS4.out.drew
 have D0 : ∀ W, RowAt W ge 113 f00 → W.cell? ⟨ge, 0, none⟩ = some (.int .i64 0) := fun W h => (RowAt.cell h 0).trans rfl
 have D1 : ∀ W, RowAt W ge 113 f00 → W.cell? ⟨ge, 1, none⟩ = some (.int .i64 0) := fun W h => (RowAt.cell h 1).trans rfl
 refine wp_region_ord (fun W => RowAt W ge 113 f00) [(0, true), (1, true), (2, true), (3, false)] (by kernel_rfl) (by kernel_rfl) rfl (by kernel_rfl) hs0 ?_
 generalize v4.drew = v5 at hs0 hr0 hb0 ⊢
 iterate 3
  (refine wpOrd_step (zO rfl) ?_)
  (first
        | (refine wpOrd_skip (by rfl) ?_)
        | (refine wpOrd_take (v := ?_) (by rfl) ?_ ?_; rotate_left 1; (intro wx hSx; have hc_0 := D0 wx hSx; have hc_1 := D1 wx hSx; go_simp; try with_reducible rfl)))
  (try simp only [Act.put, zA4, zA5, zA6])
 have hs1 : RowAt (v5.setRow (w.heap.size + 2) f00) ge 113 f00 := hs0.other (Else.setRow _ _ _) (by have := HLT.out; have := HGE.out; omega)
 refine wpOrd_st (o := ?_) ?ho1_1 ?hw1_1 113 ?ox1_1 ?oy1_1 ?hop1_1 (w.heap.size + 2) f00 ?hx1_1 ?hy1_1 113 #[.int .i64 0, .int .i64 0] hr0 (by with_unfolding_all rfl) ?hold1_1 (by simp [f00, Value.oneCell']) hs1 ?hh1_1
 case ho1_1 => (simp only [zA1, zA2, zA3]; with_reducible rfl)
 case hw1_1 => rfl
 case hop1_1 => rfl
 case hx1_1 => rfl
 case hy1_1 => rfl
 case hold1_1 => rfl
 (try simp only [Act.put, zA4, zA5, zA6])
 refine wpOrd_done ?_
 go_wp2_with fail
 have hb9 : Below w.heap.size w (v5.setRow (w.heap.size + 2) f00) := (HBW.out.trans (hb0.mono HBW.out.size)).trans ((Else.setRow _ _ _).below (by omega))
 exact bodyPost_ret (ret2b rfl _ _ (w.heap.size + 2) _ f00 (0, 0) _ (.int .u64 (a9 : Int)) rfl rfl (hr0.setRow f00) Tryz.underlying113 rfl (by with_unfolding_all rfl)) rfl (HQ.out _ _ ⟨rfl, hb9⟩)
end
section
open Go.RowKit RM
theorem infoNode2 : (Tryz.prog.info? 56).map (fun i => (i.zero.isSome, i.size)) = some (true, 5) := by kernel_rfl
theorem wp_oneN {o : Oper} {a : Act} {w : World} {K : Act → World → Prop} {Q : Exit → Act → World → Prop} (x : Operand) (ho : o.op = .buildSlice 54 1 #[(0, x)])
 (y : Nt) (hx : a.eval x = .agg (ntC y).toArray)
 (h : K (a.put o.dst (.slice (some ⟨w.heap.size, 0, none⟩) 1 1)) (w.alloc (.cells (ntC y).toArray 56))) : o.wp Tryz.prog a w K Q := by
 cases hi : Tryz.prog.info? 56 with
 | none => have h0 := infoNode2; rw [hi] at h0; cases h0
 | some i =>
   have h2 := infoNode2
   rw [hi] at h2
   simp only [Option.map_some, Option.some.injEq, Prod.mk.injEq] at h2
   obtain ⟨z, hz⟩ := Option.isSome_iff_exists.1 h2.1
   have hs := h2.2
   refine wp_buildSlice 54 56 1 _ ho (ntC y).toArray i z Tryz.underlying54 hi hz (by rw [hs]; decide) (by rw [hs]; decide) ?_ h
   rw [show (#[(0, x)].map fun (p : Nat × Operand) => (p.1, a.eval p.2)).toList = ([Value.agg (ntC y).toArray].zipIdx 0).map fun x => (x.2, x.1) by simp [hx], hs]
   have := Great.fill_whole (s := 5) (by decide) [Value.agg (ntC y).toArray] ((Array.range (1 * 5)).map (z.cells[· % z.cells.size]!)) (by
    intro v hv
    rw [List.mem_singleton] at hv
    subst hv
    rfl) (by simp)
   rw [this]
   simp [Value.cells]
theorem wpList_oneN {ops : Array Oper} {rest : List Oper} {o : Oper} {a : Act} {w : World} {Q : Exit → Act → World → Prop} (hgd : o.guard = none) (x : Operand) (ho : o.op = .buildSlice 54 1 #[(0, x)])
 (y : Nt) (hx : a.eval x = .agg (ntC y).toArray)
 (h : ∀ w', RowAt w' w.heap.size 56 (ntC y).toArray → Below w.heap.size w w' → wpList Tryz.prog ops Q rest (a.put o.dst (.slice (some ⟨w.heap.size, 0, none⟩) 1 1)) w') : wpList Tryz.prog ops Q (o :: rest) a w :=
 wpList_plain hgd fun _ hK => wp_oneN x ho y hx (hK _ _ (h _ (RowAt.new _ _ _) ((zB _ _).alloc (zL _) _)))
theorem right_one {f : Fac} (hv : facB f = true) : rightS false [f] = true := by
 unfold rightS
 simp [hv]
end
section
open Go.RowKit RM
section
variable {P : Program} {ops : Array Oper} {Q : Exit → Act → World → Prop} {S : World → Prop}
theorem wpOU_st {i : Nat} {r : OU} {o : Oper} {a : Act} {w : World} (ho : ops[i]? = some o) (hw : Region.wanted o (yielded ops a.tmps) = true) (ty : TypeId) (x y : Operand) (hop : o.op = .store ty x y)
 (g : Nat) (cells : Array Value) (hx : a.eval x = .pointer (some ⟨g, 0, none⟩)) (hy : a.eval y = .agg cells) (t : TypeId) (old : Array Value) (hg : RowAt w g t old) (hi : (P.info? ty).map (·.size) = some cells.size)
 (hold : old.size = cells.size) (h1 : cells.all (·.oneCell') = true) (hS : S (w.setRow g cells)) (h : wpOU P ops Q S r (a.put o.dst undef) (w.setRow g cells)) : wpOU P ops Q S (.solo i r) a w :=
 wpOU_solo ho fun K' hK => by
  rw [if_pos hw]
  exact wp_store_row ty x y hop g cells hx hy t old hg hi hold h1 (hK.out _ _ hS h)
end
theorem rvinfo {e : List Nat} (h : EW e) : (Tryz.prog.info? 30).map (·.size) = some (uv e).size := by rw [ev_size h]; kernel_rfl
theorem wpList_ldWords {ops : Array Oper} {rest : List Oper} {o : Oper} {a : Act} {w : World} {Q : Exit → Act → World → Prop} (hgd : Region.wanted o (yielded ops a.tmps) = true) (x : Operand) (ho : o.op = .load 30 x) (g : Nat) (hx : a.eval x = .pointer (some ⟨g, 0, none⟩))
 (e : List Nat) (hl : EW e) (hg : RowAt w g 30 (uv e)) (h : wpList Tryz.prog ops Q rest (a.put o.dst (.agg (uv e))) w) : wpList Tryz.prog ops Q (o :: rest) a w :=
 wpList_wanted hgd fun _ hK => wp_load_row _ x ho g hx _ _ (0, 0) _ hg Tryz.underlying30 rfl (rvinfo hl) (hK _ _ h)
theorem ew_one {a : Nat} (h : a < 18446744073709551616) : EW (a :: List.replicate 7 0) := ⟨rfl, fun x hx => by
 rcases List.mem_cons.1 hx with rfl | hx
 ·exact h
 ·rw [List.eq_of_mem_replicate hx]; decide⟩
theorem row2z {w : World} {g : Nat} {t : TypeId} {a b : Value} (h : RowAt w g t #[a, b]) : w.cell? ⟨g, 0, none⟩ = some a ∧ w.cell? ⟨g, 1, none⟩ = some b ∧ w.frozen? ⟨g, 0, none⟩ = false ∧ w.frozen? ⟨g, 1, none⟩ = false := ⟨h.cell 0, h.cell 1, h.free 0, h.free 1⟩
end
section
open Go.RowKit RM
def scOne (LA : Option Addr) (lc : Nat) (nm : ByteArray) (sh : Shp) (VA : Option Addr) (vc : Nat) (x : ByteArray) : Sc := ⟨LA, lc, [(nm, sh)], VA, vc, [(x, 1, 0)]⟩
theorem one_idx (x : ByteArray) : idx [x] x = 0 := by
 show NM.fst _ _ = _
 simp [NM.fst]
theorem pushing_var (LA : Option Addr) (lc : Nat) (nm : ByteArray) (sh : Shp) (VA : Option Addr) (vc : Nat) (x : ByteArray) (w : World) (hS : ScOk w (scOne LA lc nm sh VA vc x)) :
 Calls Tryz.prog 37 #[.agg (scv (scOne LA lc nm sh VA vc x)), .int .i64 0, .agg (ntC (leafN 1 x)).toArray] w fun e w' => e = .returned (.tuple #[.agg (insC ⟨1, 0, ⟨List.replicate 8 0, EW.zeros⟩⟩).toArray, .bool true]) ∧ Below w.heap.size w w' := by
 obtain ⟨r0, r1, r2, hb⟩ := three_rows w (scv (scOne LA lc nm sh VA vc x)) (ntC (leafN 1 x)).toArray (insC in0).toArray 52 56 60
 have HFI := zh fun W (hW : Below w.heap.size w W) => scFind_any (scOne LA lc nm sh VA vc x) x W (hS.below hW)
 have hi1 : idx (scOne LA lc nm sh VA vc x).vnms x = 0 := one_idx x
 rw [hi1] at HFI
 obtain ⟨b, o, hVA, _, _⟩ := hS.vars.at 3 (fun _ => rfl) (by decide) var0 (i := 0) (by simp [scOne])
 have hVA2 : VA = some ⟨b, o, none⟩ := hVA
 subst hVA2
 have HVC : Hid (∀ W, Below w.heap.size w W → W.rangeAt b o (varC (x, 1, 0))) := fun W h => by
  obtain ⟨b2, o2, e, _, hr⟩ := ((hS.below h).vars).at 3 (fun _ => rfl) (by decide) var0 (i := 0) (by simp [scOne])
  have e2 : (some ⟨b, o, none⟩ : Option Addr) = some ⟨b2, o2, none⟩ := e
  cases e2
  simpa [scOne] using hr 0 (by simp [scOne])
 clear hS hi1 hVA
 refine cHid fun Q' hQ => ?_
 have HQ := zh hQ; clear hQ
 go_enter Tryz.func37, Tryz.ntmps37
 go_upto_region 1 with fail
 change Code.wp _ _ _ _ (((w.alloc (.cells (scv (scOne LA lc nm sh (some ⟨b, o, none⟩) vc x)) 52)).alloc (.cells (ntC (leafN 1 x)).toArray 56)).alloc (.cells (insC in0).toArray 60))
 generalize ((w.alloc (.cells (scv (scOne LA lc nm sh (some ⟨b, o, none⟩) vc x)) 52)).alloc (.cells (ntC (leafN 1 x)).toArray 56)).alloc (.cells (insC in0).toArray 60) = w1 at *
 have HB1 := zh hb
 have HR0 := zh r0
 have HR1 := zh r1
 have HR2 := zh r2
 have HLT := zh r2.lt
 obtain ⟨n0, n1, n2, n3, n4⟩ := nt_row r1
 obtain ⟨s0, s1, _, _⟩ := rw2 (show RowAt w1 w.heap.size 52 #[.slice LA 1 lc, .slice (some ⟨b, o, none⟩) 1 vc] from r0)
 clear hb r0 r1 r2
 go_upto_region 3 with (go_at_call 62; refine (HFI.out w1 HB1.out).mono ?_; rintro e w2 ⟨rfl, hb2⟩; have HB2 := zh hb2; clear hb2)
 clear n0 n1 n2 n3 n4 s0 s1
 have HB02 := zh (HB1.out.trans (HB2.out.mono HB1.out.size))
 obtain ⟨s0, s1, _, _⟩ := rw2 (show RowAt w2 w.heap.size 52 #[.slice LA 1 lc, .slice (some ⟨b, o, none⟩) 1 vc] from HR0.out.below HB2.out HR0.out.lt)
 have hv := HVC.out w2 HB02.out
 have v1 : w2.cell? ⟨b, o + 1, none⟩ = some (.int .i64 1) := hv 1 _ rfl
 have v2 : w2.cell? ⟨b, o + 2, none⟩ = some (.int .i64 0) := hv 2 _ rfl
 clear hv
 have HR22 := zh (HR2.out.below HB2.out HR2.out.lt)
 go_upto_region 4 with fail
 clear s0 s1 v1 v2
 go_wp2_with (refine wpList_stRow (by rfl) _ _ _ rfl (w.heap.size + 2) (insC ⟨1, 0, ⟨List.replicate 8 0, EW.zeros⟩⟩).toArray rfl (by with_unfolding_all rfl) _ _ HR22.out (infoIns _) rfl (insC_one _) ?_; intro w3 r3 he; have HR3 := zh r3; have HB3 : Hid (Below w.heap.size w w3) := zh (HB02.out.trans (he.below (by omega))); clear he r3)
 exact bodyPost_ret (ret2 rfl _ _ (w.heap.size + 2) _ _ (0, 0) _ (.bool true) rfl rfl HR3.out Tryz.underlying60 rfl (infoIns _)) rfl (HQ.out _ _ ⟨rfl, HB3.out⟩)
end
section
open Go.RowKit RM
theorem rows_ne {w : World} {g h : Nat} {t u : TypeId} {cs ds : Array Value} (a : RowAt w g t cs) (b : RowAt w h u ds) (hs : cs.size ≠ ds.size) : g ≠ h := by
 rintro rfl
 have e : some (Obj.cells cs t (0, 0)) = some (Obj.cells ds u (0, 0)) := Eq.trans (Eq.symm a) b
 injection e with e
 injection e with e1 e2 e3
 exact hs (by rw [e1])
end
section
open Go.RowKit Go.Maps
def insZ : Value := .agg (insC in0).toArray
open Classical in
noncomputable def RI (v : Value) : Option (DataW Unit × List MemPlace) := if v = insZ then some (.lit (.bool false), []) else some (.lit (.bool true), [])
theorem RI_zero : RI insZ = some (.lit (.bool false), []) := if_pos rfl
theorem RI_inv {v : Value} {ps : List MemPlace} (h : RI v = some (.lit (.bool false), ps)) : v = insZ := by
 unfold RI at h
 split at h
 ·assumption
 ·simp at h
theorem RI_some (v : Value) : ∃ d, RI v = some (d, []) := by
 unfold RI
 split
 ·exact ⟨_, rfl⟩
 ·exact ⟨_, rfl⟩
def IMap (W : World) (B n : Nat) (xs : List ByteArray) : Prop :=
 ∃ D : DataW Unit, W.ownsMap Tryz.prog 9 RI B n D ∧ IsMap D ∧ ∀ s : ByteArray, s.size ≤ maxLen → s ∉ xs → Maps.has D (.string s.data.toList) = false ∧ D.atKey (.string s.data.toList) (.lit (.bool false)) = .lit (.bool false)
section
variable {W W' : World} {B n : Nat} {xs : List ByteArray}
theorem IMap.kept {row : Option Nat} (h : IMap W B n xs) (hg : W.grownBy W' row) (hne : some B ≠ row) : IMap W' B n xs := by
 obtain ⟨D, h1, h2, h3⟩ := h
 exact ⟨D, h1.kept hg hne, h2, h3⟩
theorem IMap.same (h : IMap W B n xs) (hb : W'.heap[B]? = W.heap[B]?) : IMap W' B n xs := by
 obtain ⟨D, ⟨es, clock, h1, F, hs, hD⟩, h2, h3⟩ := h
 exact ⟨D, ⟨es, clock, hb.trans h1, F, hs, hD⟩, h2, h3⟩
theorem IMap.lt (h : IMap W B n xs) : B < W.heap.size := by
 obtain ⟨D, h1, _⟩ := h
 exact h1.lt
theorem IMap.below {b : Nat} (h : IMap W B n xs) (hb : Below b W W') (hB : B < b) : IMap W' B n xs := h.same (hb.block B hB)
theorem IMap.new (w : World) : IMap (w.alloc (.map #[] 0)) w.heap.size 0 [] :=
 ⟨.map [], World.ownsMap_made _ _ _ _, isMap_empty, fun _ _ _ => ⟨rfl, rfl⟩⟩
theorem zeroIns (w : World) : (zeroValue 60).run Tryz.prog w = .ok insZ w := by
 kernel_rfl
theorem IMap.miss (h : IMap W B n xs) {s : ByteArray} (hs : s.size ≤ maxLen) (hx : s ∉ xs) : (Instr.lookup 86 (.map (some B)) (.string s) true).run Tryz.prog W = .ok (.tuple #[insZ, .bool false]) W := by
 obtain ⟨D, h1, _, h3⟩ := h
 obtain ⟨v, ps, hrun, hv⟩ := h1.look_ok lawStr Tryz.underlying86 (zeroIns _) RI_zero (WideMaps.keyOf_string_mk Tryz.underlying9 hs)
 obtain ⟨a, b⟩ := h3 s hs hx
 rw [b] at hv
 rw [RI_inv hv, a] at hrun
 exact hrun
end
theorem wpList_imap {w : World} {ops : Array Oper} {rest : List Oper} {o : Oper} {a : Act} {Q : Exit → Act → World → Prop}
 (hg : o.guard = none) (m x v : Operand) (hop : o.op = Op.mapUpdate 86 m x v) (B n : Nat) (xs : List ByteArray)
 (hm : a.eval m = .map (some B)) (hc : IMap w B n xs) (hn : n < maxLen) (s : ByteArray) (hs : s.size ≤ maxLen) (c : Value) (hx : a.eval x = .string s) (hv : a.eval v = c)
 (hK : ∀ w', IMap w' B (n + 1) (s :: xs) → w.grownBy w' (some B) → wpList Tryz.prog ops Q rest (a.put o.dst undef) w') :
 wpList Tryz.prog ops Q (o :: rest) a w := by
 obtain ⟨D, h1, h2, h3⟩ := hc
 obtain ⟨d, hd⟩ := RI_some c
 refine wpList_mapUpdate_own w hg m x v 86 hop 9 60 lawStr Tryz.underlying86 _ B n D hm h1 hn _ _ _ hx hv (WideMaps.keyOf_string_mk Tryz.underlying9 hs) d [] hd ?_
 intro w' hown hgr
 refine hK w' ⟨_, hown, h2.put _ _, fun t ht htx => ?_⟩ hgr
 have hts : t ≠ s := fun e => htx (by rw [e]; exact List.mem_cons_self)
 have hne : Lit.string t.data.toList ≠ Lit.string s.data.toList := by
  intro e
  apply hts
  simp only [Lit.string.injEq] at e
  cases t; cases s
  simp only [ByteArray.mk.injEq]
  exact Array.toList_inj.1 e
 rw [atKey_put_other hne, has_put_other hne]
 exact h3 t ht (fun h => htx (List.mem_cons_of_mem _ h))
end
section
open Go.RowKit Go.Maps RM
theorem run_makeMapI (w : World) : (Instr.makeMap 86 none).run Tryz.prog w = .ok (.map (some w.heap.size)) (w.alloc (.map #[] 0)) := by
 simp [Instr.makeMap, run_underlying Tryz.underlying86, Result.andThen]
theorem pusher_any (sc : Sc) (lat : Int) (w : World) :
 Calls Tryz.prog 25 #[.agg (scv sc), .int .i64 lat] w fun e w' => ∃ K S L M, e = .returned (.func (.func 35) #[] #[.pointer (some ⟨K, 0, none⟩), .pointer (some ⟨S, 0, none⟩), .pointer (some ⟨L, 0, none⟩)]) ∧
  RowAt w' K 86 #[.map (some M)] ∧ RowAt w' S 52 (scv sc) ∧ RowAt w' L 3 #[.int .i64 lat] ∧ IMap w' M 0 [] ∧ w.heap.size ≤ M ∧ Below w.heap.size w w' := by
 obtain ⟨r0, r1, hb⟩ := two_rows w (scv sc) #[.int .i64 lat] 52 3
 refine cHid fun Q' hQ => ?_
 have HQ := zh hQ; clear hQ
 go_enter Tryz.func25, Tryz.ntmps25
 go_upto_region 1 with fail
 change Code.wp _ _ _ _ ((w.alloc (.cells (scv sc) 52)).alloc (.cells #[.int .i64 lat] 3))
 generalize (w.alloc (.cells (scv sc) 52)).alloc (.cells #[.int .i64 lat] 3) = w1 at *
 have HB1 := zh hb
 have HR0 := zh r0
 have HR1 := zh r1
 clear hb r0 r1
 have hmk := run_makeMapI
 go_wp2_with fail
 have hbm : Below w1.heap.size w1 ((w1.alloc (.map #[] 0)).alloc (.cells #[.map (some w1.heap.size)] 86)) := ((zB _ _).alloc (zL _) _).alloc (by simp) _
 have hk := RowAt.new (w1.alloc (.map #[] 0)) 86 #[.map (some w1.heap.size)]
 rw [show (w1.alloc (.map #[] 0)).heap.size = w1.heap.size + 1 by simp] at hk
 exact HQ.out _ _ ⟨w1.heap.size + 1, w.heap.size, w.heap.size + 1, w1.heap.size, rfl, hk, HR0.out.below hbm HR0.out.lt, HR1.out.below hbm HR1.out.lt, (IMap.new w1).kept (World.grownBy_alloc _ _ none) (by simp), HB1.out.size, HB1.out.trans (hbm.mono HB1.out.size)⟩
structure Mq (M : Nat) (w w' : World) : Prop where
 low : Below M w w'
 block : ∀ k, k < w.heap.size → k ≠ M → w'.heap[k]? = w.heap[k]?
theorem Mq.row {M g : Nat} {w w' : World} {t : TypeId} {cs : Array Value} (h : Mq M w w') (r : RowAt w g t cs) (hne : g ≠ M) : RowAt w' g t cs := (h.block g r.lt hne).trans r
theorem row_ne_map {w : World} {g B n : Nat} {t : TypeId} {cs : Array Value} {xs : List ByteArray} (r : RowAt w g t cs) (h : IMap w B n xs) : g ≠ B := by
 obtain ⟨D, ⟨es, clock, h1, _⟩, _⟩ := h
 rintro rfl
 have e : some (Obj.cells cs t (0, 0)) = some (Obj.map es clock) := Eq.trans (Eq.symm r) h1
 injection e with e
 cases e
theorem pusher1_any (sc : Sc) (lat : Int) (y : Nt) (t : ByteArray) (ht : t.size ≤ maxLen) (i : In) (K S L M n : Nat) (xs : List ByteArray) (hx : t ∉ xs) (hn : n < maxLen) (w : World) (hK : RowAt w K 86 #[.map (some M)]) (hS : RowAt w S 52 (scv sc)) (hL : RowAt w L 3 #[.int .i64 lat]) (hM : IMap w M n xs)
 (HT : ∀ W, Below w.heap.size w W → Calls Tryz.prog 36 #[.agg (ntC y).toArray] W fun e W' => e = .returned (.string t) ∧ Below W.heap.size W W')
 (HP : ∀ W, Below w.heap.size w W → Calls Tryz.prog 37 #[.agg (scv sc), .int .i64 lat, .agg (ntC y).toArray] W fun e W' => e = .returned (.tuple #[.agg (insC i).toArray, .bool true]) ∧ Below W.heap.size W W') :
 Calls Tryz.prog 35 #[.agg (ntC y).toArray, .pointer (some ⟨K, 0, none⟩), .pointer (some ⟨S, 0, none⟩), .pointer (some ⟨L, 0, none⟩)] w fun e w' => e = .returned (.tuple #[.agg (insC i).toArray, .bool true]) ∧ IMap w' M (n + 1) (t :: xs) ∧ Mq M w w' := by
 obtain ⟨r0, r1, hb⟩ := two_rows w (ntC y).toArray (insC in0).toArray 56 60
 refine cHid fun Q' hQ => ?_
 have HQ := zh hQ; clear hQ
 go_enter Tryz.func35, Tryz.ntmps35
 go_upto_region 1 with fail
 change Code.wp _ _ _ _ ((w.alloc (.cells (ntC y).toArray 56)).alloc (.cells (insC in0).toArray 60))
 generalize (w.alloc (.cells (ntC y).toArray 56)).alloc (.cells (insC in0).toArray 60) = w1 at *
 have HB1 := zh hb
 have HR0 := zh r0
 have HR1 := zh r1
 have HKK := zh hK
 have HSS := zh hS
 have HLL := zh hL
 have HMM := zh hM
 have HTT := zh HT
 have HPP := zh HP
 clear hb r0 r1 hK hS hL hM HT HP
 obtain ⟨n0, n1, n2, n3, n4⟩ := nt_row HR0.out
 go_upto_region 2 with (go_at_call 36; refine (HTT.out w1 HB1.out).mono ?_; rintro e w2 ⟨rfl, hb2⟩; have HB2 := zh hb2; clear hb2)
 clear n0 n1 n2 n3 n4
 have HB02 := zh (HB1.out.trans (HB2.out.mono HB1.out.size))
 have HM2 := zh (HMM.out.below HB02.out HMM.out.lt)
 have hmiss := HM2.out.miss ht hx
 have k0 : w2.cell? ⟨K, 0, none⟩ = some (.map (some M)) := ((HKK.out.below HB02.out HKK.out.lt).cell 0).trans rfl
 go_upto_region 5 with (refine wpList_stRow (by rfl) _ _ _ rfl w2.heap.size (insC in0).toArray rfl rfl _ _ (RowAt.new _ _ _) (by kernel_rfl) (by with_unfolding_all rfl) (insC_one _) ?_; intro w3 r3 he; have HB3 : Hid (Below w2.heap.size w2 w3) := zh (((zB _ _).alloc (zL _) _).trans (he.below (zL _))); clear r3 he)
 clear hmiss k0
 have HB03 := zh (HB02.out.trans (HB3.out.mono HB02.out.size))
 have HB13 := zh (HB2.out.trans (HB3.out.mono HB2.out.size))
 have HM3 := zh (HMM.out.below HB03.out HMM.out.lt)
 have HS3 := zh (HSS.out.below HB03.out HSS.out.lt)
 have HN3 := zh (HR0.out.below HB13.out HR0.out.lt)
 have l0 : w3.cell? ⟨L, 0, none⟩ = some (.int .i64 lat) := ((HLL.out.below HB03.out HLL.out.lt).cell 0).trans rfl
 have k0 : w3.cell? ⟨K, 0, none⟩ = some (.map (some M)) := ((HKK.out.below HB03.out HKK.out.lt).cell 0).trans rfl
 obtain ⟨n0, n1, n2, n3, n4⟩ := nt_row HN3.out
 obtain ⟨s0, s1, _, _⟩ := rw2 (show RowAt w3 S 52 #[.slice sc.LA sc.ls.length sc.lc, .slice sc.VA sc.vs.length sc.vc] from HS3.out)
 go_upto_region 7 with (first
  | (go_at_call 37; refine (HPP.out w3 HB03.out).mono ?_; rintro e w4 ⟨rfl, hb4⟩; have HB4 := zh hb4; clear hb4 n0 n1 n2 n3 n4 s0 s1 l0 k0)
  | (refine wpList_stRow (by rfl) _ _ _ rfl w4.heap.size (insC i).toArray rfl rfl _ _ (RowAt.new _ _ _) (infoIns _) (by rw [insC_size]; with_unfolding_all rfl) (insC_one _) ?_; intro w5 r5 he; have HR5 := zh r5; have HB5 : Hid (Below w4.heap.size w4 w5) := zh (((zB _ _).alloc (zL _) _).trans (he.below (zL _))); clear r5 he))
 have HB45 := zh (HB4.out.trans (HB5.out.mono HB4.out.size))
 have HB05 := zh (HB03.out.trans (HB45.out.mono HB03.out.size))
 have HB15 := zh (HB13.out.trans (HB45.out.mono HB13.out.size))
 have HM5 := zh (HMM.out.below HB05.out HMM.out.lt)
 have k0 : w5.cell? ⟨K, 0, none⟩ = some (.map (some M)) := ((HKK.out.below HB05.out HKK.out.lt).cell 0).trans rfl
 have HRR := zh (HR1.out.below HB15.out HR1.out.lt)
 obtain ⟨g4, hg4⟩ : ∃ z, z = w4.heap.size := ⟨_, rfl⟩
 rw [← hg4] at HR5 ⊢
 clear hg4 HB4 HB5 HB45 HTT HPP
 go_upto_region 8 with (first
  | (refine wpList_loadS (by rfl) _ _ rfl g4 rfl _ _ _ HR5.out Tryz.underlying60 rfl (infoIns _) ?_)
  | (refine wpList_imap rfl _ _ _ rfl M n xs rfl HM5.out hn t ht (.agg (insC i).toArray) rfl rfl ?_; intro w6 hm6 hgr; have HM6 := zh hm6; have HGR := zh hgr; clear hm6 hgr k0))
 have HR6 : Hid (RowAt w6 g4 60 (insC i).toArray) := zh ((HGR.out.block g4 HR5.out.lt (by simpa using row_ne_map HR5.out HM5.out)).trans HR5.out)
 have hne := row_ne_map HRR.out HM5.out
 have HRR6 : Hid (RowAt w6 (w.heap.size + 1) 60 (insC in0).toArray) := zh ((HGR.out.block (w.heap.size + 1) HRR.out.lt (by simpa using hne)).trans HRR.out)
 have HMlt := zh HMM.out.lt
 go_wp2_with (first
  | (refine wpList_loadS (by rfl) _ _ rfl g4 rfl _ _ _ HR6.out Tryz.underlying60 rfl (infoIns _) ?_)
  | (refine wpList_stRow (by rfl) _ _ _ rfl (w.heap.size + 1) (insC i).toArray rfl rfl _ _ HRR6.out (infoIns _) (by rw [insC_size, insC_size]) (insC_one _) ?_; intro w7 r7 he; have HR7 := zh r7; have HEL := zh he; clear r7 he))
 have hM0 := HMlt.out
 have hgb : Below M w5 w6 := ⟨HGR.out.os, HGR.out.tape, HGR.out.output, HGR.out.size, fun k hk => HGR.out.block k (by have := HM5.out.lt; omega) (by simp; omega)⟩
 have hlow : Below M w w7 := ((HB05.out.mono (Nat.le_of_lt hM0)).trans hgb).trans (HEL.out.below (by omega))
 have hblk : ∀ k, k < w.heap.size → k ≠ M → w7.heap[k]? = w.heap[k]? := fun k hk hkM => (HEL.out.block k (by omega)).trans ((HGR.out.block k (by have := HB05.out.size; omega) (by simpa using hkM)).trans (HB05.out.block k hk))
 have hm7 : IMap w7 M (n + 1) (t :: xs) := HM6.out.same (HEL.out.block M (by omega))
 exact bodyPost_ret (ret2 rfl _ _ (w.heap.size + 1) _ _ (0, 0) _ (.bool true) rfl rfl HR7.out Tryz.underlying60 rfl (infoIns _)) rfl (HQ.out _ _ ⟨rfl, hm7, ⟨hlow, hblk⟩⟩)
end
section
open Go.RowKit Go.Maps RM
def pendC (o : Int) (n : Int) (R : Option Addr) (m c : Nat) : List Value := insC ⟨o, n, ⟨List.replicate 8 0, EW.zeros⟩⟩ ++ [.slice R m c]
def pendZ : Value := .agg #[.int .i64 0, .int .i64 0, .int .u64 0, .int .u64 0, .int .u64 0, .int .u64 0, .int .u64 0, .int .u64 0, .int .u64 0, .int .u64 0, .slice none 0 0]
theorem infoPend2 : (Tryz.prog.info? 75).map (fun i => (i.zero.isSome, i.size)) = some (true, 11) := by kernel_rfl
theorem infoPendZ : (Tryz.prog.info? 75).map (fun i => (i.zero, i.size, i.bytes)) = some (some pendZ, 11, 104) := by kernel_rfl
theorem infoInsZ : (Tryz.prog.info? 60).map (fun i => (i.zero, i.size, i.bytes)) = some (some insZ, 10, 80) := by kernel_rfl
theorem infoIns2 : (Tryz.prog.info? 60).map (fun i => (i.zero.isSome, i.size)) = some (true, 10) := by kernel_rfl
theorem wp_oneR {ty et : TypeId} {sz : Nat} (hsz : 0 < sz ∧ sz ≤ 100) (hinf : (Tryz.prog.info? et).map (fun i => (i.zero.isSome, i.size)) = some (true, sz)) (hund : Tryz.prog.underlying ty = some (.slice et)) {o : Oper} {a : Act} {w : World} {K : Act → World → Prop} {Q : Exit → Act → World → Prop} (x : Operand) (ho : o.op = .buildSlice ty 1 #[(0, x)])
 (cs : Array Value) (hc : cs.size = sz) (hx : a.eval x = .agg cs)
 (h : K (a.put o.dst (.slice (some ⟨w.heap.size, 0, none⟩) 1 1)) (w.alloc (.cells cs et))) : o.wp Tryz.prog a w K Q := by
 cases hi : Tryz.prog.info? et with
 | none => have h0 := hinf; rw [hi] at h0; cases h0
 | some i =>
   have h2 := hinf
   rw [hi] at h2
   simp only [Option.map_some, Option.some.injEq, Prod.mk.injEq] at h2
   obtain ⟨z, hz⟩ := Option.isSome_iff_exists.1 h2.1
   have hs := h2.2
   refine wp_buildSlice ty et 1 _ ho cs i z hund hi hz (by rw [hs]; omega) (by rw [hs]; omega) ?_ h
   rw [show (#[(0, x)].map fun (p : Nat × Operand) => (p.1, a.eval p.2)).toList = ([Value.agg cs].zipIdx 0).map fun x => (x.2, x.1) by simp [hx], hs]
   have := Great.fill_whole (s := sz) hsz.1 [Value.agg cs] ((Array.range (1 * sz)).map (z.cells[· % z.cells.size]!)) (by
    intro v hv
    rw [List.mem_singleton] at hv
    subst hv
    exact hc) (by simp)
   rw [this]
   simp [Value.cells]
theorem wpList_oneR {ty et : TypeId} {sz : Nat} (hsz : 0 < sz ∧ sz ≤ 100) (hinf : (Tryz.prog.info? et).map (fun i => (i.zero.isSome, i.size)) = some (true, sz)) (hund : Tryz.prog.underlying ty = some (.slice et)) {ops : Array Oper} {rest : List Oper} {o : Oper} {a : Act} {w : World} {Q : Exit → Act → World → Prop} (hgd : o.guard = none) (x : Operand) (ho : o.op = .buildSlice ty 1 #[(0, x)])
 (cs : Array Value) (hc : cs.size = sz) (hx : a.eval x = .agg cs)
 (h : ∀ w', RowAt w' w.heap.size et cs → Below w.heap.size w w' → wpList Tryz.prog ops Q rest (a.put o.dst (.slice (some ⟨w.heap.size, 0, none⟩) 1 1)) w') : wpList Tryz.prog ops Q (o :: rest) a w :=
 wpList_plain hgd fun _ hK => wp_oneR hsz hinf hund x ho cs hc hx (hK _ _ (h _ (RowAt.new _ _ _) ((zB _ _).alloc (zL _) _)))
theorem wp_moreT {P : Program} (w : World) {o : Oper} {a : Act} {K : Act → World → Prop} {Q : Exit → Act → World → Prop} (s x : Operand) (t : TypeId)
 (ho : o.op = .call { callee := .builtin .append, args := #[s, x], argTypes := #[t, t] })
 (e : TypeId) (z : Value) (size bytes : Nat) (ht : P.underlying t = some (.slice e))
 (hinf : (P.info? e).map (fun i => (i.zero, i.size, i.bytes)) = some (some z, size, bytes)) (hzs : z.cells.size = size) (hsz : 0 < size)
 (base : Nat) (A : Option Addr) (n c : Nat) (cs : List Value) (hs : a.eval s = .slice A n c) (hown : w.ownsRow base e size (.slice A n c) n cs)
 (g : Nat) (news : List Value) (hx : a.eval x = .slice (some ⟨g, 0, none⟩) 1 1) (hl : news.length = size)
 (hnews : ∀ j u, news[j]? = some u → w.cell? ⟨g, j, none⟩ = some u) (h1 : ∀ u ∈ news, u.oneCell' = true)
 (hn : n + 1 ≤ maxLen) (hb2 : (n + 1) * bytes ≤ 140737488355328) (hbase : base ≤ w.heap.size)
 (h : ∀ A' c' w', w'.ownsRow base e size (.slice A' (n + 1) c') (n + 1) (cs ++ news) → Below base w w' → w.grownBy w' (Value.slice A n c).ownBlock → ((Value.slice A' (n + 1) c').ownBlock = (Value.slice A n c).ownBlock ∨ (Value.slice A' (n + 1) c').ownBlock = some w.heap.size) → K (a.put o.dst (.slice A' (n + 1) c')) w') :
 o.wp P a w K Q := by
 obtain ⟨i, hi, hz, hi1, hi2⟩ := info_parts hinf
 have hadd : ∀ j, (⟨g, 0, none⟩ : Addr).add j = ⟨g, j, none⟩ := fun j => by unfold Addr.add; split <;> simp_all
 obtain ⟨v', w', hr, hown', hg, _, hat⟩ := run_append_own_at (P := P) w base t o.type e i z size bytes ht hi hz hi1 hi2 hzs hsz (.slice A n c) n cs hown ⟨g, 0, none⟩ 1 1 news (by rw [hl, Nat.one_mul])
  (fun j u hu => by rw [hadd]; exact hnews j u hu) h1 hn hb2 hbase
 obtain ⟨A', c', rfl, _, _⟩ := own_form hown'
 unfold Oper.wp execOp
 simp only [ho, resolve, invoke, builtin, Sem.run_bind, Sem.run_pure, Result.andThen_ok, List.map_toArray, List.map_cons, List.map_nil, hs, hx, hr]
 exact h A' c' w' hown' ((zB base w).grown hg hbase (fun k hk => (hown.lt k hk).1)) hg hat
theorem opOf_any (k r : Int) (h : (k = 8 ∧ r = 3) ∨ (k = 9 ∧ r = 4) ∨ (k ≠ 8 ∧ k ≠ 9 ∧ r = 0)) (w : World) : Calls Tryz.prog 26 #[.int .i64 k] w fun e w' => e = .returned (.int .i64 r) ∧ w = w' := by
 rcases h with ⟨rfl, rfl⟩ | ⟨rfl, rfl⟩ | ⟨h1, h2, rfl⟩
 ·go_enter Tryz.func26, Tryz.ntmps26
  go_wp2_with fail
  go_ret
  exact ⟨rfl, rfl⟩
 ·go_enter Tryz.func26, Tryz.ntmps26
  go_wp2_with fail
  go_ret
  exact ⟨rfl, rfl⟩
 ·have t1 : (k == 8) = false := by simpa using h1
  have t2 : (k == 9) = false := by simpa using h2
  clear h1 h2
  go_enter Tryz.func26, Tryz.ntmps26
  go_wp2_with fail
  go_ret
  exact ⟨rfl, rfl⟩
structure Fr (b nb M : Nat) (w W : World) : Prop where
 low : Below b w W
 blk : ∀ k, k < w.heap.size → k ≠ M → k ≠ nb → W.heap[k]? = w.heap[k]?
section
variable {b nb M : Nat} {w W W2 : World}
theorem Fr.new (hb : b ≤ w.heap.size) (h : Below w.heap.size w W) : Fr b nb M w W := ⟨h.mono hb, fun k hk _ _ => h.block k hk⟩
theorem Fr.below {c : Nat} (h : Fr b nb M w W) (hb : b ≤ w.heap.size) (hc : w.heap.size ≤ c) (h2 : Below c W W2) : Fr b nb M w W2 :=
 ⟨h.low.trans (h2.mono (zM hb hc)), fun k hk h3 h4 => (h2.block k (by omega)).trans (h.blk k hk h3 h4)⟩
theorem Fr.node (h : Fr b nb M w W) (hb : b ≤ nb) (h2 : Else nb W W2) : Fr b nb M w W2 :=
 ⟨h.low.trans (h2.below hb), fun k hk h3 h4 => (h2.block k h4).trans (h.blk k hk h3 h4)⟩
theorem Fr.map (h : Fr b nb M w W) (hb : b ≤ M) (h2 : Mq M W W2) : Fr b nb M w W2 :=
 ⟨h.low.trans (h2.low.mono hb), fun k hk h3 h4 => (h2.block k (zT hk h.low.size) h3).trans (h.blk k hk h3 h4)⟩
theorem Fr.far {g : Nat} (h : Fr b nb M w W) (hb : b ≤ w.heap.size) (hg : w.heap.size ≤ g) (h2 : Else g W W2) : Fr b nb M w W2 :=
 ⟨h.low.trans (h2.below (zM hb hg)), fun k hk h3 h4 => (h2.block k (by omega)).trans (h.blk k hk h3 h4)⟩
theorem Fr.row {g : Nat} {t : TypeId} {cs : Array Value} (h : Fr b nb M w W) (r : RowAt w g t cs) (h1 : g ≠ M) (h2 : g ≠ nb) : RowAt W g t cs := (h.blk g r.lt h1 h2).trans r
end
theorem else_grown {g : Nat} {w w' : World} (h : Else g w w') : w.grownBy w' (some g) := ⟨h.os, h.tape, h.output, Nat.le_of_eq h.size.symm, fun k hk hne => h.block k (fun e => hne (by rw [e]))⟩
theorem own_else {base size n g : Nat} {e : TypeId} {v : Value} {cs : List Value} {w w' : World} (h : w.ownsRow base e size v n cs) (he : Else g w w') (hg : g < base) : w'.ownsRow base e size v n cs :=
 h.kept (else_grown he) (.inr fun e => by have := (h.lt g e).1; omega)
theorem Mq.grown {M : Nat} {w w' : World} (h : Mq M w w') : w.grownBy w' (some M) := ⟨h.low.os, h.low.tape, h.low.output, h.low.size, fun k hk hne => h.block k hk (fun e => hne (by rw [e]))⟩
theorem own_mq {base size n M : Nat} {e : TypeId} {v : Value} {cs : List Value} {w w' : World} (h : w.ownsRow base e size v n cs) (hm : Mq M w w') (hM : M < base) : w'.ownsRow base e size v n cs :=
 h.kept hm.grown (.inr fun e => by have := (h.lt M e).1; omega)
end
section
open Go.RowKit RM
theorem roomG_bd : ∀ (l : List In) (sz mx m s : Nat), roomG l sz mx = some (m, s) → m ≤ max mx (sz + l.length)
 | [], sz, mx, m, s, h => by
   unfold roomG at h
   simp only [Option.some.injEq, Prod.mk.injEq] at h
   omega
 | i :: l, sz, mx, m, s, h => by
   unfold roomG at h
   rw [zA8]
   split at h
   ·have := roomG_bd l _ _ _ _ h; omega
   ·split at h
    ·split at h
     ·cases h
     ·have := roomG_bd l _ _ _ _ h; omega
    ·cases h
theorem mstI_bd (l : List In) : mstI (roomG l 0 0) ≤ l.length := by
 cases h : roomG l 0 0 with
 | none => exact Nat.zero_le _
 | some r =>
   obtain ⟨m, s⟩ := r
   have := roomG_bd l 0 0 m s h
   show m ≤ _
   omega
def repS (B : List Nat → List Nat → List Nat) (st : List (List Nat)) (m k : Nat) : List (List Nat) := st.take m ++ [repV B ((st.drop m).take k) (st.getD (m + k) []) (downTo k k)]
theorem repV_ew {B : List Nat → List Nat → List Nat} (hB : ∀ a b, EW a → EW b → EW (B a b)) {es : List (List Nat)} (hE : ∀ e ∈ es, EW e) : ∀ (l : List Nat) (v : List Nat), EW v → (∀ i ∈ l, i < es.length) → EW (repV B es v l)
 | [], v, hv, _ => hv
 | i :: l, v, hv, h => by
   show EW (repV B es (B (es.getD i []) v) l)
   exact repV_ew hB hE l _ (hB _ _ (hE _ (eget_mem (h i (by simp)))) hv) fun j hj => h j (by simp [hj])
theorem repS_ew {B : List Nat → List Nat → List Nat} (hB : ∀ a b, EW a → EW b → EW (B a b)) {st : List (List Nat)} (hE : ∀ e ∈ st, EW e) {m k : Nat} (hmk : m + k < st.length) : ∀ e ∈ repS B st m k, EW e := by
 intro e he
 unfold repS at he
 rcases List.mem_append.1 he with he | he
 ·exact hE e (List.mem_of_mem_take he)
 ·rw [List.mem_singleton] at he
  subst he
  refine repV_ew hB (fun f hf => hE f (List.mem_of_mem_drop (List.mem_of_mem_take hf))) _ _ (hE _ (eget_mem hmk)) fun i hi => ?_
  unfold downTo at hi
  obtain ⟨j, hj, rfl⟩ := List.mem_map.1 hi
  rw [List.mem_range] at hj
  rw [List.length_take, List.length_drop]
  omega
theorem repS_len (B : List Nat → List Nat → List Nat) (st : List (List Nat)) {m k : Nat} (hm : m ≤ st.length) : (repS B st m k).length = m + 1 := by
 unfold repS
 rw [zA7, List.length_take, Nat.min_eq_left hm]; rfl
def runG (J M : List Nat → List Nat → List Nat) (v : List (List Nat)) : List In → List (List Nat) → Option (List (List Nat))
 | [], st => some st
 | i :: l, st =>
   if i.op = 1 then (if 0 ≤ i.n ∧ i.n < (v.length : Int) then runG J M v l (st ++ [v.getD i.n.toNat []]) else none)
   else if i.op = 2 then runG J M v l (st ++ [i.e.1])
   else runG J M v l (repS (if i.op = 3 then J else M) st (st.length - i.n.toNat) (i.n.toNat - 1))
theorem runG_at (J M : List Nat → List Nat → List Nat) (v : List (List Nat)) {l : List In} {k : Nat} (hk : k < l.length) (st : List (List Nat)) : runG J M v (l.drop k) st =
 if (l.getD k in0).op = 1 then (if 0 ≤ (l.getD k in0).n ∧ (l.getD k in0).n < (v.length : Int) then runG J M v (l.drop (k + 1)) (st ++ [v.getD (l.getD k in0).n.toNat []]) else none)
 else if (l.getD k in0).op = 2 then runG J M v (l.drop (k + 1)) (st ++ [(l.getD k in0).e.1])
 else runG J M v (l.drop (k + 1)) (repS (if (l.getD k in0).op = 3 then J else M) st (st.length - (l.getD k in0).n.toNat) ((l.getD k in0).n.toNat - 1)) := by
 rw [List.drop_eq_getElem_cons hk, List.getD_eq_getElem?_getD, List.getElem?_eq_getElem hk]
 rfl
def z8 : List Nat := List.replicate 8 0
theorem zero_z8 : (#[.int .u64 0, .int .u64 0, .int .u64 0, .int .u64 0, .int .u64 0, .int .u64 0, .int .u64 0, .int .u64 0] : Array Value) = uv z8 := zero_elem
def evG (fs : List Fac) (v : List (List Nat)) (l : List In) : Option (List Nat) := if rgtB (roomG l 0 0) = true then (runG (joinE fs) meetE v l []).map (fun st => st.getD 0 []) else none
def retE (r : Option (List Nat)) : Value := .tuple #[.agg (uv (r.getD z8)), .bool r.isSome]
theorem wpList_one8 {ops : Array Oper} {rest : List Oper} {o : Oper} {a : Act} {w : World} {Q : Exit → Act → World → Prop} (hgd : o.guard = none) (x : Operand) (ho : o.op = .buildSlice 26 1 #[(0, x)])
 (e : List Nat) (he : EW e) (hx : a.eval x = .agg (uv e))
 (h : ∀ w', RowAt w' w.heap.size 31 (uv e) → Below w.heap.size w w' → wpList Tryz.prog ops Q rest (a.put o.dst (.slice (some ⟨w.heap.size, 0, none⟩) 1 1)) w') : wpList Tryz.prog ops Q (o :: rest) a w :=
 wpList_plain hgd fun _ hK => wp_one8 x ho e he hx (hK _ _ (h _ (RowAt.new _ _ _) ((zB _ _).alloc (zL _) _)))
theorem uc_cells {w : World} {g : Nat} {e : List Nat} (h : RowAt w g 31 (uv e)) : ∀ j u, (ucells e)[j]? = some u → w.cell? ⟨g, j, none⟩ = some u := fun j u hu => (h.cell j).trans (by unfold uv; simpa [ucells] using hu)
theorem uc_one (e : List Nat) : ∀ u ∈ ucells e, u.oneCell' = true := fun u hu => by unfold ucells at hu; obtain ⟨z, _, rfl⟩ := List.mem_map.1 hu; rfl
theorem uc_len {e : List Nat} (h : EW e) : (ucells e).length = 8 := by rw [ucells_length]; exact h.1
theorem codeEval_any (t : Bool) (SA : Option Addr) (sc : Nat) (fs : List Fac) (LA : Option Addr) (lc : Nat) (l : List In) (VA : Option Addr) (vc : Nat) (v : List (List Nat)) (w : World) (hT : Tab w) (hF : Facs w SA fs) (hl : l.length ≤ 1000000) (hL : Ls insC w LA l)
 (hvl : v.length ≤ 1000000) (hV : Sl w w.heap.size VA (escells v)) (hE : ∀ e ∈ v, EW e) :
 Calls Tryz.prog 6 #[.agg (sv t SA fs.length sc), .slice LA l.length lc, .slice VA v.length vc] w fun e w' => e = .returned (retE (evG fs v l)) ∧ Below w.heap.size w w' := by
 obtain ⟨r3, r6, hb⟩ := two_rows w (sv t SA fs.length sc) (uv z8) 24 31
 refine cHid fun Q' hQ => ?_
 have HQ := zh hQ; clear hQ
 rw [← zero_z8] at r6 hb r3
 go_enter Tryz.func6, Tryz.ntmps6
 go_upto_region 1 with fail
 rw [zero_z8] at r6 hb r3 ⊢
 change Code.wp _ _ _ _ ((w.alloc (.cells (sv t SA fs.length sc) 24)).alloc (.cells (uv z8) 31))
 generalize (w.alloc (.cells (sv t SA fs.length sc) 24)).alloc (.cells (uv z8) 31) = w1 at *
 have HB := zh hb
 have HSZ := zh hb.size
 have HZ8 : Hid (EW z8) := zh EW.zeros
 have HR3 := zh r3
 have HR6 := zh r6
 have HTf : Hid (∀ W, Below w1.heap.size w1 W → Tab W) := zh fun W hW => (hT.below hb).below hW
 have HFf : Hid (∀ W, Below w1.heap.size w1 W → Facs W SA fs) := zh fun W hW => (hF.below hb).below hW
 have HL1 := zh (hL.below hb)
 have HV1 : Hid (Sl w1 w1.heap.size VA (escells v)) := zh ((hV.below hb).mono hb.size)
 have HE := zh hE
 have HRM := zh (room_any LA lc l w1 hl (hL.below hb))
 have hmb := mstI_bd l
 have HREV : Hid (evG fs v l = if rgtB (roomG l 0 0) = true then (runG (joinE fs) meetE v l []).map (fun st => st.getD 0 []) else none) := zh rfl
 have HEND : Hid (∀ r W, r = evG fs v l → Below w.heap.size w W → Q' (.returned (retE r)) W) := zh fun r W hr hW => HQ.out _ _ ⟨by rw [hr], hW⟩
 have HG0 : Hid (rgtB (roomG (l.drop 0) 0 0) = true ∨ rgtB (roomG l 0 0) = false) := zh (by
  rw [List.drop_zero]
  cases rgtB (roomG l 0 0)
  ·exact .inr rfl
  ·exact .inl rfl)
 have HN0 : Hid (runG (joinE fs) meetE v (l.drop 0) [] = runG (joinE fs) meetE v l []) := zh (by rw [List.drop_zero])
 clear hT hF hL hV hE hb r3 r6 HQ
 generalize mstI (roomG l 0 0) = mst at *
 cases hrb : rgtB (roomG l 0 0) with
 | false =>
   rw [hrb] at HRM
   have hev : none = evG fs v l := by rw [HREV.out, hrb]; rfl
   have HQ2 := zh (HEND.out none)
   have HEV := zh hev
   clear hev hrb
   go_wp2_with (first
    | (go_at_call 14; refine HRM.out.mono ?_; rintro e w2 ⟨rfl, hb2⟩; have HB2 := zh hb2; have HR62 := zh (HR6.out.below hb2 HR6.out.lt); clear hb2)
    | (refine wpList_stRow (by rfl) _ _ _ rfl (w.heap.size + 1) (uv z8) rfl rfl _ _ HR62.out (einfo2 HZ8.out) rfl (uv8_one _) ?_; intro w3 r3 he; have HR63 := zh r3; have HE3 := zh he; clear r3 he))
   have h1 := HB2.out.size
   have h2 := HSZ.out
   exact bodyPost_ret (ret2 rfl _ _ (w.heap.size + 1) _ _ (0, 0) _ (.bool false) rfl rfl HR63.out Tryz.underlying31 rfl (einfo2 HZ8.out)) rfl (HQ2.out w3 HEV.out ((HB.out.trans (HB2.out.mono HSZ.out)).trans (HE3.out.below (by omega))))
 | true =>
   rw [hrb] at HRM
   have HRV : Hid (evG fs v l = (runG (joinE fs) meetE v l []).map (fun st => st.getD 0 [])) := zh (by rw [HREV.out, if_pos hrb])
   have HG1 : Hid (∃ mx, rgtB (roomG (l.drop 0) 0 mx) = true) := zh ⟨0, by rw [List.drop_zero]; exact hrb⟩
   clear hrb HREV HG0
   obtain ⟨i0, hi0, hz0, hi1, hi2⟩ := info_parts infoElemZ
   have hb2 : i0.bytes * mst ≤ 281474976710656 := by rw [hi2]; omega
   have hb3 : mst ≤ maxLen := by simp only [maxLen]; omega
   go_upto_region 6 with (first
    | (go_at_call 14; refine HRM.out.mono ?_; rintro e w2 ⟨rfl, hb2'⟩; have HB2 := zh hb2'; clear hb2')
    | (at_make; refine wpList_make_own _ rfl _ _ 26 rfl w1.heap.size 31 i0 zeroE 8 Tryz.underlying26 hi0 hz0 hi1 .i64 .i64 (mst : Int) mst rfl rfl rfl hb2 hb3 HB2.out.size ?_; intro w3 hown1 hg1))
   have HB3 : Hid (Below w1.heap.size w1 w3) := zh (HB2.out.trans ((zB _ w2).grown hg1 HB2.out.size (fun k hk => by cases hk)))
   have HO3 := zh hown1
   clear hown1 hg1 hb2 hb3 hi0 hz0 hi1 hi2 HRM
   obtain ⟨R, hR⟩ : ∃ R, R = runG (joinE fs) meetE v l [] := ⟨_, rfl⟩
   rw [← hR] at HRV HN0
   clear hR
   have HRA := zh fun k (hk : k < l.length) => runG_at (joinE fs) meetE v hk
   have HGA := zh fun k (hk : k < l.length) => roomG_at hk
   generalize hn : l.length = n at *
   have HN := zh hn; clear hn
   generalize hq : v.length = q at *
   have HQV := zh hq; clear hq
   have HG3 : Hid (w.heap.size + 1 < w1.heap.size) := zh HR6.out.lt
   generalize w2.heap.size = gs at *
   clear HB2
   go_upto_region 7 with fail
   go_loopw [11, 27] (fun sv kv wr => ∃ (k c' : Nat) (A' : Option Addr) (st : List (List Nat)), k ≤ n ∧ st.length ≤ k ∧ kv = .int .i64 k ∧ sv = .slice A' st.length c' ∧ Hid (wr.ownsRow w1.heap.size 31 8 (.slice A' st.length c') st.length (escells st)) ∧ Hid (∀ e ∈ st, EW e) ∧ Hid (∃ mx, rgtB (roomG (l.drop k) st.length mx) = true) ∧ Hid (runG (joinE fs) meetE v (l.drop k) st = R) ∧ Hid (Below w1.heap.size w1 wr)) (fun _ kv _ => n - (intOf kv).toNat)
   case atStart => exact ⟨0, mst, some ⟨gs, 0, none⟩, [], by omega, by simp, rfl, rfl, HO3, zh (fun e he => by cases he), HG1, HN0, HB3⟩
   case round =>
    clear HB3 HO3 HG1 HN0
    obtain ⟨k, c', A', st, hk, hst, rfl, rfl, HO, HES, HG, HRN, HBr⟩ := hrel
    by_cases hlt : k < n
    ·obtain ⟨b, o, rfl, hbl, hc⟩ := (HL1.out.below HBr.out).at 10 insC_len (by omega) in0 (i := k) (by rw [HN.out]; exact hlt)
     have hr := hc k (by rw [HN.out]; exact hlt)
     have hci := infoInsL (l.getD k in0)
     have hrun := HRN.out
     rw [HRA.out k hlt] at hrun
     obtain ⟨mx, hg⟩ := HG.out
     rw [HGA.out k hlt] at hg
     have HRW := zh hr; clear hr hc HRN HG hbl
     generalize l.getD k in0 = x at *
     have hsz := HBr.out.size
     go_upto_region 9 with (first
      | (refine wpList_ldIn (by rfl) _ _ rfl b (o + k * 10) rfl _ _ HRW.out Tryz.underlying60 rfl hci ?_)
      | (refine wpList_stRow (by rfl) _ _ _ rfl wr.heap.size (insC x).toArray rfl rfl _ _ (RowAt.new _ _ _) (infoIns x) (by rw [insC_size]; rfl) (insC_one x) ?_; intro w4 r4 he; have HR4 := zh r4; have HB4 : Hid (Below wr.heap.size wr w4) := zh (((zB _ _).alloc (zL _) _).trans (he.below (zL _))); clear r4 he))
     have HBW4 : Hid (Below w1.heap.size w1 w4) := zh (HBr.out.trans (HB4.out.mono hsz))
     have HO4 := zh (own_below HO.out HB4.out (zL _))
     obtain ⟨c0, c1, c2⟩ := ins_cells HR4.out
     have HC2 := zh c2
     clear HR4 HB4 HRW hci HO c2 hsz
     generalize wr.heap.size = gi at *
     obtain ⟨op, nn, e, hew⟩ := x
     dsimp only at c0 c1 HC2 hrun hg
     have HEW : Hid (EW e) := zh hew
     obtain ⟨sl, hsl⟩ : ∃ z, z = st.length := ⟨_, rfl⟩
     have HSL : Hid (st.length = sl) := zh hsl.symm
     have hbd1 : sl + 1 ≤ maxLen := by simp only [maxLen]; omega
     have hbd2 : (sl + 1) * 64 ≤ 140737488355328 := by omega
     rw [← hsl] at hg hrun HO4 hst ⊢
     clear hsl
     by_cases h1 : op = 1
     ·subst h1
      rw [if_pos (.inl rfl)] at hg
      rw [if_pos rfl] at hrun
      by_cases hin : 0 ≤ nn ∧ nn < (q : Int)
      ·rw [if_pos hin] at hrun
       obtain ⟨j, rfl⟩ : ∃ j : Nat, nn = (j : Int) := ⟨nn.toNat, by omega⟩
       rw [Int.toNat_natCast] at hrun
       have hjl : j < v.length := by have := HQV.out; omega
       obtain ⟨b2, o2, rfl, hrng⟩ := els_at (HV1.out.below HBW4.out) HE.out (k := j) hjl
       have hrv := hrng j hjl
       have HVE : Hid (EW (v.getD j [])) := zh (HE.out _ (eget_mem hjl))
       have hjq : (j : Int) < (q : Int) := hin.2
       have hqj : ¬ (q : Int) ≤ (j : Int) := by omega
       have hqd : decide ((q : Int) ≤ (j : Int)) = false := zF hqj
       have hqn : decide (q ≤ j) = false := zF (by omega)
       generalize v.getD j [] = ve at *
       have HRV := zh hrv
       have HG5 : Hid (∃ mx, rgtB (roomG (l.drop (k + 1)) (st ++ [ve]).length mx) = true) := zh ⟨_, by rw [zA7, HSL.out]; exact hg⟩
       have HRN5 : Hid (runG (joinE fs) meetE v (l.drop (k + 1)) (st ++ [ve]) = R) := zh hrun
       clear hin hrng hrv hg hrun hjl
       go_wp2_with (first
        | (refine wpList_loadElemIn (by rfl) _ rfl b2 (o2 + j * 8) rfl _ HVE.out HRV.out ?_)
        | (refine wpList_one8 rfl _ rfl ve HVE.out rfl ?_; intro w5 r5 hb5; have HR5 := zh r5; have HB5 := zh hb5; have HO5 := zh (own_below HO4.out hb5 (zL _)); have HS5 := zh (zM HBW4.out.size hb5.size); clear r5 hb5)
        | (refine wpList_moreS _ rfl _ _ 26 rfl 31 zeroE 8 64 Tryz.underlying26 infoElemZ rfl (by decide) w1.heap.size A' sl c' (escells st) rfl HO5.out w4.heap.size (ucells ve) rfl (uc_len HVE.out) (uc_cells HR5.out) (uc_one _) hbd1 hbd2 HS5.out ?_; intro A2 c2 w6 hown6 hb6 _ _; have HO6 := zh hown6; have HB6 := zh hb6; clear hown6 hb6))
       have hln : (st ++ [ve]).length = sl + 1 := by rw [zA7, HSL.out]; rfl
       have hcs : escells st ++ ucells ve = escells (st ++ [ve]) := by rw [escells_app]; simp [escells]
       have HO7 := HO6.out
       rw [hcs] at HO7
       go_roundw
       case rel =>
        refine ⟨k + 1, c2, A2, st ++ [ve], by omega, by omega, by go_num, by rw [hln], ?_, ?_, HG5, HRN5, zh ((HBW4.out.trans (HB5.out.mono HBW4.out.size)).trans HB6.out)⟩
        ·rw [hln]; exact HO7
        ·show ∀ y ∈ st ++ [ve], EW y
         intro y hy
         rcases List.mem_append.1 hy with hy | hy
         ·exact HES.out y hy
         ·rw [List.mem_singleton.1 hy]; exact HVE.out
       case measure => simp [intOf]; omega
      ·rw [if_neg hin] at hrun
       have HNONE : Hid (∀ W, Below w.heap.size w W → Q' (.returned (retE none)) W) := zh fun W hW => HEND.out none W (by rw [HRV.out, ← hrun]; rfl) hW
       clear hrun hg
       have hgg := HG3.out
       by_cases hn0 : nn < 0
       ·have q1 : decide (nn < 0) = true := zE hn0
        clear hin
        have HR64 := zh (HR6.out.below HBW4.out HR6.out.lt)
        go_wp2_with (refine wpList_stRow (by rfl) _ _ _ rfl (w.heap.size + 1) (uv z8) rfl rfl _ _ HR64.out (einfo2 HZ8.out) rfl (uv8_one _) ?_; intro w5 r5 he; have HR65 := zh r5; have HE5 := zh he; clear r5 he)
        exact bodyPost_ret (ret2 rfl _ _ (w.heap.size + 1) _ _ (0, 0) _ (.bool false) rfl rfl HR65.out Tryz.underlying31 rfl (einfo2 HZ8.out)) rfl (HNONE.out w5 ((HB.out.trans (HBW4.out.mono HSZ.out)).trans (HE5.out.below (by omega))))
       ·have q1 : decide (nn < 0) = false := zF hn0
        have hq2 : (q : Int) ≤ nn := by omega
        have q2 : decide ((q : Int) ≤ nn) = true := zE hq2
        clear hin
        have HR64 := zh (HR6.out.below HBW4.out HR6.out.lt)
        go_wp2_with (refine wpList_stRow (by rfl) _ _ _ rfl (w.heap.size + 1) (uv z8) rfl rfl _ _ HR64.out (einfo2 HZ8.out) rfl (uv8_one _) ?_; intro w5 r5 he; have HR65 := zh r5; have HE5 := zh he; clear r5 he)
        exact bodyPost_ret (ret2 rfl _ _ (w.heap.size + 1) _ _ (0, 0) _ (.bool false) rfl rfl HR65.out Tryz.underlying31 rfl (einfo2 HZ8.out)) rfl (HNONE.out w5 ((HB.out.trans (HBW4.out.mono HSZ.out)).trans (HE5.out.below (by omega))))
     rw [if_neg h1] at hrun
     have n1 : (op == 1) = false := by simpa using h1
     by_cases h2 : op = 2
     ·subst h2
      rw [if_pos (.inr rfl)] at hg
      rw [if_pos rfl] at hrun
      have HVE : Hid (EW e) := HEW
      have HG5 : Hid (∃ mx, rgtB (roomG (l.drop (k + 1)) (st ++ [e]).length mx) = true) := zh ⟨_, by rw [zA7, HSL.out]; exact hg⟩
      have HRN5 : Hid (runG (joinE fs) meetE v (l.drop (k + 1)) (st ++ [e]) = R) := zh hrun
      clear hg hrun h1 n1
      go_wp2_with (first
       | (refine wpList_loadElemIn (by rfl) _ rfl gi 2 rfl _ HEW.out HC2.out ?_)
       | (refine wpList_one8 rfl _ rfl e HEW.out rfl ?_; intro w5 r5 hb5; have HR5 := zh r5; have HB5 := zh hb5; have HO5 := zh (own_below HO4.out hb5 (zL _)); have HS5 := zh (zM HBW4.out.size hb5.size); clear r5 hb5)
       | (refine wpList_moreS _ rfl _ _ 26 rfl 31 zeroE 8 64 Tryz.underlying26 infoElemZ rfl (by decide) w1.heap.size A' sl c' (escells st) rfl HO5.out w4.heap.size (ucells e) rfl (uc_len HEW.out) (uc_cells HR5.out) (uc_one _) hbd1 hbd2 HS5.out ?_; intro A2 c2 w6 hown6 hb6 _ _; have HO6 := zh hown6; have HB6 := zh hb6; clear hown6 hb6))
      have hln : (st ++ [e]).length = sl + 1 := by rw [zA7, HSL.out]; rfl
      have hcs : escells st ++ ucells e = escells (st ++ [e]) := by rw [escells_app]; simp [escells]
      have HO7 := HO6.out
      rw [hcs] at HO7
      go_roundw
      case rel =>
       refine ⟨k + 1, c2, A2, st ++ [e], by omega, by omega, by go_num, by rw [hln], ?_, ?_, HG5, HRN5, zh ((HBW4.out.trans (HB5.out.mono HBW4.out.size)).trans HB6.out)⟩
       ·rw [hln]; exact HO7
       ·show ∀ y ∈ st ++ [e], EW y
        intro y hy
        rcases List.mem_append.1 hy with hy | hy
        ·exact HES.out y hy
        ·rw [List.mem_singleton.1 hy]; exact HVE.out
      case measure => simp [intOf]; omega
     rw [if_neg h2] at hrun
     rw [if_neg (by omega)] at hg
     have n2 : (op == 2) = false := by simpa using h2
     have h34 : op = 3 ∨ op = 4 := by
      by_cases h : op = 3 ∨ op = 4
      ·exact h
      ·rw [if_neg h] at hg; cases hg
     rw [if_pos h34] at hg
     have hbnd : ¬ (nn < 1 ∨ (sl : Int) < nn) := fun h => by rw [if_pos h] at hg; cases hg
     rw [if_neg hbnd] at hg
     obtain ⟨j, rfl⟩ : ∃ j : Nat, nn = (j : Int) := ⟨nn.toNat, by omega⟩
     rw [Int.toNat_natCast] at hrun hg
     obtain ⟨m, hm⟩ : ∃ z, z = sl - j := ⟨_, rfl⟩
     obtain ⟨k2, hk2⟩ : ∃ z, z = j - 1 := ⟨_, rfl⟩
     have hm1 : sl = m + j := by omega
     have hm2 : j = k2 + 1 := by omega
     have hmk : m + k2 < st.length := by rw [HSL.out]; omega
     have hml : m ≤ st.length := by rw [HSL.out]; omega
     have hmk1 : m + 1 ≤ k + 1 := by omega
     have hsj : sl + 1 - j = m + 1 := by omega
     rw [← hm, ← hk2] at hrun
     rw [hsj] at hg
     have hmax : sl ≤ 1000000 := by omega
     have HM1 := zh hm1
     have HM2 := zh hm2
     clear hm hk2 hsj hbnd h1 h2 hm1 hm2 hst
     rcases h34 with rfl | rfl
     ·rw [if_pos rfl] at hrun
      have HRP : Hid (Calls Tryz.prog 17 #[.slice A' sl c', .int .i64 (j : Int), .func (.func 15) #[] #[.pointer (some ⟨w.heap.size, 0, none⟩)]] w4 fun e w' => ∃ A2 c2, e = .returned (.slice A2 (m + 1) c2) ∧ w'.ownsRow w1.heap.size 31 8 (.slice A2 (m + 1) c2) (m + 1) (escells (repS (joinE fs) st m k2)) ∧ Below w1.heap.size w4 w') := zh (replace_any 15 #[.pointer (some ⟨w.heap.size, 0, none⟩)] (joinE fs) (fun a b ha hb => joinE_ew fs ha hb) st HES.out sl k2 j m HSL.out HM1.out HM2.out hmax A' c' w1.heap.size w4 HBW4.out.size HO4.out (fun _ _ => by kernel_rfl) (fun a b W ha hb hW => evJoin_any t SA sc fs a b ha hb w.heap.size W (HTf.out W (HBW4.out.trans hW)) (HFf.out W (HBW4.out.trans hW)) (HR3.out.below (HBW4.out.trans hW) HR3.out.lt)))
      have HEW5 : Hid (∀ e ∈ repS (joinE fs) st m k2, EW e) := zh (repS_ew (fun a b ha hb => joinE_ew fs ha hb) HES.out hmk)
      have hln : (repS (joinE fs) st m k2).length = m + 1 := repS_len _ _ hml
      have HG5 : Hid (∃ mx, rgtB (roomG (l.drop (k + 1)) (repS (joinE fs) st m k2).length mx) = true) := zh ⟨_, by rw [hln]; exact hg⟩
      have HRN5 : Hid (runG (joinE fs) meetE v (l.drop (k + 1)) (repS (joinE fs) st m k2) = R) := zh hrun
      have HLN := zh hln
      clear hg hrun hml hmk hln
      go_wp2_with (go_at_call 17; refine HRP.out.mono ?_; rintro e w5 ⟨A2, c2, rfl, hown5, hb5⟩; have HO5 := zh hown5; have HB5 := zh hb5; clear hown5 hb5)
      go_roundw
      case rel =>
       refine ⟨k + 1, c2, A2, repS (joinE fs) st m k2, by omega, by rw [HLN.out]; exact hmk1, by go_num, by rw [HLN.out], ?_, HEW5, HG5, HRN5, zh (HBW4.out.trans HB5.out)⟩
       rw [HLN.out]; exact HO5
      case measure => simp [intOf]; omega
     ·rw [if_neg (by decide)] at hrun
      have HRP : Hid (Calls Tryz.prog 17 #[.slice A' sl c', .int .i64 (j : Int), .func (.func 18) #[] #[]] w4 fun e w' => ∃ A2 c2, e = .returned (.slice A2 (m + 1) c2) ∧ w'.ownsRow w1.heap.size 31 8 (.slice A2 (m + 1) c2) (m + 1) (escells (repS (meetE) st m k2)) ∧ Below w1.heap.size w4 w') := zh (replace_any 18 #[] (meetE) (fun a b ha _ => meetE_ew b ha) st HES.out sl k2 j m HSL.out HM1.out HM2.out hmax A' c' w1.heap.size w4 HBW4.out.size HO4.out (fun _ _ => by kernel_rfl) (fun a b W ha hb _ => smeet_any a b ha hb W))
      have HEW5 : Hid (∀ e ∈ repS (meetE) st m k2, EW e) := zh (repS_ew (fun a b ha _ => meetE_ew b ha) HES.out hmk)
      have hln : (repS (meetE) st m k2).length = m + 1 := repS_len _ _ hml
      have HG5 : Hid (∃ mx, rgtB (roomG (l.drop (k + 1)) (repS (meetE) st m k2).length mx) = true) := zh ⟨_, by rw [hln]; exact hg⟩
      have HRN5 : Hid (runG (joinE fs) meetE v (l.drop (k + 1)) (repS (meetE) st m k2) = R) := zh hrun
      have HLN := zh hln
      clear hg hrun hml hmk hln
      go_wp2_with (go_at_call 17; refine HRP.out.mono ?_; rintro e w5 ⟨A2, c2, rfl, hown5, hb5⟩; have HO5 := zh hown5; have HB5 := zh hb5; clear hown5 hb5)
      go_roundw
      case rel =>
       refine ⟨k + 1, c2, A2, repS (meetE) st m k2, by omega, by rw [HLN.out]; exact hmk1, by go_num, by rw [HLN.out], ?_, HEW5, HG5, HRN5, zh (HBW4.out.trans HB5.out)⟩
       rw [HLN.out]; exact HO5
      case measure => simp [intOf]; omega
    ·obtain rfl : k = n := by omega
     obtain ⟨mx, hg⟩ := HG.out
     have hrun := HRN.out
     rw [← HN.out, List.drop_eq_nil_of_le (zL _)] at hg hrun
     have hs1 : st.length = 1 := by
      have h : (st.length == 1) = true := hg
      simpa using h
     have hr2 : some st = R := hrun
     have hev : some (st.getD 0 []) = evG fs v l := by rw [HRV.out, ← hr2]; rfl
     have HEV := zh hev
     obtain ⟨g, rfl, hg1, hg2⟩ := own_some HO.out (by omega)
     have HS0 := zh (Sl.of_own HO.out)
     have HE0 : Hid (EW (st.getD 0 [])) := zh (HES.out _ (eget_mem (by omega)))
     have hrg := els_rng HS0.out HES.out (k := 0) (by omega)
     rw [Nat.zero_add, Nat.zero_mul] at hrg
     have HRG := zh hrg
     have HR6k := zh (HR6.out.below HBr.out HR6.out.lt)
     have h1l : (0 : Int) < (st.length : Int) := by omega
     clear hg hrun hs1 hr2 hev hrg hg1 hg2 HO
     generalize st.getD 0 [] = ve at *
     generalize st.length = sl at *
     go_wp2_with (first
      | (refine wpList_loadElemIn (by rfl) _ rfl g 0 rfl _ HE0.out HRG.out ?_)
      | (refine wpList_stRow (by rfl) _ _ _ rfl (w.heap.size + 1) (uv ve) rfl rfl _ _ HR6k.out (einfo2 HE0.out) (by rw [uv8_size HZ8.out, uv8_size HE0.out]) (uv8_one _) ?_; intro w5 r5 he; have HR65 := zh r5; have HE5 := zh he; clear r5 he))
     have hgg := HG3.out
     exact bodyPost_ret (ret2 rfl _ _ (w.heap.size + 1) _ _ (0, 0) _ (.bool true) rfl rfl HR65.out Tryz.underlying31 rfl (einfo2 HE0.out)) rfl (HEND.out (some ve) w5 HEV.out ((HB.out.trans (HBr.out.mono HSZ.out)).trans (HE5.out.below (by omega))))
end
section
open Go.RowKit Go.Maps RM
namespace CX
def bK : ByteArray := ⟨#[107]⟩
def bX : ByteArray := ⟨#[120]⟩
def bHi : ByteArray := ⟨#[104, 105]⟩
def lohi : List ByteArray := [⟨#[108, 111]⟩, ⟨#[104, 105]⟩]
def fC (b : Nat) : Fac := ⟨1, some ⟨b, 0, none⟩, 2, lohi, 0, zs⟩
theorem fC_ok (w : World) : FacOk (w.alloc (.cells (scells lohi).toArray 9)) (fC w.heap.size) := ⟨strs_new w lohi, RW.zs, (fun h => by cases h), zL _, (by show 2 ≤ maxLen; simp [maxLen])⟩
theorem w64 : RG.wR (lohi.length : Nat) (1 : Nat) < 18446744073709551616 := RG.wR_lt _ _
def i0 : In := ⟨1, 0, ⟨List.replicate 8 0, EW.zeros⟩⟩
def i1 : In := ⟨2, 0, ⟨RG.wR (lohi.length : Nat) (1 : Nat) :: List.replicate 7 0, ew_one w64⟩⟩
def i2 : In := ⟨3, 2, ⟨List.replicate 8 0, EW.zeros⟩⟩
def lEx : List In := [i0, i1, i2]
def eOne : List Nat := 1 :: List.replicate 7 0
theorem ewOne : EW eOne := ew_one (by decide)
theorem ev_ex (b : Nat) : evG [fC b] [z8] lEx = some eOne := by kernel_rfl
theorem room_ex : rgtB (roomG lEx 0 0) = true := by kernel_rfl
theorem flat_ex : lEx.flatMap insC = insC i0 ++ insC i1 ++ insC i2 := by simp [lEx, List.flatMap_cons, List.append_assoc]
theorem ne_ex : (⟨(35 :: bHi.data.toList).toArray⟩ : ByteArray) ≠ bX := fun h => by
 have := congrArg ByteArray.size h
 revert this
 decide
theorem sl_row {w : World} {g : Nat} {t : TypeId} {cs : Array Value} (h : RowAt w g t cs) : Sl w w.heap.size (some ⟨g, 0, none⟩) cs.toList := fun _ =>
 ⟨g, 0, rfl, h.lt, fun j u hu => by
  rw [Nat.zero_add]
  exact (h.cell j).trans (by simpa using hu)⟩
theorem sc_ok {w : World} {b h g2 g3 : Nat} (rl : RowAt w g2 46 #[.string bK, .bool false, .slice (some ⟨h, 0, none⟩) 1 1]) (rv : RowAt w g3 49 #[.string bX, .int .i64 1, .int .i64 0]) (hF : Facs w (some ⟨h, 0, none⟩) [fC b]) :
 ScOk w (scOne (some ⟨g2, 0, none⟩) 1 bK ⟨false, some ⟨h, 0, none⟩, 1, [fC b]⟩ (some ⟨g3, 0, none⟩) 1 bX) where
 lats := sl_row rl
 sh := fun l hl => by
  obtain rfl : l = (bK, (⟨false, some ⟨h, 0, none⟩, 1, [fC b]⟩ : Shp)) := by simpa [scOne] using hl
  refine ⟨hF, (fun h => by cases h), (show 1 ≤ 65536 by decide), fun f hf => ?_⟩
  obtain rfl : f = fC b := by simpa using hf
  exact (show 2 ≤ 65536 by decide)
 vars := sl_row rv
 lnil := fun h => by cases h
 vnil := fun h => by cases h
 lfew := show 1 ≤ 65536 by decide
 vfew := show 1 ≤ 65536 by decide
 lnm := fun y hy => by
  obtain rfl : y = bK := by simpa [Sc.lnms, scOne] using hy
  decide
 vnm := fun y hy => by
  obtain rfl : y = bX := by simpa [Sc.vnms, scOne] using hy
  decide
end CX
open CX
theorem infoLat2 : (Tryz.prog.info? 46).map (fun i => (i.zero.isSome, i.size)) = some (true, 3) := by kernel_rfl
theorem infoVar2 : (Tryz.prog.info? 49).map (fun i => (i.zero.isSome, i.size)) = some (true, 3) := by kernel_rfl
theorem wpList_twoR {ty et : TypeId} {sz : Nat} (hsz : 0 < sz ∧ sz ≤ 100) (hinf : (Tryz.prog.info? et).map (fun i => (i.zero.isSome, i.size)) = some (true, sz)) (hund : Tryz.prog.underlying ty = some (.slice et)) {ops : Array Oper} {rest : List Oper} {o : Oper} {a : Act} {w : World} {Q : Exit → Act → World → Prop} (hgd : o.guard = none) (x y : Operand) (ho : o.op = .buildSlice ty 2 #[(0, x), (1, y)])
 (cs ds : Array Value) (hc : cs.size = sz) (hd : ds.size = sz) (hx : a.eval x = .agg cs) (hy : a.eval y = .agg ds)
 (h : ∀ w', RowAt w' w.heap.size et (cs ++ ds) → Below w.heap.size w w' → wpList Tryz.prog ops Q rest (a.put o.dst (.slice (some ⟨w.heap.size, 0, none⟩) 2 2)) w') : wpList Tryz.prog ops Q (o :: rest) a w := by
 refine wpList_plain hgd fun K hK => ?_
 cases hi : Tryz.prog.info? et with
 | none => have h0 := hinf; rw [hi] at h0; cases h0
 | some i =>
   have h2 := hinf
   rw [hi] at h2
   simp only [Option.map_some, Option.some.injEq, Prod.mk.injEq] at h2
   obtain ⟨z, hz⟩ := Option.isSome_iff_exists.1 h2.1
   have hs := h2.2
   refine wp_buildSlice ty et 2 _ ho (cs ++ ds) i z hund hi hz (by rw [hs]; omega) (by rw [hs]; omega) ?_ (hK _ _ (h _ (RowAt.new _ _ _) ((zB _ _).alloc (zL _) _)))
   rw [show (#[(0, x), (1, y)].map fun (p : Nat × Operand) => (p.1, a.eval p.2)).toList = ([Value.agg cs, Value.agg ds].zipIdx 0).map fun x => (x.2, x.1) by simp [hx, hy], hs]
   have := Great.fill_whole (s := sz) hsz.1 [Value.agg cs, Value.agg ds] ((Array.range (2 * sz)).map (z.cells[· % z.cells.size]!)) (by
    intro v hv
    rcases List.mem_cons.1 hv with rfl | hv
    ·exact hc
    ·rw [List.mem_singleton] at hv
     subst hv
     exact hd) (by simp)
   rw [this]
   simp [Value.cells]
end
section
open Go.RowKit RM
theorem qword_any (n : Int) (l : List Nat) (hl : RW l) (i : Int) (w : World) :
 Calls Tryz.prog 44 #[.agg (rv n l), .int .i64 i] w fun e w' => e = .returned (.int .u64 ((wordN n l i : Nat) : Int)) ∧ Below w.heap.size w w' := by
 have hr1 := RelAt.new w n l
 have hb : Below w.heap.size w (w.alloc (.cells (rv n l) 42)) := (zB _ _).alloc (zL _) _
 have HB := zh hb; clear hb
 have HPT : Hid (∀ w, Calls Tryz.prog 70 #[.agg (rv n l)] w fun e w' => e = .returned (.int .i64 ((pts n : Nat) : Int)) ∧ Below w.heap.size w w') := fun w => qpoints_any n l w
 have HHAS : Hid (∀ (k : Nat) w, Calls Tryz.prog 71 #[.agg (rv n l), .int .i64 (k : Int), .int .i64 i] w fun e w' => e = .returned (.bool (hasR n l k i)) ∧ Below w.heap.size w w') := fun k w => qhas_any n l hl k i w
 have hp := pts_le n
 have HSY : Hid (∀ k : Nat, k < pts n → hasR n l k i = true → MM.elsTo (wordN n l i) (k + 1) = MM.elsTo (wordN n l i) k ++ [k]) := fun k h1 h => elsTo_yes (by rw [wordN_bit, h]; simp [h1])
 have HSN : Hid (∀ k : Nat, k < pts n → hasR n l k i = false → MM.elsTo (wordN n l i) (k + 1) = MM.elsTo (wordN n l i) k) := fun k h1 h => elsTo_no (by rw [wordN_bit, h]; simp)
 have HSE : Hid (MM.elsTo (wordN n l i) (pts n) = MM.els (wordN n l i)) := elsTo_all hp fun t h1 _ => by rw [wordN_bit, show decide (t < pts n) = false by simp; omega]; rfl
 have HOE : Hid (MM.ofN (ei (MM.els (wordN n l i))) = wordN n l i) := ofN_ei (wordN_lt _ _ _)
 generalize wordN n l i = s at *
 generalize hasR n l = R at *
 generalize pts n = p at *
 go_enter Tryz.func44, Tryz.ntmps44
 go_wp2_with fail
 go_loopw [5, 6] (fun lv iv wr => ∃ (i k c : Nat) (A : Option Addr), i ≤ p ∧ iv = .int .i64 i ∧ lv = .slice A k c ∧ Hid (k = (MM.elsTo s i).length) ∧ k ≤ 64 ∧ Hid (OwnI wr w.heap.size A c (ei (MM.elsTo s i))) ∧ RelAt wr w.heap.size n l ∧ Hid (Below w.heap.size w wr)) (fun _ iv _ => p - (intOf iv).toNat)
 case atStart => exact ⟨0, 0, 0, none, by omega, rfl, rfl, rfl, by omega, World.ownsRow_nil _ _ _ _, hr1, HB⟩
 case round =>
  clear hr1 HB
  obtain ⟨j, k, c, A, hj, rfl, rfl, HK, hk, HO, rr, HB⟩ := hrel
  go_wp2_with (refine wpList_loadRel rfl _ rfl w.heap.size rfl _ l hl rr ?_)
  refine (HPT.out _).mono ?_
  rintro e w3 ⟨rfl, hb3⟩
  have s3 := rr.below hb3 rr.lt
  have HO3 : Hid (OwnI w3 w.heap.size A c (ei (MM.elsTo s j))) := own_below HO.out hb3 (zL _)
  have HB3 := zh (HB.out.trans (hb3.mono HB.out.size))
  clear rr HO HB hb3
  by_cases hlt : j < p
  ·go_wp2_with (refine wpList_loadRel rfl _ rfl w.heap.size rfl _ l hl s3 ?_)
   refine (HHAS.out j _).mono ?_
   rintro e w4 ⟨rfl, hb4⟩
   have s1 := s3.below hb4 s3.lt
   have HO4 : Hid (OwnI w4 w.heap.size A c (ei (MM.elsTo s j))) := own_below HO3.out hb4 (zL _)
   have HB4 := zh (HB3.out.trans (hb4.mono HB3.out.size))
   clear s3 HO3 HB3 hb4
   cases hbt : R (j : Int) i with
   | false =>
     have HP := zh (HSN.out j hlt hbt)
     clear hbt
     go_wp2_with fail
     go_roundw
     case rel => exact ⟨j + 1, k, c, A, by omega, by go_num, rfl, by rw [HP.out]; exact HK, hk, by rw [HP.out]; exact HO4, s1, HB4⟩
     case measure => simp [intOf]; omega
   | true =>
     have HP := zh (HSY.out j hlt hbt)
     have hlen := elsTo_le64 s (j + 1) (by omega)
     have HEV : Hid ((j : Int) = ((j : Nat) : Int)) := rfl
     clear hbt
     have hown' : w4.ownsRow w.heap.size 3 1 (.slice A k c) k (cells (ei (MM.elsTo s j))) := by
      have h4 := HO4.out
      unfold OwnI at h4
      rw [ei_length, ← HK.out] at h4
      exact h4
     have hbs := HB4.out.size
     have N1 := zh (own_block hown' s1 (by decide))
     have HLEN := zh hlen; clear hlen HO4
     go_wp2_with (at_builtin; refine wpList_more _ rfl _ _ 36 rfl 3 (.int .i64 0) 1 8 Tryz.underlying36 infoInt rfl (by decide) (by decide) w.heap.size A k c (cells (ei (MM.elsTo s j))) rfl (hown'.alloc _) w4.heap.size 1 1 [.int .i64 ((j : Int))] rfl rfl (by decide) (one_new _ _ _) ?c1 ?c2 ?c3 ?_; (case c1 => simp [Value.oneCell']); (case c2 => omega); (case c3 => simp; omega); intro A2 c2 w5 hown2 hb5 hgr; have HGR := zh hgr; clear hgr)
     have t1 := RelAt.grown (s1.alloc (.cells #[.int .i64 ((j : Int))] 3)) HGR.out N1.out
     have HB5 := zh ((HB4.out.alloc hbs (.cells #[.int .i64 ((j : Int))] 3)).trans hb5)
     have HK5 : Hid (k + 1 = (MM.elsTo s (j + 1)).length) := by rw [HP.out, zA7, ← HK.out]; exact rfl
     have hk5 : k + 1 ≤ 64 := by have := HLEN.out; rw [← HK5.out] at this; omega
     have HO5 : Hid (OwnI w5 w.heap.size A2 c2 (ei (MM.elsTo s (j + 1)))) := by
      show OwnI w5 w.heap.size A2 c2 (ei (MM.elsTo s (j + 1)))
      unfold OwnI
      rw [HP.out, ei_snoc, cells_snoc, zA7, ei_length, ← HK.out]
      exact hown2
     clear hown2 hb5 hown' hbs s1 HB4 N1 HLEN
     go_wp2_with fail
     go_roundw
     case rel => exact ⟨j + 1, k + 1, c2, A2, by omega, by go_num, rfl, HK5, hk5, HO5, t1, HB5⟩
     case measure => simp [intOf]; omega
  ·have e : j = p := by omega
   subst e
   rw [HSE.out] at HK HO3
   have hof := fun w h => refOf_any A c (ei (MM.els s)) w (by rw [ei_length, ← HK.out]; omega) h
   rw [ei_length, ← HK.out, HOE.out] at hof
   have HOFF := zh hof; clear hof
   have HI := zh HO3.out.ints
   go_wp2_with (go_at_call 72; refine (HOFF.out _ HI.out).mono ?_; rintro e w' ⟨rfl, rfl⟩)
   go_ret
   exact ⟨rfl, HB3.out⟩
theorem qpoint_any (n : Int) (l : List Nat) (hl : RW l) (v : Nat) (w : World) :
 Calls Tryz.prog 42 #[.agg (rv n l), .int .u64 (v : Int)] w fun e w' => e = .returned (optV (ptO n l v)) ∧ Below w.heap.size w w' := by
 have hr1 := RelAt.new w n l
 have hb : Below w.heap.size w (w.alloc (.cells (rv n l) 42)) := (zB _ _).alloc (zL _) _
 have HB := zh hb; clear hb
 have HPT : Hid (∀ w, Calls Tryz.prog 70 #[.agg (rv n l)] w fun e w' => e = .returned (.int .i64 ((pts n : Nat) : Int)) ∧ Below w.heap.size w w') := fun w => qpoints_any n l w
 have HWD : Hid (∀ (i : Nat) w, Calls Tryz.prog 44 #[.agg (rv n l), .int .i64 (i : Int)] w fun e w' => e = .returned (.int .u64 ((wordN n l i : Nat) : Int)) ∧ Below w.heap.size w w') := fun i w => qword_any n l hl i w
 have hp := pts_le n
 have HHIT : Hid (∀ k : Nat, k < pts n → (wordN n l k == v) = true → (∀ j : Nat, j < k → (wordN n l j == v) = false) → optV (ptO n l v) = .tuple #[.int .i64 (k : Int), .bool true]) := fun k h1 h2 h3 => by
  unfold ptO; rw [fnd_hit (P := ptT n l v) h1 h2 h3, optV_some]
 have HNO : Hid ((∀ j : Nat, j < pts n → (wordN n l j == v) = false) → optV (ptO n l v) = .tuple #[.int .i64 0, .bool false]) := fun h => by
  unfold ptO; rw [fnd_none (P := ptT n l v) h, optV_none]
 generalize optV (ptO n l v) = res at *
 generalize pts n = p at *
 go_enter Tryz.func42, Tryz.ntmps42
 go_wp2_with fail
 go_loopw [6] (fun kv wr => ∃ k : Nat, k ≤ p ∧ kv = .int .i64 k ∧ RelAt wr w.heap.size n l ∧ Hid (Below w.heap.size w wr) ∧ Hid (∀ j : Nat, j < k → (wordN n l j == v) = false)) (fun kv _ => p - (intOf kv).toNat)
 case atStart => exact ⟨0, by omega, rfl, hr1, HB, fun j hj => by omega⟩
 case round =>
  clear hr1 HB
  obtain ⟨k, hk, rfl, rr, HB, HK⟩ := hrel
  go_wp2_with (refine wpList_loadRel rfl _ rfl w.heap.size rfl _ l hl rr ?_)
  refine (HPT.out _).mono ?_
  rintro e w1 ⟨rfl, hb1⟩
  have r1 := rr.below hb1 rr.lt
  have HB1 := zh (HB.out.trans (hb1.mono HB.out.size)); clear hb1 rr HB
  by_cases hlt : k < p
  ·have HC := zh (HWD.out k)
   have HKN : Hid ((wordN n l k == v) = false → ∀ j : Nat, j < k + 1 → (wordN n l j == v) = false) := fun h j hj => by
        by_cases e : j = k
        ·subst e; exact h
        ·exact HK.out j (by omega)
   have HR : Hid ((wordN n l k == v) = true → res = .tuple #[.int .i64 (k : Int), .bool true]) := fun h => HHIT.out k hlt h HK.out
   have hxv : (((wordN n l k : Nat) : Int) == (v : Int)) = (wordN n l k == v) := by rw [Bool.eq_iff_iff]; simp; omega
   generalize wordN n l k = x at *
   go_wp2_with (refine wpList_loadRel rfl _ rfl w.heap.size rfl n l hl r1 ?_)
   refine (HC.out _).mono ?_
   rintro e w2 ⟨rfl, hb2⟩
   have r2 := r1.below hb2 r1.lt
   have HB2 := zh (HB1.out.trans (hb2.mono HB1.out.size)); clear hb2 r1 HB1
   cases ht : (x == v) with
   | false =>
     rw [ht] at hxv
     have HKN2 := zh (HKN.out ht); clear ht HR HKN
     go_wp2_with fail
     go_roundw
     case rel => exact ⟨k + 1, by omega, by go_num, r2, HB2, HKN2⟩
     case measure => simp [intOf]; omega
   | true =>
     rw [ht] at hxv
     have HR2 := zh (HR.out ht); clear ht HR HKN
     go_wp2_with fail
     go_ret2
     exact ⟨congrArg Ending.returned HR2.out.symm, HB2.out⟩
  ·have e : k = p := by omega
   subst e
   have HR := zh (HNO.out HK.out)
   go_wp2_with fail
   go_ret2
   exact ⟨congrArg Ending.returned HR.out.symm, HB1.out⟩
end
section
open Go.RowKit RM
def allT (R : Int → Int → Bool) (i j : Int) (u v : Nat) : Bool := (List.range v).all fun x => !(R i x && R j x) || R u x
theorem allT_next (R : Int → Int → Bool) (i j : Int) (u v : Nat) : allT R i j u (v + 1) = (allT R i j u v && (!(R i v && R j v) || R u v)) := by
 unfold allT
 rw [List.range_succ, List.all_append]
 simp
theorem qjoin_any (n : Int) (l : List Nat) (hl : RW l) (i j : Int) (w : World) :
 Calls Tryz.prog 43 #[.agg (rv n l), .int .i64 i, .int .i64 j] w fun e w' => e = .returned (optV (joinR n l i j)) ∧ Below w.heap.size w w' := by
 have hr1 := RelAt.new w n l
 have hb : Below w.heap.size w (w.alloc (.cells (rv n l) 42)) := (zB _ _).alloc (zL _) _
 have HB := zh hb; clear hb
 have HPT : Hid (∀ w, Calls Tryz.prog 70 #[.agg (rv n l)] w fun e w' => e = .returned (.int .i64 ((pts n : Nat) : Int)) ∧ Below w.heap.size w w') := fun w => qpoints_any n l w
 have HHAS : Hid (∀ (a b : Int) w, Calls Tryz.prog 71 #[.agg (rv n l), .int .i64 a, .int .i64 b] w fun e w' => e = .returned (.bool ((hasR n l) a b)) ∧ Below w.heap.size w w') := fun a b w => qhas_any n l hl a b w
 have HTT : Hid (∀ u : Nat, bndT (pts n) (hasR n l) i j u = ((hasR n l) i u && (hasR n l) j u && allT (hasR n l) i j u (pts n))) := fun _ => rfl
 have HHIT : Hid (∀ k : Nat, k < pts n → bndT (pts n) (hasR n l) i j k = true → (∀ a : Nat, a < k → bndT (pts n) (hasR n l) i j a = false) → optV (joinR n l i j) = .tuple #[.int .i64 (k : Int), .bool true]) := fun k h1 h2 h3 => by
  unfold joinR bndO; rw [fnd_hit h1 h2 h3, optV_some]
 have HNO : Hid ((∀ a : Nat, a < pts n → bndT (pts n) (hasR n l) i j a = false) → optV (joinR n l i j) = .tuple #[.int .i64 0, .bool false]) := fun h => by
  unfold joinR bndO; rw [fnd_none h, optV_none]
 have hp := pts_le n
 generalize optV (joinR n l i j) = res at *
 generalize bndT (pts n) (hasR n l) i j = T at *
 generalize (hasR n l) = R at *
 generalize pts n = p at *
 go_enter Tryz.func43, Tryz.ntmps43
 go_wp2_with fail
 go_loopw [8, 9, 10] (fun uv _ _ wr => ∃ u : Nat, u ≤ p ∧ uv = .int .i64 u ∧ RelAt wr w.heap.size n l ∧ Hid (Below w.heap.size w wr) ∧ Hid (∀ a, a < u → T a = false)) (fun uv _ _ _ => p - (intOf uv).toNat)
 case atStart => exact ⟨0, by omega, rfl, hr1, HB, fun a ha => by omega⟩
 case round =>
  clear hr1 HB
  obtain ⟨u, hu, rfl, rr, HB, HA⟩ := hrel
  go_wp2_with (refine wpList_loadRel rfl _ rfl w.heap.size rfl n l hl rr ?_)
  refine (HPT.out _).mono ?_
  rintro e w1 ⟨rfl, hb1⟩
  have r1 := rr.below hb1 rr.lt
  have HB1 := zh (HB.out.trans (hb1.mono HB.out.size)); clear hb1 rr HB
  by_cases hlt : u < p
  ·go_wp2_with (refine wpList_loadRel (by rfl) _ rfl w.heap.size rfl n l hl r1 ?_)
   refine (HHAS.out i (u : Int) _).mono ?_
   rintro e w2 ⟨rfl, hb⟩
   have r2 := r1.below hb r1.lt
   have HB2 := zh (HB1.out.trans (hb.mono HB1.out.size)); clear hb
   clear r1 HB1
   cases d1 : R i (u : Int) with
   | false =>
     go_wp2_with fail
     have HG : Hid (false = (R i u && R j u && allT R i j u 0)) := by show _ = _; rw [d1]; simp
     obtain ⟨wo, rfl⟩ : ∃ wo : World, wo = w2 := ⟨_, rfl⟩
     go_loopw [9, 10] (fun gv vv wr => ∃ (v : Nat) (q : Bool), v ≤ p ∧ gv = .bool q ∧ vv = .int .i64 v ∧ RelAt wr w.heap.size n l ∧ Hid (Below w.heap.size w wr) ∧ Hid (q = (R i u && R j u && allT R i j u v))) (fun _ vv _ => p - (intOf vv).toNat)
     case atStart => exact ⟨0, false, by omega, rfl, rfl, r2, HB2, HG⟩
     case round =>
      clear r2 HB2 HG
      obtain ⟨v, q, hv, rfl, rfl, rr, HB, HG⟩ := hrel
      go_wp2_with (refine wpList_loadRel rfl _ rfl w.heap.size rfl n l hl rr ?_)
      refine (HPT.out _).mono ?_
      rintro e v1 ⟨rfl, hb⟩
      have k1 := rr.below hb rr.lt
      have HK1 := zh (HB.out.trans (hb.mono HB.out.size)); clear hb rr HB
      by_cases hvp : v < p
      ·have HNX := zh (allT_next R i j u v)
       go_wp2_with (refine wpList_loadRel (by rfl) _ rfl w.heap.size rfl n l hl k1 ?_)
       refine (HHAS.out i (v : Int) _).mono ?_
       rintro e v2 ⟨rfl, hb⟩
       have k2 := k1.below hb k1.lt
       have HK2 := zh (HK1.out.trans (hb.mono HK1.out.size)); clear hb
       clear k1 HK1
       cases c1 : R i (v : Int) with
       | false =>
         have HG2 : Hid (q = (R i u && R j u && allT R i j u (v + 1))) := by show _ = _; rw [HNX.out, c1, HG.out]; simp
         clear c1
         go_wp2_with fail
         go_roundw
         case rel => exact ⟨v + 1, q, by omega, rfl, by go_num, k2, HK2, HG2⟩
         case measure => simp [intOf]; omega
       | true =>
         have C1 := zh c1; clear c1
         go_wp2_with (refine wpList_loadRel (by rfl) _ rfl w.heap.size rfl n l hl k2 ?_)
         refine (HHAS.out j (v : Int) _).mono ?_
         rintro e v3 ⟨rfl, hb⟩
         have k3 := k2.below hb k2.lt
         have HK3 := zh (HK2.out.trans (hb.mono HK2.out.size)); clear hb
         clear k2 HK2
         cases c2 : R j (v : Int) with
         | false =>
           have HG2 : Hid (q = (R i u && R j u && allT R i j u (v + 1))) := by show _ = _; rw [HNX.out, c2, HG.out]; simp
           clear c2
           go_wp2_with fail
           go_roundw
           case rel => exact ⟨v + 1, q, by omega, rfl, by go_num, k3, HK3, HG2⟩
           case measure => simp [intOf]; omega
         | true =>
           have C2 := zh c2; clear c2
           go_wp2_with (refine wpList_loadRel (by rfl) _ rfl w.heap.size rfl n l hl k3 ?_)
           refine (HHAS.out u (v : Int) _).mono ?_
           rintro e v4 ⟨rfl, hb⟩
           have k4 := k3.below hb k3.lt
           have HK4 := zh (HK3.out.trans (hb.mono HK3.out.size)); clear hb
           clear k3 HK3
           cases c3 : R u (v : Int) with
           | false =>
             have HG2 : Hid (false = (R i u && R j u && allT R i j u (v + 1))) := by show _ = _; rw [HNX.out, C1.out, C2.out, c3]; simp
             clear c3
             go_wp2_with fail
             go_roundw
             case rel => exact ⟨v + 1, false, by omega, rfl, by go_num, k4, HK4, HG2⟩
             case measure => simp [intOf]; omega
           | true =>
             have HG2 : Hid (q = (R i u && R j u && allT R i j u (v + 1))) := by show _ = _; rw [HNX.out, c3, HG.out]; simp
             clear c3
             go_wp2_with fail
             go_roundw
             case rel => exact ⟨v + 1, q, by omega, rfl, by go_num, k4, HK4, HG2⟩
             case measure => simp [intOf]; omega
      ·have e : v = p := by omega
       subst e
       cases q with
       | false =>
         have HA2 : Hid (∀ a, a < u + 1 → T a = false) := fun a ha => by
          by_cases h : a < u
          ·exact HA.out a h
          ·obtain rfl : a = u := by omega
           rw [HTT.out]; exact HG.out.symm
         go_wp2_with fail
         go_roundw
         case rel => exact ⟨u + 1, by omega, by go_num, k1, HK1, HA2⟩
         case measure => simp [intOf]; omega
       | true =>
         have HR := zh (HHIT.out u hlt ((HTT.out u).trans HG.out.symm) HA.out)
         go_wp2_with fail
         go_ret2
         exact ⟨congrArg Ending.returned HR.out.symm, HK1.out⟩
   | true =>
     have D1 := zh d1; clear d1
     go_wp2_with (refine wpList_loadRel (by rfl) _ rfl w.heap.size rfl n l hl r2 ?_)
     refine (HHAS.out j (u : Int) _).mono ?_
     rintro e w3 ⟨rfl, hb⟩
     have r3 := r2.below hb r2.lt
     have HB3 := zh (HB2.out.trans (hb.mono HB2.out.size)); clear hb
     clear r2 HB2
     obtain ⟨q0, d2⟩ : ∃ q0, R j (u : Int) = q0 := ⟨_, rfl⟩
     have D2 := zh d2; rw [d2]; clear d2
     go_wp2_with fail
     have HG : Hid (q0 = (R i u && R j u && allT R i j u 0)) := by show _ = _; rw [D1.out, D2.out]; simp [allT]
     obtain ⟨wo, rfl⟩ : ∃ wo : World, wo = w3 := ⟨_, rfl⟩
     go_loopw [9, 10] (fun gv vv wr => ∃ (v : Nat) (q : Bool), v ≤ p ∧ gv = .bool q ∧ vv = .int .i64 v ∧ RelAt wr w.heap.size n l ∧ Hid (Below w.heap.size w wr) ∧ Hid (q = (R i u && R j u && allT R i j u v))) (fun _ vv _ => p - (intOf vv).toNat)
     case atStart => exact ⟨0, q0, by omega, rfl, rfl, r3, HB3, HG⟩
     case round =>
      clear r3 HB3 HG
      obtain ⟨v, q, hv, rfl, rfl, rr, HB, HG⟩ := hrel
      go_wp2_with (refine wpList_loadRel rfl _ rfl w.heap.size rfl n l hl rr ?_)
      refine (HPT.out _).mono ?_
      rintro e v1 ⟨rfl, hb⟩
      have k1 := rr.below hb rr.lt
      have HK1 := zh (HB.out.trans (hb.mono HB.out.size)); clear hb rr HB
      by_cases hvp : v < p
      ·have HNX := zh (allT_next R i j u v)
       go_wp2_with (refine wpList_loadRel (by rfl) _ rfl w.heap.size rfl n l hl k1 ?_)
       refine (HHAS.out i (v : Int) _).mono ?_
       rintro e v2 ⟨rfl, hb⟩
       have k2 := k1.below hb k1.lt
       have HK2 := zh (HK1.out.trans (hb.mono HK1.out.size)); clear hb
       clear k1 HK1
       cases c1 : R i (v : Int) with
       | false =>
         have HG2 : Hid (q = (R i u && R j u && allT R i j u (v + 1))) := by show _ = _; rw [HNX.out, c1, HG.out]; simp
         clear c1
         go_wp2_with fail
         go_roundw
         case rel => exact ⟨v + 1, q, by omega, rfl, by go_num, k2, HK2, HG2⟩
         case measure => simp [intOf]; omega
       | true =>
         have C1 := zh c1; clear c1
         go_wp2_with (refine wpList_loadRel (by rfl) _ rfl w.heap.size rfl n l hl k2 ?_)
         refine (HHAS.out j (v : Int) _).mono ?_
         rintro e v3 ⟨rfl, hb⟩
         have k3 := k2.below hb k2.lt
         have HK3 := zh (HK2.out.trans (hb.mono HK2.out.size)); clear hb
         clear k2 HK2
         cases c2 : R j (v : Int) with
         | false =>
           have HG2 : Hid (q = (R i u && R j u && allT R i j u (v + 1))) := by show _ = _; rw [HNX.out, c2, HG.out]; simp
           clear c2
           go_wp2_with fail
           go_roundw
           case rel => exact ⟨v + 1, q, by omega, rfl, by go_num, k3, HK3, HG2⟩
           case measure => simp [intOf]; omega
         | true =>
           have C2 := zh c2; clear c2
           go_wp2_with (refine wpList_loadRel (by rfl) _ rfl w.heap.size rfl n l hl k3 ?_)
           refine (HHAS.out u (v : Int) _).mono ?_
           rintro e v4 ⟨rfl, hb⟩
           have k4 := k3.below hb k3.lt
           have HK4 := zh (HK3.out.trans (hb.mono HK3.out.size)); clear hb
           clear k3 HK3
           cases c3 : R u (v : Int) with
           | false =>
             have HG2 : Hid (false = (R i u && R j u && allT R i j u (v + 1))) := by show _ = _; rw [HNX.out, C1.out, C2.out, c3]; simp
             clear c3
             go_wp2_with fail
             go_roundw
             case rel => exact ⟨v + 1, false, by omega, rfl, by go_num, k4, HK4, HG2⟩
             case measure => simp [intOf]; omega
           | true =>
             have HG2 : Hid (q = (R i u && R j u && allT R i j u (v + 1))) := by show _ = _; rw [HNX.out, c3, HG.out]; simp
             clear c3
             go_wp2_with fail
             go_roundw
             case rel => exact ⟨v + 1, q, by omega, rfl, by go_num, k4, HK4, HG2⟩
             case measure => simp [intOf]; omega
      ·have e : v = p := by omega
       subst e
       cases q with
       | false =>
         have HA2 : Hid (∀ a, a < u + 1 → T a = false) := fun a ha => by
          by_cases h : a < u
          ·exact HA.out a h
          ·obtain rfl : a = u := by omega
           rw [HTT.out]; exact HG.out.symm
         go_wp2_with fail
         go_roundw
         case rel => exact ⟨u + 1, by omega, by go_num, k1, HK1, HA2⟩
         case measure => simp [intOf]; omega
       | true =>
         have HR := zh (HHIT.out u hlt ((HTT.out u).trans HG.out.symm) HA.out)
         go_wp2_with fail
         go_ret2
         exact ⟨congrArg Ending.returned HR.out.symm, HK1.out⟩
  ·have e : u = p := by omega
   subst e
   have HR := zh (HNO.out HA.out)
   go_wp2_with fail
   go_ret2
   exact ⟨congrArg Ending.returned HR.out.symm, HB1.out⟩
theorem qraise_any (n : Int) (l : List Nat) (hl : RW l) (a b : Nat) (ha : a < 18446744073709551616) (hb : b < 18446744073709551616) (w : World) :
 Calls Tryz.prog 29 #[.agg (rv n l), .int .u64 (a : Int), .int .u64 (b : Int)] w fun e w' => e = .returned (.int .u64 ((raiseN n l a b : Nat) : Int)) ∧ Below w.heap.size w w' := by
 have hr1 := RelAt.new w n l
 have hb0 : Below w.heap.size w (w.alloc (.cells (rv n l) 42)) := (zB _ _).alloc (zL _) _
 have HB := zh hb0; clear hb0
 obtain ⟨pa, ea⟩ : ∃ pa, pa = ptO n l a := ⟨_, rfl⟩
 obtain ⟨pb, eb⟩ : ∃ pb, pb = ptO n l b := ⟨_, rfl⟩
 obtain ⟨k, ek⟩ : ∃ k, k = joinR n l ((pa.getD 0 : Nat) : Int) ((pb.getD 0 : Nat) : Int) := ⟨_, rfl⟩
 have HPA : Hid (∀ w, Calls Tryz.prog 42 #[.agg (rv n l), .int .u64 (a : Int)] w fun e w' => e = .returned (optV pa) ∧ Below w.heap.size w w') := fun w => by rw [ea]; exact qpoint_any n l hl a w
 have HPB : Hid (∀ w, Calls Tryz.prog 42 #[.agg (rv n l), .int .u64 (b : Int)] w fun e w' => e = .returned (optV pb) ∧ Below w.heap.size w w') := fun w => by rw [eb]; exact qpoint_any n l hl b w
 have HJ : Hid (∀ w, Calls Tryz.prog 43 #[.agg (rv n l), .int .i64 ((pa.getD 0 : Nat) : Int), .int .i64 ((pb.getD 0 : Nat) : Int)] w fun e w' => e = .returned (optV k) ∧ Below w.heap.size w w') := fun w => by rw [ek]; exact qjoin_any n l hl _ _ w
 have HWD : Hid (∀ w, Calls Tryz.prog 44 #[.agg (rv n l), .int .i64 ((k.getD 0 : Nat) : Int)] w fun e w' => e = .returned (.int .u64 ((wordN n l ((k.getD 0 : Nat) : Int) : Nat) : Int)) ∧ Below w.heap.size w w') := fun w => qword_any n l hl _ w
 have HV : Hid (raiseN n l a b = if pa.isSome && pb.isSome && k.isSome then wordN n l ((k.getD 0 : Nat) : Int) else a ||| b) := by
  show raiseN n l a b = _
  unfold raiseN raiseF
  rw [← ea, ← eb, ← ek]
 have hor : bits BinOp.or IntKind.u64 (a : Int) (b : Int) = ((a ||| b : Nat) : Int) := u64_or_nat a b ha hb
 have HOR := zh hor; clear hor
 clear ea eb ek
 unfold optV at HPA HPB HJ
 generalize raiseN n l a b = res at *
 generalize wordN n l ((k.getD 0 : Nat) : Int) = wd at *
 generalize pa.getD 0 = x at *
 generalize pb.getD 0 = y at *
 generalize k.getD 0 = z at *
 generalize pa.isSome = b1 at *
 generalize pb.isSome = b2 at *
 generalize k.isSome = b3 at *
 go_enter Tryz.func29, Tryz.ntmps29
 go_wp2_with (refine wpList_loadRel rfl _ rfl w.heap.size rfl n l hl hr1 ?_)
 refine (HPA.out _).mono ?_
 rintro e w1 ⟨rfl, hb1⟩
 have r1 := hr1.below hb1 hr1.lt
 have HB1 := zh (HB.out.trans (hb1.mono HB.out.size)); clear hb1
 go_wp2_with (refine wpList_loadRel rfl _ rfl w.heap.size rfl n l hl r1 ?_)
 refine (HPB.out _).mono ?_
 rintro e w2 ⟨rfl, hb2⟩
 have r2 := r1.below hb2 r1.lt
 have HB2 := zh (HB1.out.trans (hb2.mono HB1.out.size)); clear hb2
 go_wp2_with (refine wpList_loadRel rfl _ rfl w.heap.size rfl n l hl r2 ?_)
 refine (HJ.out _).mono ?_
 rintro e w3 ⟨rfl, hb3⟩
 have r3 := r2.below hb3 r2.lt
 have HB3 := zh (HB2.out.trans (hb3.mono HB2.out.size)); clear hb3
 clear hr1 r1 r2 HB HB1 HB2 HPA HPB HJ
 cases b1 with
 | false =>
   go_wp2_with fail
   go_ret
   exact ⟨ret_eq (by rw [HV.out]; exact int_eq HOR.out), HB3.out⟩
 | true =>
   cases b2 with
   | false =>
     go_wp2_with fail
     go_ret
     exact ⟨ret_eq (by rw [HV.out]; exact int_eq HOR.out), HB3.out⟩
   | true =>
     cases b3 with
     | false =>
       go_wp2_with fail
       go_ret
       exact ⟨ret_eq (by rw [HV.out]; exact int_eq HOR.out), HB3.out⟩
     | true =>
       go_wp2_with (refine wpList_loadRel rfl _ rfl w.heap.size rfl n l hl r3 ?_)
       refine (HWD.out _).mono ?_
       rintro e w4 ⟨rfl, hb4⟩
       have HB4 := zh (HB3.out.trans (hb4.mono HB3.out.size)); clear hb4
       go_wp2_with fail
       go_ret
       exact ⟨ret_eq (by rw [HV.out]; rfl), HB4.out⟩
end
section
open Go.RowKit RM
end
section
open Go.RowKit RM
theorem set_at_self {l : List Nat} (h : EW l) (k x : Nat) (hk : k < 8) : (uv (l.set k x))[k]? = some (.int .u64 (x : Int)) := by
 have h1 := h.1
 simp [uv, h1, hk]
theorem qmeet8_any (a b : List Nat) (ha : EW a) (hb : EW b) (w : World) :
 Calls Tryz.prog 20 #[.agg (uv a), .agg (uv b)] w fun x w' => x = .returned (.agg (uv (meetE a b))) ∧ Below w.heap.size w w' := by
 have z8 := EW.zeros
 obtain ⟨r0, q0, p0, s0, hb0⟩ := four_rows w (uv a) (uv b) (uv (List.replicate 8 0)) (uv (List.replicate 8 0)) 31 31 31 31
 have HB0 := zh hb0; clear hb0
 have HA : Hid (∀ k, k < 8 → (uv a)[k]? = some (.int .u64 ((a.getD k 0 : Nat) : Int))) := fun k hk => ev_at ha k hk
 have HC : Hid (∀ k, k < 8 → (uv b)[k]? = some (.int .u64 ((b.getD k 0 : Nat) : Int))) := fun k hk => ev_at hb k hk
 have HLA := zh ha.lt
 have HLB := zh hb.lt
 have hG : meetE a b = sdTo (fun i => a.getD i 0 &&& b.getD i 0) 8 8 := (sdTo_end (fun i => a.getD i 0 &&& b.getD i 0) 8).symm
 rw [hG]
 have HEW : Hid (∀ k, EW (sdTo (fun i => a.getD i 0 &&& b.getD i 0) 8 k)) := sdTo_ew fun i => and_lt _ (ha.lt i)
 have HZ : Hid (sdTo (fun i => a.getD i 0 &&& b.getD i 0) 8 0 = List.replicate 8 0) := sdTo_zero _ 8
 have HNX : Hid (∀ k, (uv (sdTo (fun i => a.getD i 0 &&& b.getD i 0) 8 k)).setIfInBounds k (.int .u64 ((a.getD k 0 &&& b.getD k 0 : Nat) : Int)) = uv (sdTo (fun i => a.getD i 0 &&& b.getD i 0) 8 (k + 1))) := fun k => by rw [uv_set, ← sdTo_set]
 clear ha hb hG
 generalize sdTo (fun i => a.getD i 0 &&& b.getD i 0) 8 = G at *
 generalize uv a = U at *
 generalize uv b = V2 at *
 rw [← zero_elem] at r0 q0 p0 s0 HB0
 go_enter Tryz.func20, Tryz.ntmps20
 go_upto_region 2 with fail
 rw [zero_elem] at r0 q0 p0 s0 HB0 ⊢
 generalize (((w.alloc (.cells U 31)).alloc (.cells V2 31)).alloc (.cells (uv (List.replicate 8 0)) 31)).alloc (.cells (uv (List.replicate 8 0)) 31) = w0 at *
 have n1 : w.heap.size ≠ w.heap.size + 3 := by omega
 have n2 : w.heap.size + 1 ≠ w.heap.size + 3 := by omega
 have n3 : w.heap.size + 2 ≠ w.heap.size + 3 := by omega
 have n4 : w.heap.size ≤ w.heap.size + 3 := by omega
 have n5 : w.heap.size ≤ w.heap.size + 2 := by omega
 rw [← HZ.out] at s0
 generalize hgE : w.heap.size + 3 = gE at *
 generalize hgR : w.heap.size + 2 = gR at *
 rw [← HZ.out] at p0
 rw [HZ.out] at p0
 go_wp2_with fail
 go_loopw [6] (fun kv wr => ∃ k : Nat, k ≤ 8 ∧ kv = .int .i64 k ∧ RowAt wr w.heap.size 31 U ∧ RowAt wr (w.heap.size + 1) 31 V2 ∧ RowAt wr gR 31 (uv (List.replicate 8 0)) ∧ RowAt wr gE 31 (uv (G k)) ∧ Hid (Below w.heap.size w wr)) (fun kv _ => 8 - (intOf kv).toNat)
 case atStart => exact ⟨0, by omega, rfl, r0, q0, p0, s0, HB0⟩
 case round =>
  clear r0 q0 p0 s0 HB0
  obtain ⟨k, hk, rfl, r1, q1, p1, s1, HB1⟩ := hrel
  by_cases hlt : k < 8
  ·have hk8 : (k : Int) < 8 := by omega
   have hxa := HA.out k hlt
   have hxb := HC.out k hlt
   have hor := u64_and_nat (a.getD k 0) (b.getD k 0) (HLA.out k) (HLB.out k)
   have hce0 := ev_at (HEW.out k) k hlt
   have hnx := HNX.out k
   generalize (G k).getD k 0 = x0 at *
   generalize a.getD k 0 &&& b.getD k 0 = z at *
   generalize a.getD k 0 = x at *
   generalize b.getD k 0 = y at *
   have HNX2 := zh hnx; clear hnx
   obtain ⟨S, HS, pM, keepS, SI⟩ := ex_mut gE wr
   have PM := zh pM
   have PR : Hid (∀ w', S w' → RowAt w' w.heap.size 31 U) := fun w' h => r1.mut (pM w' h) n1
   have PQ : Hid (∀ w', S w' → RowAt w' (w.heap.size + 1) 31 V2) := fun w' h => q1.mut (pM w' h) n2
   have PP : Hid (∀ w', S w' → RowAt w' gR 31 (uv (List.replicate 8 0))) := fun w' h => p1.mut (pM w' h) n3
   have cA : ∀ w', S w' → w'.cell? ⟨w.heap.size, k, none⟩ = some (.int .u64 (x : Int)) := fun w' h => ((PR.out w' h).cell k).trans hxa
   have cB : ∀ w', S w' → w'.cell? ⟨w.heap.size + 1, k, none⟩ = some (.int .u64 (y : Int)) := fun w' h => ((PQ.out w' h).cell k).trans hxb
   have PB : Hid (∀ w', S w' → Below w.heap.size w w') := fun w' h => HB1.out.trans ((pM w' h).below n4 HB1.out.size)
   have s2 := s1.drew
   have hce := (s2.cell k).trans hce0
   have hfe := s2.free k
   have HCF := zh (And.intro hce hfe)
   clear pM r1 q1 p1 s1 HB1 hxa hxb hce0 hce hfe
   go_wp2_with fail
   refine wp_region_ord S [(0, true), (1, true), (2, true), (3, true), (4, true), (5, true), (6, true), (7, true), (8, true), (9, false)] (by kernel_rfl) (by kernel_rfl) rfl (by kernel_rfl) HS.out ?_
   generalize wr.drew = V at HS s2 HCF ⊢
   iterate 9
        (refine wpOrd_step (zO rfl) ?_)
        (first
         | (refine wpOrd_skip (by rfl) ?_)
         | (refine wpOrd_take (v := ?_) (by rfl) ?_ ?_; rotate_left 1; (intro wx hSx; have hc_0 := cA wx hSx; have hc_1 := cB wx hSx; go_simp; try with_reducible rfl)))
        (try simp only [Act.put, zA4, zA5, zA6])
   obtain ⟨hce, hfe⟩ := HCF.out
   (refine wpOrd_solo (zO rfl) ?_)
   intro K hK
   go_simp
   have HM5 := zh ((PM.out _ HS.out).trans (Mut.of_set V gE k (.int .u64 ((z : Nat) : Int))))
   have p5 := s2.put k (.int .u64 ((z : Nat) : Int))
   rw [HNX2.out] at p5
   refine hK.out _ _ (SI.out _ HM5.out) ?_
   clear hK K
   (try simp only [Act.put, zA4, zA5, zA6])
   refine wpOrd_done ?_
   have HB5 := zh (PB.out _ (SI.out _ HM5.out))
   have r5 := PR.out _ (SI.out _ HM5.out)
   have q5 := PQ.out _ (SI.out _ HM5.out)
   have p6 := PP.out _ (SI.out _ HM5.out)
   clear PR PQ PP PM cA cB PB HS keepS SI HM5 hce hfe HCF hor s2
   go_wp2_with fail
   go_roundw
   case rel => exact ⟨k + 1, by omega, by go_num, r5, q5, p6, p5, HB5⟩
   case measure => simp [intOf]; omega
  ·have e1 : k = 8 := by omega
   subst e1
   have hew := HEW.out 8
   go_wp2_with (first | (refine wpList_loadElem (by rfl) _ rfl gE rfl _ hew s1 ?_) | (refine wpList_storeElem (by rfl) _ _ rfl gR rfl _ hew rfl _ z8 p1 ?_; intro w7 q7 he))
   exact bodyPost_ret (ret_elem rfl _ _ gR _ hew rfl q7) rfl ⟨rfl, HB1.out.trans (he.below n5)⟩
theorem qjoin8_any (t : Bool) (A : Option Addr) (c : Nat) (fs : List Fac) (a b : List Nat) (ha : EW a) (hb : EW b) (w : World) (hF : Facs w A fs) :
 Calls Tryz.prog 19 #[.agg (sv t A fs.length c), .agg (uv a), .agg (uv b)] w fun x w' => x = .returned (.agg (uv (joinE fs a b))) ∧ Below w.heap.size w w' := by
 have z8 := EW.zeros
 have HT : Hid True := trivial
 obtain ⟨r0, q0, t0, p0, s0, hb0⟩ := five_rows w (sv t A fs.length c) (uv a) (uv b) (uv (List.replicate 8 0)) (uv (List.replicate 8 0)) 24 31 31 31 31
 have HB0 := zh hb0; clear hb0
 have HA : Hid (∀ k, k < 8 → (uv a)[k]? = some (.int .u64 ((a.getD k 0 : Nat) : Int))) := fun k hk => ev_at ha k hk
 have HC : Hid (∀ k, k < 8 → (uv b)[k]? = some (.int .u64 ((b.getD k 0 : Nat) : Int))) := fun k hk => ev_at hb k hk
 have HLA := zh ha.lt
 have HLB := zh hb.lt
 have HS1 : Hid (∀ W, RowAt W w.heap.size 24 (sv t A fs.length c) → W.cell? ⟨w.heap.size, 0, none⟩ = some (.bool t) ∧ W.cell? ⟨w.heap.size, 1, none⟩ = some (.slice A fs.length c)) := fun W h => shape_cells h
 have HF : Hid (∀ W, Below w.heap.size w W → Facs W A fs) := fun W h => hF.below h
 have hG : joinE fs a b = sdTo (fun i => joinS fs i (a.getD i 0) (b.getD i 0)) 8 8 := (sdTo_end (fun i => joinS fs i (a.getD i 0) (b.getD i 0)) 8).symm
 rw [hG]
 have HEW : Hid (∀ k, EW (sdTo (fun i => joinS fs i (a.getD i 0) (b.getD i 0)) 8 k)) := sdTo_ew fun i => joinS_lt fs i (ha.lt i) (hb.lt i)
 have HZ : Hid (sdTo (fun i => joinS fs i (a.getD i 0) (b.getD i 0)) 8 0 = List.replicate 8 0) := sdTo_zero _ 8
 have HNX : Hid (∀ k, (uv (sdTo (fun i => joinS fs i (a.getD i 0) (b.getD i 0)) 8 k)).setIfInBounds k (.int .u64 ((joinS fs k (a.getD k 0) (b.getD k 0) : Nat) : Int)) = uv (sdTo (fun i => joinS fs i (a.getD i 0) (b.getD i 0)) 8 (k + 1))) := fun k => by rw [uv_set, ← sdTo_set]
 clear ha hb hG hF
 generalize sdTo (fun i => joinS fs i (a.getD i 0) (b.getD i 0)) 8 = G at *
 generalize hn : fs.length = n at *
 have HN := zh hn; clear hn
 generalize uv a = U at *
 generalize uv b = V2 at *
 generalize sv t A n c = V at *
 rw [← zero_elem] at r0 q0 t0 p0 s0 HB0
 go_enter Tryz.func19, Tryz.ntmps19
 go_upto_region 2 with fail
 rw [zero_elem] at r0 q0 t0 p0 s0 HB0 ⊢
 generalize ((((w.alloc (.cells V 24)).alloc (.cells U 31)).alloc (.cells V2 31)).alloc (.cells (uv (List.replicate 8 0)) 31)).alloc (.cells (uv (List.replicate 8 0)) 31) = w0 at *
 have n1 : w.heap.size ≠ w.heap.size + 4 := by omega
 have n2 : w.heap.size + 1 ≠ w.heap.size + 4 := by omega
 have n3 : w.heap.size + 2 ≠ w.heap.size + 4 := by omega
 have n4 : w.heap.size ≤ w.heap.size + 4 := by omega
 have n5 : w.heap.size + 3 ≠ w.heap.size + 4 := by omega
 have n6 : w.heap.size ≤ w.heap.size + 3 := by omega
 generalize hgE : w.heap.size + 4 = gE at *
 generalize hgR : w.heap.size + 3 = gR at *
 rw [← HZ.out] at s0
 go_wp2_with fail
 go_loopw [8] (fun kv wr => ∃ k : Nat, k ≤ 8 ∧ kv = .int .i64 k ∧ RowAt wr w.heap.size 24 V ∧ RowAt wr (w.heap.size + 1) 31 U ∧ RowAt wr (w.heap.size + 2) 31 V2 ∧ RowAt wr gR 31 (uv (List.replicate 8 0)) ∧ RowAt wr gE 31 (uv (G k)) ∧ Hid (Below w.heap.size w wr)) (fun kv _ => 8 - (intOf kv).toNat)
 case atStart => exact ⟨0, by omega, rfl, r0, q0, t0, p0, s0, HB0⟩
 case round =>
  clear r0 q0 t0 p0 s0 HB0
  obtain ⟨k, hk, rfl, r1, q1, t1, p1, s1, HB1⟩ := hrel
  by_cases h8 : k < 8
  ·have hk8 : (k : Int) < 8 := by omega
   have HXA := zh (HA.out k h8)
   have HXB := zh (HC.out k h8)
   have hx := HLA.out k
   have hy := HLB.out k
   have hor := u64_or_nat (a.getD k 0) (b.getD k 0) hx hy
   have hce0 := ev_at (HEW.out k) k h8
   have HCE0 := zh hce0; clear hce0
   have hnx := HNX.out k
   generalize (G k).getD k 0 = x0 at *
   generalize a.getD k 0 = x at *
   generalize b.getD k 0 = y at *
   obtain ⟨c0, c1⟩ := HS1.out _ r1
   by_cases hlt : k < n
   ·have hFk := HF.out _ HB1.out
    obtain ⟨b, o, rfl, _, hr⟩ := hFk.at (k := k) (by rw [HN.out]; exact hlt)
    have hrg := hr k (by rw [HN.out]; exact hlt)
    have hck := fac_kind hrg
    have hl := (hFk.okAt (i := k) (by rw [HN.out]; exact hlt)).rows
    have HRG : Hid (∀ W, Below w.heap.size w W → W.rangeAt b (o + k * 67 + 2) (rvl (fs.getD k f0).n (fs.getD k f0).l)) := fun W h => fac_rel ((HF.out W h).rng (by rw [HN.out]; exact hlt))
    rw [joinS_in (by rw [HN.out]; exact hlt)] at hnx
    have HRK : Hid (∀ W, Below w.heap.size w W → W.cell? ⟨b, o + k * 67, none⟩ = some (.int .i64 (fs.getD k f0).kind)) := fun W h => fac_kind ((HF.out W h).rng (by rw [HN.out]; exact hlt))
    clear hr hFk hrg hck c0 c1
    by_cases e4 : (fs.getD k f0).kind = 4
    ·have hJ : joinW (fs.getD k f0) x y = raiseN (fs.getD k f0).n (fs.getD k f0).l x y := by unfold joinW; rw [if_pos e4]
     have HRS : Hid (∀ W, Calls Tryz.prog 29 #[.agg (rv (fs.getD k f0).n (fs.getD k f0).l), .int .u64 (x : Int), .int .u64 (y : Int)] W fun e w' => e = .returned (.int .u64 ((raiseN (fs.getD k f0).n (fs.getD k f0).l x y : Nat) : Int)) ∧ Below W.heap.size W w') := fun W => qraise_any _ _ hl x y hx hy W
     rw [hJ] at hnx
     clear hJ
     have HNX2 := zh hnx; clear hnx hx hy
     generalize raiseN (fs.getD k f0).n (fs.getD k f0).l x y = z at *
     generalize (fs.getD k f0).n = nf at *
     generalize (fs.getD k f0).l = lf at *
     generalize (fs.getD k f0).kind = kd at *
     have HNX3 : Hid ((uv ((G k).set k (x ||| y))).setIfInBounds k (.int .u64 (z : Int)) = uv (G (k + 1))) := by
      show (uv ((G k).set k (x ||| y))).setIfInBounds k (.int .u64 (z : Int)) = uv (G (k + 1))
      rw [uv_set, List.set_set, ← uv_set]
      exact HNX2.out
     have hce1 := set_at_self (HEW.out k) k (x ||| y) h8
     have HCE1 := zh hce1; clear hce1 HNX2
     have HNX2 : Hid ((uv (G k)).setIfInBounds k (.int .u64 ((x ||| y : Nat) : Int)) = uv ((G k).set k (x ||| y))) := uv_set _ _ _
     generalize (G k).set k (x ||| y) = L1 at *
     generalize x ||| y = zo at *
     obtain ⟨S, HS, pM, keepS, SI⟩ := ex_mut gE wr
     have PM := zh pM
     have PR : Hid (∀ w', S w' → RowAt w' w.heap.size 24 V) := fun w' h => r1.mut (pM w' h) n1
     have PQ : Hid (∀ w', S w' → RowAt w' (w.heap.size + 1) 31 U) := fun w' h => q1.mut (pM w' h) n2
     have PT : Hid (∀ w', S w' → RowAt w' (w.heap.size + 2) 31 V2) := fun w' h => t1.mut (pM w' h) n3
     have PP : Hid (∀ w', S w' → RowAt w' gR 31 (uv (List.replicate 8 0))) := fun w' h => p1.mut (pM w' h) n5
     have cS : ∀ w', S w' → w'.cell? ⟨w.heap.size, 1, none⟩ = some (.slice (some ⟨b, o, none⟩) n c) := fun w' h => (HS1.out _ (PR.out w' h)).2
     have cA : ∀ w', S w' → w'.cell? ⟨w.heap.size + 1, k, none⟩ = some (.int .u64 (x : Int)) := fun w' h => ((PQ.out w' h).cell k).trans HXA.out
     have cB : ∀ w', S w' → w'.cell? ⟨w.heap.size + 2, k, none⟩ = some (.int .u64 (y : Int)) := fun w' h => ((PT.out w' h).cell k).trans HXB.out
     have PB : Hid (∀ w', S w' → Below w.heap.size w w') := fun w' h => HB1.out.trans ((pM w' h).below n4 HB1.out.size)
     have s2 := s1.drew
     clear pM r1 q1 t1 p1 s1 HB1
     have hce := (s2.cell k).trans HCE0.out
     have hfe := s2.free k
     have HCF := zh (And.intro hce hfe)
     clear hce hfe
     go_wp2_with fail
     refine wp_region_ord S [(0, true), (1, true), (2, true), (3, true), (4, true), (5, true), (6, true), (7, true), (8, true), (9, false)] (by kernel_rfl) (by kernel_rfl) rfl (by kernel_rfl) HS.out ?_
     generalize wr.drew = VV at HS s2 HCF ⊢
     iterate 9
      (refine wpOrd_step (zO rfl) ?_)
      (first
       | (refine wpOrd_skip (by rfl) ?_)
       | (refine wpOrd_take (v := ?_) (by rfl) ?_ ?_; rotate_left 1; (intro wx hSx; have hc_0 := cA wx hSx; have hc_1 := cB wx hSx; go_simp; try with_reducible rfl)))
      (try simp only [Act.put, zA4, zA5, zA6])
     obtain ⟨hce, hfe⟩ := HCF.out
     (refine wpOrd_solo (zO rfl) ?_)
     intro K hK
     go_simp
     have HM5 := zh ((PM.out _ HS.out).trans (Mut.of_set VV gE k (.int .u64 ((zo : Nat) : Int))))
     have p5 := s2.put k (.int .u64 ((zo : Nat) : Int))
     rw [HNX2.out] at p5
     refine hK.out _ _ (SI.out _ HM5.out) ?_
     clear hK K
     (try simp only [Act.put, zA4, zA5, zA6])
     refine wpOrd_done ?_
     have HB5 := zh (PB.out _ (SI.out _ HM5.out))
     have r5 := PR.out _ (SI.out _ HM5.out)
     have q5 := PQ.out _ (SI.out _ HM5.out)
     have t5 := PT.out _ (SI.out _ HM5.out)
     have p6 := PP.out _ (SI.out _ HM5.out)
     clear PR PQ PT PP PM cS cA cB PB HS keepS SI HM5 hce hfe
     clear HCF s2
     generalize VV.setCell ⟨gE, k, none⟩ (.int .u64 ((zo : Nat) : Int)) = wq at *
     clear HNX2 HCE0
     have HNX2 := HNX3
     clear HNX3
     have hck5 := HRK.out _ HB5.out
     obtain ⟨d0, d1⟩ := HS1.out _ r5
     go_wp2_with fail
     clear d0 d1 hck5
     have r1 := r5; have q1 := q5; have t1 := t5; have p1 := p6; have s1 := p5; have HB1 := HB5
     clear r5 q5 t5 p6 p5 HB5
     obtain ⟨S, HS, pM, keepS, SI⟩ := ex_mut gE wq
     have PM := zh pM
     have PR : Hid (∀ w', S w' → RowAt w' w.heap.size 24 V) := fun w' h => r1.mut (pM w' h) n1
     have PQ : Hid (∀ w', S w' → RowAt w' (w.heap.size + 1) 31 U) := fun w' h => q1.mut (pM w' h) n2
     have PT : Hid (∀ w', S w' → RowAt w' (w.heap.size + 2) 31 V2) := fun w' h => t1.mut (pM w' h) n3
     have PP : Hid (∀ w', S w' → RowAt w' gR 31 (uv (List.replicate 8 0))) := fun w' h => p1.mut (pM w' h) n5
     have cS : ∀ w', S w' → w'.cell? ⟨w.heap.size, 1, none⟩ = some (.slice (some ⟨b, o, none⟩) n c) := fun w' h => (HS1.out _ (PR.out w' h)).2
     have cA : ∀ w', S w' → w'.cell? ⟨w.heap.size + 1, k, none⟩ = some (.int .u64 (x : Int)) := fun w' h => ((PQ.out w' h).cell k).trans HXA.out
     have cB : ∀ w', S w' → w'.cell? ⟨w.heap.size + 2, k, none⟩ = some (.int .u64 (y : Int)) := fun w' h => ((PT.out w' h).cell k).trans HXB.out
     have PB : Hid (∀ w', S w' → Below w.heap.size w w') := fun w' h => HB1.out.trans ((pM w' h).below n4 HB1.out.size)
     have s2 := s1.drew
     clear pM r1 q1 t1 p1 s1 HB1
     have pR : ∀ w', S w' → w'.rangeAt b (o + k * 67 + 2) (rvl nf lf) := fun w' h => HRG.out w' (PB.out w' h)
     refine wp_region_ord S [(0, true), (1, true), (2, true), (3, true), (4, true), (5, true), (6, true), (7, true), (8, true), (9, true), (10, true), (11, true), (12, true), (13, false), (14, true), (15, false)] (by kernel_rfl) (by kernel_rfl) rfl (by kernel_rfl) HS.out ?_
     generalize wq.drew = VV at HS s2 ⊢
     iterate 13
      (refine wpOrd_step (zO rfl) ?_)
      (first
       | (refine wpOrd_skip (by rfl) ?_)
       | (refine wpOrd_take (by rfl) (take_loadRelIn _ rfl _ _ rfl _ _ hl pR) ?_)
       | (refine wpOrd_take (v := ?_) (by rfl) ?_ ?_; rotate_left 1; (intro wx hSx; have hc_0 := cS wx hSx; have hc_1 := cA wx hSx; have hc_2 := cB wx hSx; go_simp; try with_reducible rfl)))
      (try simp only [Act.put, zA4, zA5, zA6])
     (refine wpOrd_solo (zO rfl) ?_)
     intro K hK
     go_simp
     go_at_call 29
     refine (HRS.out _).mono ?_
     rintro e w4 ⟨rfl, hb⟩; have s4 := s2.below hb s2.lt; clear s2
     have hS := keepS _ _ HS.out hb
     clear HS
     have HS := zh hS; clear hS hb
     refine hK.out _ _ HS.out ?_
     clear hK K
     (try simp only [Act.put, zA4, zA5, zA6])
     iterate 1
      (refine wpOrd_step (zO rfl) ?_)
      (first
       | (refine wpOrd_skip (by rfl) ?_)
       | (refine wpOrd_take (v := ?_) (by rfl) ?_ ?_; rotate_left 1; (intro wx hSx; go_simp; try with_reducible rfl)))
      (try simp only [Act.put, zA4, zA5, zA6])
     have hce := (s4.cell k).trans HCE1.out
     have hfe := s4.free k
     (refine wpOrd_solo (zO rfl) ?_)
     intro K hK
     go_simp
     have HM5 := zh ((PM.out _ HS.out).trans (Mut.of_set w4 gE k (.int .u64 ((z : Nat) : Int))))
     have p5 := s4.put k (.int .u64 ((z : Nat) : Int))
     rw [HNX2.out] at p5
     refine hK.out _ _ (SI.out _ HM5.out) ?_
     clear hK K
     (try simp only [Act.put, zA4, zA5, zA6])
     refine wpOrd_done ?_
     have HB5 := zh (PB.out _ (SI.out _ HM5.out))
     have r5 := PR.out _ (SI.out _ HM5.out)
     have q5 := PQ.out _ (SI.out _ HM5.out)
     have t5 := PT.out _ (SI.out _ HM5.out)
     have p6 := PP.out _ (SI.out _ HM5.out)
     clear PR PQ PT PP PM cS cA cB PB HS keepS SI HM5 hce hfe
     clear pR s4
     go_wp2_with fail
     go_roundw
     case rel => exact ⟨k + 1, by omega, by go_num, r5, q5, t5, p6, p5, HB5⟩
     case measure => simp [intOf]; omega
    ·have hJ : joinW (fs.getD k f0) x y = x ||| y := by unfold joinW; rw [if_neg e4]
     rw [hJ] at hnx
     clear hJ
     have HNX2 := zh hnx; clear hnx hx hy HRG hl
     generalize x ||| y = zo at *
     generalize (fs.getD k f0).kind = kd at *
     obtain ⟨S, HS, pM, keepS, SI⟩ := ex_mut gE wr
     have PM := zh pM
     have PR : Hid (∀ w', S w' → RowAt w' w.heap.size 24 V) := fun w' h => r1.mut (pM w' h) n1
     have PQ : Hid (∀ w', S w' → RowAt w' (w.heap.size + 1) 31 U) := fun w' h => q1.mut (pM w' h) n2
     have PT : Hid (∀ w', S w' → RowAt w' (w.heap.size + 2) 31 V2) := fun w' h => t1.mut (pM w' h) n3
     have PP : Hid (∀ w', S w' → RowAt w' gR 31 (uv (List.replicate 8 0))) := fun w' h => p1.mut (pM w' h) n5
     have cS : ∀ w', S w' → w'.cell? ⟨w.heap.size, 1, none⟩ = some (.slice (some ⟨b, o, none⟩) n c) := fun w' h => (HS1.out _ (PR.out w' h)).2
     have cA : ∀ w', S w' → w'.cell? ⟨w.heap.size + 1, k, none⟩ = some (.int .u64 (x : Int)) := fun w' h => ((PQ.out w' h).cell k).trans HXA.out
     have cB : ∀ w', S w' → w'.cell? ⟨w.heap.size + 2, k, none⟩ = some (.int .u64 (y : Int)) := fun w' h => ((PT.out w' h).cell k).trans HXB.out
     have PB : Hid (∀ w', S w' → Below w.heap.size w w') := fun w' h => HB1.out.trans ((pM w' h).below n4 HB1.out.size)
     have s2 := s1.drew
     clear pM r1 q1 t1 p1 s1 HB1
     have hce := (s2.cell k).trans HCE0.out
     have hfe := s2.free k
     have HCF := zh (And.intro hce hfe)
     clear hce hfe
     go_wp2_with fail
     refine wp_region_ord S [(0, true), (1, true), (2, true), (3, true), (4, true), (5, true), (6, true), (7, true), (8, true), (9, false)] (by kernel_rfl) (by kernel_rfl) rfl (by kernel_rfl) HS.out ?_
     generalize wr.drew = VV at HS s2 HCF ⊢
     iterate 9
      (refine wpOrd_step (zO rfl) ?_)
      (first
       | (refine wpOrd_skip (by rfl) ?_)
       | (refine wpOrd_take (v := ?_) (by rfl) ?_ ?_; rotate_left 1; (intro wx hSx; have hc_0 := cA wx hSx; have hc_1 := cB wx hSx; go_simp; try with_reducible rfl)))
      (try simp only [Act.put, zA4, zA5, zA6])
     obtain ⟨hce, hfe⟩ := HCF.out
     (refine wpOrd_solo (zO rfl) ?_)
     intro K hK
     go_simp
     have HM5 := zh ((PM.out _ HS.out).trans (Mut.of_set VV gE k (.int .u64 ((zo : Nat) : Int))))
     have p5 := s2.put k (.int .u64 ((zo : Nat) : Int))
     rw [HNX2.out] at p5
     refine hK.out _ _ (SI.out _ HM5.out) ?_
     clear hK K
     (try simp only [Act.put, zA4, zA5, zA6])
     refine wpOrd_done ?_
     have HB5 := zh (PB.out _ (SI.out _ HM5.out))
     have r5 := PR.out _ (SI.out _ HM5.out)
     have q5 := PQ.out _ (SI.out _ HM5.out)
     have t5 := PT.out _ (SI.out _ HM5.out)
     have p6 := PP.out _ (SI.out _ HM5.out)
     clear PR PQ PT PP PM cS cA cB PB HS keepS SI HM5 hce hfe
     clear HCF s2
     generalize VV.setCell ⟨gE, k, none⟩ (.int .u64 ((zo : Nat) : Int)) = wq at *
     have hck5 := HRK.out _ HB5.out
     obtain ⟨d0, d1⟩ := HS1.out _ r5
     go_wp2_with fail
     go_roundw
     case rel => exact ⟨k + 1, by omega, by go_num, r5, q5, t5, p6, p5, HB5⟩
     case measure => simp [intOf]; omega
   ·rw [joinS_out (by rw [HN.out]; exact hlt)] at hnx
    have HNX2 := zh hnx; clear hnx hx hy c0 c1
    generalize x ||| y = zo at *
    obtain ⟨S, HS, pM, keepS, SI⟩ := ex_mut gE wr
    have PM := zh pM
    have PR : Hid (∀ w', S w' → RowAt w' w.heap.size 24 V) := fun w' h => r1.mut (pM w' h) n1
    have PQ : Hid (∀ w', S w' → RowAt w' (w.heap.size + 1) 31 U) := fun w' h => q1.mut (pM w' h) n2
    have PT : Hid (∀ w', S w' → RowAt w' (w.heap.size + 2) 31 V2) := fun w' h => t1.mut (pM w' h) n3
    have PP : Hid (∀ w', S w' → RowAt w' gR 31 (uv (List.replicate 8 0))) := fun w' h => p1.mut (pM w' h) n5
    have cS : ∀ w', S w' → w'.cell? ⟨w.heap.size, 1, none⟩ = some (.slice A n c) := fun w' h => (HS1.out _ (PR.out w' h)).2
    have cA : ∀ w', S w' → w'.cell? ⟨w.heap.size + 1, k, none⟩ = some (.int .u64 (x : Int)) := fun w' h => ((PQ.out w' h).cell k).trans HXA.out
    have cB : ∀ w', S w' → w'.cell? ⟨w.heap.size + 2, k, none⟩ = some (.int .u64 (y : Int)) := fun w' h => ((PT.out w' h).cell k).trans HXB.out
    have PB : Hid (∀ w', S w' → Below w.heap.size w w') := fun w' h => HB1.out.trans ((pM w' h).below n4 HB1.out.size)
    have s2 := s1.drew
    clear pM r1 q1 t1 p1 s1 HB1
    have hce := (s2.cell k).trans HCE0.out
    have hfe := s2.free k
    have HCF := zh (And.intro hce hfe)
    clear hce hfe
    go_wp2_with fail
    refine wp_region_ord S [(0, true), (1, true), (2, true), (3, true), (4, true), (5, true), (6, true), (7, true), (8, true), (9, false)] (by kernel_rfl) (by kernel_rfl) rfl (by kernel_rfl) HS.out ?_
    generalize wr.drew = VV at HS s2 HCF ⊢
    iterate 9
     (refine wpOrd_step (zO rfl) ?_)
     (first
      | (refine wpOrd_skip (by rfl) ?_)
      | (refine wpOrd_take (v := ?_) (by rfl) ?_ ?_; rotate_left 1; (intro wx hSx; have hc_0 := cA wx hSx; have hc_1 := cB wx hSx; go_simp; try with_reducible rfl)))
     (try simp only [Act.put, zA4, zA5, zA6])
    obtain ⟨hce, hfe⟩ := HCF.out
    (refine wpOrd_solo (zO rfl) ?_)
    intro K hK
    go_simp
    have HM5 := zh ((PM.out _ HS.out).trans (Mut.of_set VV gE k (.int .u64 ((zo : Nat) : Int))))
    have p5 := s2.put k (.int .u64 ((zo : Nat) : Int))
    rw [HNX2.out] at p5
    refine hK.out _ _ (SI.out _ HM5.out) ?_
    clear hK K
    (try simp only [Act.put, zA4, zA5, zA6])
    refine wpOrd_done ?_
    have HB5 := zh (PB.out _ (SI.out _ HM5.out))
    have r5 := PR.out _ (SI.out _ HM5.out)
    have q5 := PQ.out _ (SI.out _ HM5.out)
    have t5 := PT.out _ (SI.out _ HM5.out)
    have p6 := PP.out _ (SI.out _ HM5.out)
    clear PR PQ PT PP PM cS cA cB PB HS keepS SI HM5 hce hfe
    clear HCF s2
    generalize VV.setCell ⟨gE, k, none⟩ (.int .u64 ((zo : Nat) : Int)) = wq at *
    obtain ⟨d0, d1⟩ := HS1.out _ r5
    go_wp2_with fail
    go_roundw
    case rel => exact ⟨k + 1, by omega, by go_num, r5, q5, t5, p6, p5, HB5⟩
    case measure => simp [intOf]; omega
  ·have e1 : k = 8 := by omega
   subst e1
   have hew := HEW.out 8
   go_wp2_with (first | (refine wpList_loadElem (by rfl) _ rfl gE rfl _ hew s1 ?_) | (refine wpList_storeElem (by rfl) _ _ rfl gR rfl _ hew rfl _ z8 p1 ?_; intro w7 q7 he))
   exact bodyPost_ret (ret_elem rfl _ _ gR _ hew rfl q7) rfl ⟨rfl, HB1.out.trans (he.below n6)⟩
end
section
open Go.RowKit RM
end
section
open Go.RowKit RM
end
section
open Go.RowKit RM
end
end Go.Proofs.YtppcjocmjpbmmaaGreatDoor
