/- Texts that all the claims need. Conditions: those that each states. -/
import Derived.DeepKeys4
import Derived.WideKeyArgs2
import Derived.Test.YtnfndapgcpdcpaaGreatDoorFa15
set_option linter.unusedSimpArgs false
set_option linter.unusedVariables false
set_option maxRecDepth 100000
set_option maxHeartbeats 40000000
namespace Go.Proofs.YtnfndapgcpdcpaaGreatDoor
section
open Go.RowKit RM Go.Maps
structure But (M : Nat → Prop) (w w' : World) : Prop where
 os : w'.os = w.os
 tape : w'.tape = w.tape
 output : w'.output = w.output
 size : w.heap.size ≤ w'.heap.size
 block : ∀ k, k < w.heap.size → ¬ M k → w'.heap[k]? = w.heap[k]?
section
variable {M : Nat → Prop} {w w1 w2 : World} {B q g : Nat}
theorem But.refl (M : Nat → Prop) (w : World) : But M w w := ⟨rfl, rfl, rfl, zL _, fun _ _ _ => rfl⟩
theorem But.trans (h : But M w w1) (k : But M w1 w2) : But M w w2 := ⟨k.os.trans h.os, k.tape.trans h.tape, k.output.trans h.output, zM h.size k.size, fun j hj hm => (k.block j (zT hj h.size) hm).trans (h.block j hj hm)⟩
theorem But.of_below (h : Below w.heap.size w w1) (M : Nat → Prop) : But M w w1 := ⟨h.os, h.tape, h.output, h.size, fun k hk _ => h.block k hk⟩
theorem But.drew (h : But M w w1) : But M w w1.drew := ⟨h.os, h.tape, h.output, h.size, h.block⟩
theorem But.drewN (h : But M w w1) (n : Nat) : But M w (w1.drewN n) := ⟨h.os, h.tape, h.output, h.size, h.block⟩
theorem But.below (h : But M w w1) (hB : ∀ k, M k → B ≤ k) (hs : B ≤ w.heap.size) : Below B w w1 := ⟨h.os, h.tape, h.output, h.size, fun k hk => h.block k (by omega) (fun hm => by have := hB k hm; omega)⟩
theorem But.mono {M' : Nat → Prop} (h : But M w w1) (hm : ∀ k, M k → M' k) : But M' w w1 := ⟨h.os, h.tape, h.output, h.size, fun k hk hn => h.block k hk (fun e => hn (hm k e))⟩
theorem RowAt.but {t : TypeId} {cs : Array Value} (h : RowAt w q t cs) (hb : But M w w1) (hq : ¬ M q) : RowAt w1 q t cs := (hb.block q h.lt hq).trans h
end
def RH (v : Value) : Option (DataW Value × List MemPlace) := some (.held v, [])
def MMap (kt : TypeId) (z : Value) (f : Value → Value) (W : World) (B n : Nat) : Prop :=
 ∃ D : DataW Value, W.ownsMap Tryz.prog kt RH B n D ∧ IsMap D ∧ ∀ v l, keyOf Tryz.prog kt v = some l → (Maps.has D l = true ∧ D.atKey l (.held z) = .held (f v)) ∨ (Maps.has D l = false ∧ D.atKey l (.held z) = .held z)
section
variable {W W' : World} {B n : Nat} {kt : TypeId} {z : Value} {f : Value → Value}
theorem MMap.same (h : MMap kt z f W B n) (hb : W'.heap[B]? = W.heap[B]?) : MMap kt z f W' B n := by
 obtain ⟨D, ⟨es, clock, h1, F, hs, hD⟩, h2, h3⟩ := h
 exact ⟨D, ⟨es, clock, hb.trans h1, F, hs, hD⟩, h2, h3⟩
theorem MMap.lt (h : MMap kt z f W B n) : B < W.heap.size := by
 obtain ⟨D, h1, _⟩ := h
 exact h1.lt
theorem MMap.below {b : Nat} (h : MMap kt z f W B n) (hb : Below b W W') (hB : B < b) : MMap kt z f W' B n := h.same (hb.block B hB)
theorem MMap.but {M : Nat → Prop} (h : MMap kt z f W B n) (hb : But M W W') (hB : ¬ M B) : MMap kt z f W' B n := h.same (hb.block B h.lt hB)
theorem MMap.more (h : MMap kt z f W B n) {m : Nat} (hm : n ≤ m) : MMap kt z f W B m := by
 obtain ⟨D, ⟨es, clock, h1, F, hs, hD⟩, h2, h3⟩ := h
 exact ⟨D, ⟨es, clock, h1, F, zM hs hm, hD⟩, h2, h3⟩
theorem MMap.new (kt : TypeId) (z : Value) (f : Value → Value) (w : World) : MMap kt z f (w.alloc (.map #[] 0)) w.heap.size 0 :=
 ⟨.map [], World.ownsMap_made _ _ _ _, isMap_empty, fun _ _ _ => .inr ⟨rfl, rfl⟩⟩
theorem MMap.ne {g : Nat} {t : TypeId} {cs : Array Value} (h : MMap kt z f W B n) (hg : RowAt W g t cs) : g ≠ B := by
 rintro rfl
 obtain ⟨D, ⟨es, clock, h1, _⟩, _⟩ := h
 have h2 : W.heap[g]? = some (.cells cs t (0, 0)) := hg
 rw [h1] at h2
 cases h2
theorem MMap.look {mt et : TypeId} (h : MMap kt z f W B n) (K : Keyed Tryz.prog kt) (ht : Tryz.prog.underlying mt = some (.map kt et)) (hz : (zeroValue et).run Tryz.prog W = .ok z W) {v : Value} {l : Lit} (hv : keyOf Tryz.prog kt v = some l) :
 (Instr.lookup mt (.map (some B)) v true).run Tryz.prog W = .ok (.tuple #[f v, .bool true]) W ∨ (Instr.lookup mt (.map (some B)) v true).run Tryz.prog W = .ok (.tuple #[z, .bool false]) W := by
 obtain ⟨D, h1, _, h3⟩ := h
 obtain ⟨u, ps, hrun, hu⟩ := h1.look_ok K ht hz (show RH z = some (.held z, []) from rfl) hv
 rcases h3 v l hv with ⟨e1, e2⟩ | ⟨e1, e2⟩
 ·left
  rw [e2] at hu
  have : u = f v := by
   unfold RH at hu
   simp only [Option.some.injEq, Prod.mk.injEq, DataW.held.injEq] at hu
   exact hu.1
  rw [this, e1] at hrun
  exact hrun
 ·right
  rw [e2] at hu
  have : u = z := by
   unfold RH at hu
   simp only [Option.some.injEq, Prod.mk.injEq, DataW.held.injEq] at hu
   exact hu.1
  rw [this, e1] at hrun
  exact hrun
end
theorem wpList_mmap {kt mt et : TypeId} {z : Value} {f : Value → Value} {w : World} {ops : Array Oper} {rest : List Oper} {o : Oper} {a : Act} {Q : Exit → Act → World → Prop}
 (hg : o.guard = none) (m x v : Operand) (hop : o.op = Op.mapUpdate mt m x v) (K : Keyed Tryz.prog kt) (ht : Tryz.prog.underlying mt = some (.map kt et)) (B n : Nat)
 (hm : a.eval m = .map (some B)) (hc : MMap kt z f w B n) (hn : n < maxLen) (key : Value) (l : Lit) (hk : keyOf Tryz.prog kt key = some l) (hx : a.eval x = key) (hv : a.eval v = f key)
 (hK : ∀ w', MMap kt z f w' B (n + 1) → But (fun k => k = B) w w' → wpList Tryz.prog ops Q rest (a.put o.dst undef) w') :
 wpList Tryz.prog ops Q (o :: rest) a w := by
 obtain ⟨D, h1, h2, h3⟩ := hc
 refine wpList_mapUpdate_own w hg m x v mt hop kt et K ht RH B n D hm h1 hn _ _ _ hx hv hk (.held (f key)) [] rfl ?_
 intro w' hown hgr
 refine hK w' ⟨_, hown, h2.put _ _, fun u l' hu => ?_⟩ ⟨hgr.os, hgr.tape, hgr.output, hgr.size, fun k hk hne => hgr.block k hk (fun e => hne (by injection e))⟩
 by_cases hl : l' = l
 ·subst hl
  have : u = key := K.inj hu hk
  subst this
  left
  exact ⟨by rw [has_put_same h2 (K.key hk)], by rw [atKey_put_same h2 (K.key hk)]⟩
 ·rw [atKey_put_other hl, has_put_other hl]
  exact h3 u l' hu
end
section
open Go.RowKit RM Go.Maps
abbrev Ky := Int × El
def kyC (k : Ky) : List Value := .int .i64 k.1 :: elC k.2
def kyV (k : Ky) : Value := .agg (kyC k).toArray
theorem kyC_len (k : Ky) : (kyC k).length = 9 := by unfold kyC; rw [zA8, elC_len]
theorem elC_inj {a b : El} (h : elC a = elC b) : a = b := by
 unfold elC ucells at h
 apply Subtype.ext
 have : ∀ x y : Nat, Value.int .u64 (x : Int) = Value.int .u64 (y : Int) → x = y := fun x y h => by injection h with _ h; omega
 exact (List.map_inj_right (fun {x y} h => this x y h)).1 h
theorem kyV_inj {a b : Ky} (h : kyV a = kyV b) : a = b := by
 unfold kyV at h
 injection h with h
 have h2 : kyC a = kyC b := by simpa using congrArg Array.toList h
 unfold kyC at h2
 injection h2 with h3 h4
 injection h3 with _ h5
 exact Prod.ext h5 (elC_inj h4)
open Classical in
noncomputable def liftV {K : Type} (key : K → Value) (g : K → Value) (v : Value) : Value := if h : ∃ k, key k = v then g h.choose else v
theorem liftV_at {K : Type} {key : K → Value} (inj : ∀ {a b}, key a = key b → a = b) (g : K → Value) (k : K) : liftV key g (key k) = g k := by
 unfold liftV
 have h : ∃ k', key k' = key k := ⟨k, rfl⟩
 rw [dif_pos h, inj h.choose_spec]
theorem ky_row : (68 : TypeId) < Tryz.prog.types.size := of_decide_eq_true (by kernel_rfl)
theorem laidOutI : laidOutB Tryz.prog = true := by kernel_rfl
theorem ky_law : Keyed Tryz.prog 68 := Keyed.of_law (deep_law_laid laidOutI (m := 4) (by omega) ky_row (by kernel_rfl) (by kernel_rfl))
theorem ky_of (k : Ky) (h0 : 0 ≤ k.1) (h1 : k.1 ≤ 4611686018427387904) : ∃ l, keyOf Tryz.prog 68 (kyV k) = some l := by
 obtain ⟨a, e, he⟩ := k
 obtain ⟨e0, e1, e2, e3, e4, e5, e6, e7, rfl⟩ := ew_lit he
 obtain ⟨m, hm⟩ : ∃ m, Tryz.prog.types.size + 1 = m + 3 := ⟨Tryz.prog.types.size - 2, by kernel_rfl⟩
 have wa : (Lit.int .i64 a).wf = true := WalkArith.wf_i64 (by simp only at h0 h1; omega)
 have hw : ∀ x ∈ [e0, e1, e2, e3, e4, e5, e6, e7], (Lit.int .u64 ((x : Nat) : Int)).wf = true := fun x hx => WalkArith.wf_u64 (by have := he.2 x hx; omega)
 have w0 := hw e0 (by simp); have w1 := hw e1 (by simp); have w2 := hw e2 (by simp); have w3 := hw e3 (by simp)
 have w4 := hw e4 (by simp); have w5 := hw e5 (by simp); have w6 := hw e6 (by simp); have w7 := hw e7 (by simp)
 have hk : Tryz.prog.keyType 68 = true := by kernel_rfl
 have hc : Tryz.prog.cellsOf 68 = 9 := by kernel_rfl
 have hc1 : Tryz.prog.cellsOf 3 = 1 := by kernel_rfl
 have hc2 : Tryz.prog.cellsOf 41 = 8 := by kernel_rfl
 have hc3 : Tryz.prog.cellsOf 39 = 1 := by kernel_rfl
 have hl : ∃ ls, Tryz.prog.keyLits (m + 3) 68 (kyC (a, ⟨[e0, e1, e2, e3, e4, e5, e6, e7], he⟩)) = some ls := by
  simp [Program.keyLits, Tryz.underlying68, Tryz.underlying3, Tryz.underlying41, Tryz.underlying39, hc, hc1, hc2, hc3, kyC, elC, ucells, wa, w0, w1, w2, w3, w4, w5, w6, w7, List.range, List.range.loop, List.mapM_cons, List.mapM_nil]
 obtain ⟨ls, hl⟩ := hl
 refine ⟨.string (keyBytes ls), ?_⟩
 unfold keyOf
 rw [Tryz.underlying68]
 simp only [hk, kyV, Value.formed, Tryz.underlying68, hc, Value.cells, hm]
 rw [show (kyC (a, ⟨[e0, e1, e2, e3, e4, e5, e6, e7], he⟩)).toArray.size = 9 from kyC_len _, hl]
 rfl
end
section
open Go.RowKit RM Go.Maps
noncomputable def f_rb (b : Ky → Bool) : Value → Value := liftV kyV fun k => .agg #[.bool (b k)]
def M_rb (b : Ky → Bool) (W : World) (B n : Nat) : Prop := MMap 68 (.agg #[.bool false]) (f_rb b) W B n
theorem rb1_any {F : FuncId} {caps : Array Value} {b : Ky → Bool} {J : World → Prop} (gm gf B n : Nat) (k : Ky) (h0 : 0 ≤ k.1) (h1 : k.1 ≤ 4611686018427387904) (w : World) (hgm : RowAt w gm 98 #[.map (some B)]) (hgf : RowAt w gf 65 #[.func (.func F) #[] caps])
 (hM : M_rb b w B n) (hn : n < maxLen) (hf : ∀ args w, (callFunc F args).run Tryz.prog w = .ok (.enter F args) w) (hJ : ∀ W W', J W → But (fun k => k = B) W W' → J W') (hj : J w)
 (H : ∀ W, J W → Calls Tryz.prog F (#[kyV k] ++ caps) W fun e W' => e = .returned (.bool (b k)) ∧ Below W.heap.size W W') :
 Calls Tryz.prog 69 #[kyV k, .pointer (some ⟨gm, 0, none⟩), .pointer (some ⟨gf, 0, none⟩)] w fun e w' => e = .returned (.bool (b k)) ∧ M_rb b w' B (n + 1) ∧ J w' ∧ But (fun k => k = B) w w' := by
 have r0 := RowAt.new w 68 (kyC k).toArray
 have hb : Below w.heap.size w (w.alloc (.cells (kyC k).toArray 68)) := (zB _ _).alloc (zL _) _
 have hsz : (w.alloc (.cells (kyC k).toArray 68)).heap.size = w.heap.size + 1 := by simp
 obtain ⟨l, hl⟩ := ky_of k h0 h1
 have HL : Hid (keyOf Tryz.prog 68 (.agg (kyC k).toArray) = some l) := hl
 have HFV : Hid (f_rb b (.agg (kyC k).toArray) = .agg #[.bool (b k)]) := liftV_at (fun {a b} => kyV_inj) _ k
 have HKZ : Hid ((Tryz.prog.info? 68).map (·.size) = some (kyC k).toArray.size) := by
  show _ = some (kyC k).length
  rw [kyC_len]; kernel_rfl
 refine cHid fun Q' hQ => ?_
 have HQ := zh hQ; clear hQ
 have HJ := zh hJ; clear hJ
 have HH : Hid (∀ W, J W → Calls Tryz.prog F (#[.agg (kyC k).toArray] ++ caps) W fun e W' => e = .returned (.bool (b k)) ∧ Below W.heap.size W W') := H
 clear H
 have HM1 : Hid (M_rb b (w.alloc (.cells (kyC k).toArray 68)) B n) := MMap.below hM hb hM.lt
 have hB := hM.lt
 have hj1 := HJ.out _ _ hj (But.of_below hb _)
 have hbut : But (fun k => k = B) w (w.alloc (.cells (kyC k).toArray 68)) := But.of_below hb _
 show Calls Tryz.prog 69 #[.agg (kyC k).toArray, .pointer (some ⟨gm, 0, none⟩), .pointer (some ⟨gf, 0, none⟩)] w Q'
 generalize b k = bk at *
 generalize (kyC k).toArray = ka at *
 have hz : ∀ W : World, (zeroValue 99).run Tryz.prog W = .ok (.agg #[.bool false]) W := fun W => by kernel_rfl
 have hlook := MMap.look HM1.out ky_law Tryz.underlying98 (hz _) (show keyOf Tryz.prog 68 (.agg ka) = some l from HL.out)
 rw [HFV.out] at hlook
 clear hl hM h0 h1 hz
 go_enter Tryz.func69, Tryz.ntmps69
 go_upto_region 1 with fail
 change Code.wp _ _ _ _ (w.alloc (.cells ka 68))
 generalize w.alloc (.cells ka 68) = w1 at *
 have HBUT := zh hbut
 have HR1 := zh r0
 have HGM1 := zh (hgm.below hb hgm.lt)
 have HGF1 := zh (hgf.below hb hgf.lt)
 have HSZ1 := zh hsz
 have HGMW := zh (show gm < w1.heap.size from (hgm.below hb hgm.lt).lt)
 have HJ1 := zh hj1
 have cm1 := HGM1.out.cell 0
 clear hb r0 hgm hgf hsz hbut hj hj1
 rcases hlook with hlook | hlook
 ·go_upto_region 2 with (refine wpList_loadS (by rfl) _ _ rfl w.heap.size rfl _ _ _ HR1.out Tryz.underlying68 rfl HKZ.out ?_)
  have r5 := RowAt.new w1 99 #[.bool (bk)]
  have hb2 : Below w1.heap.size w1 (w1.alloc (.cells #[.bool (bk)] 99)) := (zB _ _).alloc (zL _) _
  change Code.wp _ _ _ _ (w1.alloc (.cells #[.bool (bk)] 99))
  generalize w1.alloc (.cells #[.bool (bk)] 99) = w2 at *
  have c5 := r5.cell 0
  have HB2 := zh hb2
  clear hb2 r5
  go_wp2_with fail
  exact HQ.out _ _ ⟨rfl, (HM1.out.below HB2.out HM1.out.lt).more (Nat.le_succ _), HJ.out _ _ HJ1.out (But.of_below HB2.out _), HBUT.out.trans (But.of_below HB2.out _)⟩
 ·go_upto_region 2 with (refine wpList_loadS (by rfl) _ _ rfl w.heap.size rfl _ _ _ HR1.out Tryz.underlying68 rfl HKZ.out ?_)
  have r5 := RowAt.new w1 99 #[.bool false]
  have hb2 : Below w1.heap.size w1 (w1.alloc (.cells #[.bool false] 99)) := (zB _ _).alloc (zL _) _
  have hs2 : (w1.alloc (.cells #[.bool false] 99)).heap.size = w1.heap.size + 1 := by simp
  change Code.wp _ _ _ _ (w1.alloc (.cells #[.bool false] 99))
  generalize w1.alloc (.cells #[.bool false] 99) = w2 at *
  have HB2 := zh hb2
  have HS2 := zh hs2
  have HR5 := zh r5
  have HR2 := zh (HR1.out.below hb2 HR1.out.lt)
  have HGM2 := zh (HGM1.out.below hb2 HGM1.out.lt)
  have HGF2 := zh (HGF1.out.below hb2 HGF1.out.lt)
  have cf2 := HGF2.out.cell 0
  have HJ2 := zh (HJ.out _ _ HJ1.out (But.of_below hb2 _))
  have HC := zh (HH.out w2 HJ2.out)
  clear hb2 r5 hs2 HR1 HGM1 HGF1 hlook cm1
  go_wp2_with (refine wpList_loadS (by rfl) _ _ rfl w.heap.size rfl _ _ _ HR2.out Tryz.underlying68 rfl HKZ.out ?_)
  refine HC.out.mono ?_
  rintro e w3 ⟨rfl, hb3⟩
  have HB3 := zh (HB2.out.trans (hb3.mono HB2.out.size))
  have HR3 := zh (HR2.out.below hb3 HR2.out.lt)
  have hr3 := HR5.out.below hb3 HR5.out.lt
  have c3 := hr3.cell 0
  have f3 := hr3.free 0
  have HGM3 := zh (HGM2.out.below hb3 HGM2.out.lt)
  have HR53 := zh hr3
  clear hb3 hr3 HR2 HGM2 HGF2 cf2 HC
  have hr4 := HR53.out.put 0 (.bool (bk))
  have hb4 : Below w1.heap.size w1 (w3.setCell ⟨w1.heap.size, 0, none⟩ (.bool (bk))) := HB3.out.setCell (p := ⟨w1.heap.size, 0, none⟩) (zL _) _
  go_upto_region 4 with fail
  change Code.wp _ _ _ _ (w3.setCell ⟨w1.heap.size, 0, none⟩ (.bool (bk)))
  have hrk4 := HR3.out.far (p := ⟨w1.heap.size, 0, none⟩) (by show w1.heap.size ≠ w.heap.size; have := HSZ1.out; omega) (.bool (bk))
  have hgm4 := HGM3.out.far (p := ⟨w1.heap.size, 0, none⟩) (by show w1.heap.size ≠ gm; have := HGMW.out; omega) (.bool (bk))
  generalize w3.setCell ⟨w1.heap.size, 0, none⟩ (.bool (bk)) = w4 at *
  have HR4 := zh hrk4
  have HS4 := zh hr4
  have HB4 := zh hb4
  have cm4 := hgm4.cell 0
  have c4 := hr4.cell 0
  have HM4 : Hid (M_rb b w4 B n) := MMap.below HM1.out hb4 HM1.out.lt
  have HJ4 := zh (HJ.out _ _ HJ1.out (But.of_below hb4 _))
  clear hr4 hb4 hrk4 hgm4 c3 f3 HGM3 HR53 HR3
  go_wp2_with (first
   | (refine wpList_loadS (by rfl) _ _ rfl w.heap.size rfl _ _ _ HR4.out Tryz.underlying68 rfl HKZ.out ?_)
   | (refine wpList_loadS (by rfl) _ _ rfl w1.heap.size rfl _ _ _ HS4.out Tryz.underlying99 rfl (by kernel_rfl) ?_)
   | (refine wpList_mmap rfl _ _ _ rfl ky_law Tryz.underlying98 B n rfl HM4.out hn (.agg ka) l HL.out rfl HFV.out.symm ?_; intro w5 hm5 hb5; have HM5 : Hid (M_rb b w5 B (n + 1)) := hm5; have HB5 := zh hb5; have c5 := (HS4.out.but hb5 (fun e => HM4.out.ne HS4.out e)).cell 0; clear hm5 hb5))
  exact HQ.out _ _ ⟨rfl, HM5.out, HJ.out _ _ HJ4.out HB5.out, HBUT.out.trans ((But.of_below HB4.out _).trans HB5.out)⟩
noncomputable def f_rs (b : Ky → ByteArray) : Value → Value := liftV kyV fun k => .agg #[.string (b k)]
def M_rs (b : Ky → ByteArray) (W : World) (B n : Nat) : Prop := MMap 68 (.agg #[.string ⟨#[]⟩]) (f_rs b) W B n
theorem rs1_any {F : FuncId} {caps : Array Value} {b : Ky → ByteArray} {J : World → Prop} (gm gf B n : Nat) (k : Ky) (h0 : 0 ≤ k.1) (h1 : k.1 ≤ 4611686018427387904) (w : World) (hgm : RowAt w gm 113 #[.map (some B)]) (hgf : RowAt w gf 77 #[.func (.func F) #[] caps])
 (hM : M_rs b w B n) (hn : n < maxLen) (hf : ∀ args w, (callFunc F args).run Tryz.prog w = .ok (.enter F args) w) (hJ : ∀ W W', J W → But (fun k => k = B) W W' → J W') (hj : J w)
 (H : ∀ W, J W → Calls Tryz.prog F (#[kyV k] ++ caps) W fun e W' => e = .returned (.string (b k)) ∧ Below W.heap.size W W') :
 Calls Tryz.prog 81 #[kyV k, .pointer (some ⟨gm, 0, none⟩), .pointer (some ⟨gf, 0, none⟩)] w fun e w' => e = .returned (.string (b k)) ∧ M_rs b w' B (n + 1) ∧ J w' ∧ But (fun k => k = B) w w' := by
 have r0 := RowAt.new w 68 (kyC k).toArray
 have hb : Below w.heap.size w (w.alloc (.cells (kyC k).toArray 68)) := (zB _ _).alloc (zL _) _
 have hsz : (w.alloc (.cells (kyC k).toArray 68)).heap.size = w.heap.size + 1 := by simp
 obtain ⟨l, hl⟩ := ky_of k h0 h1
 have HL : Hid (keyOf Tryz.prog 68 (.agg (kyC k).toArray) = some l) := hl
 have HFV : Hid (f_rs b (.agg (kyC k).toArray) = .agg #[.string (b k)]) := liftV_at (fun {a b} => kyV_inj) _ k
 have HKZ : Hid ((Tryz.prog.info? 68).map (·.size) = some (kyC k).toArray.size) := by
  show _ = some (kyC k).length
  rw [kyC_len]; kernel_rfl
 refine cHid fun Q' hQ => ?_
 have HQ := zh hQ; clear hQ
 have HJ := zh hJ; clear hJ
 have HH : Hid (∀ W, J W → Calls Tryz.prog F (#[.agg (kyC k).toArray] ++ caps) W fun e W' => e = .returned (.string (b k)) ∧ Below W.heap.size W W') := H
 clear H
 have HM1 : Hid (M_rs b (w.alloc (.cells (kyC k).toArray 68)) B n) := MMap.below hM hb hM.lt
 have hB := hM.lt
 have hj1 := HJ.out _ _ hj (But.of_below hb _)
 have hbut : But (fun k => k = B) w (w.alloc (.cells (kyC k).toArray 68)) := But.of_below hb _
 show Calls Tryz.prog 81 #[.agg (kyC k).toArray, .pointer (some ⟨gm, 0, none⟩), .pointer (some ⟨gf, 0, none⟩)] w Q'
 generalize b k = bk at *
 generalize (kyC k).toArray = ka at *
 have hz : ∀ W : World, (zeroValue 114).run Tryz.prog W = .ok (.agg #[.string ⟨#[]⟩]) W := fun W => by kernel_rfl
 have hlook := MMap.look HM1.out ky_law Tryz.underlying113 (hz _) (show keyOf Tryz.prog 68 (.agg ka) = some l from HL.out)
 rw [HFV.out] at hlook
 clear hl hM h0 h1 hz
 go_enter Tryz.func81, Tryz.ntmps81
 go_upto_region 1 with fail
 change Code.wp _ _ _ _ (w.alloc (.cells ka 68))
 generalize w.alloc (.cells ka 68) = w1 at *
 have HBUT := zh hbut
 have HR1 := zh r0
 have HGM1 := zh (hgm.below hb hgm.lt)
 have HGF1 := zh (hgf.below hb hgf.lt)
 have HSZ1 := zh hsz
 have HGMW := zh (show gm < w1.heap.size from (hgm.below hb hgm.lt).lt)
 have HJ1 := zh hj1
 have cm1 := HGM1.out.cell 0
 clear hb r0 hgm hgf hsz hbut hj hj1
 rcases hlook with hlook | hlook
 ·go_upto_region 2 with (refine wpList_loadS (by rfl) _ _ rfl w.heap.size rfl _ _ _ HR1.out Tryz.underlying68 rfl HKZ.out ?_)
  have r5 := RowAt.new w1 114 #[.string (bk)]
  have hb2 : Below w1.heap.size w1 (w1.alloc (.cells #[.string (bk)] 114)) := (zB _ _).alloc (zL _) _
  change Code.wp _ _ _ _ (w1.alloc (.cells #[.string (bk)] 114))
  generalize w1.alloc (.cells #[.string (bk)] 114) = w2 at *
  have c5 := r5.cell 0
  have HB2 := zh hb2
  clear hb2 r5
  go_wp2_with fail
  exact HQ.out _ _ ⟨rfl, (HM1.out.below HB2.out HM1.out.lt).more (Nat.le_succ _), HJ.out _ _ HJ1.out (But.of_below HB2.out _), HBUT.out.trans (But.of_below HB2.out _)⟩
 ·go_upto_region 2 with (refine wpList_loadS (by rfl) _ _ rfl w.heap.size rfl _ _ _ HR1.out Tryz.underlying68 rfl HKZ.out ?_)
  have r5 := RowAt.new w1 114 #[.string ⟨#[]⟩]
  have hb2 : Below w1.heap.size w1 (w1.alloc (.cells #[.string ⟨#[]⟩] 114)) := (zB _ _).alloc (zL _) _
  have hs2 : (w1.alloc (.cells #[.string ⟨#[]⟩] 114)).heap.size = w1.heap.size + 1 := by simp
  change Code.wp _ _ _ _ (w1.alloc (.cells #[.string ⟨#[]⟩] 114))
  generalize w1.alloc (.cells #[.string ⟨#[]⟩] 114) = w2 at *
  have HB2 := zh hb2
  have HS2 := zh hs2
  have HR5 := zh r5
  have HR2 := zh (HR1.out.below hb2 HR1.out.lt)
  have HGM2 := zh (HGM1.out.below hb2 HGM1.out.lt)
  have HGF2 := zh (HGF1.out.below hb2 HGF1.out.lt)
  have cf2 := HGF2.out.cell 0
  have HJ2 := zh (HJ.out _ _ HJ1.out (But.of_below hb2 _))
  have HC := zh (HH.out w2 HJ2.out)
  clear hb2 r5 hs2 HR1 HGM1 HGF1 hlook cm1
  go_wp2_with (refine wpList_loadS (by rfl) _ _ rfl w.heap.size rfl _ _ _ HR2.out Tryz.underlying68 rfl HKZ.out ?_)
  refine HC.out.mono ?_
  rintro e w3 ⟨rfl, hb3⟩
  have HB3 := zh (HB2.out.trans (hb3.mono HB2.out.size))
  have HR3 := zh (HR2.out.below hb3 HR2.out.lt)
  have hr3 := HR5.out.below hb3 HR5.out.lt
  have c3 := hr3.cell 0
  have f3 := hr3.free 0
  have HGM3 := zh (HGM2.out.below hb3 HGM2.out.lt)
  have HR53 := zh hr3
  clear hb3 hr3 HR2 HGM2 HGF2 cf2 HC
  have hr4 := HR53.out.put 0 (.string (bk))
  have hb4 : Below w1.heap.size w1 (w3.setCell ⟨w1.heap.size, 0, none⟩ (.string (bk))) := HB3.out.setCell (p := ⟨w1.heap.size, 0, none⟩) (zL _) _
  go_upto_region 4 with fail
  change Code.wp _ _ _ _ (w3.setCell ⟨w1.heap.size, 0, none⟩ (.string (bk)))
  have hrk4 := HR3.out.far (p := ⟨w1.heap.size, 0, none⟩) (by show w1.heap.size ≠ w.heap.size; have := HSZ1.out; omega) (.string (bk))
  have hgm4 := HGM3.out.far (p := ⟨w1.heap.size, 0, none⟩) (by show w1.heap.size ≠ gm; have := HGMW.out; omega) (.string (bk))
  generalize w3.setCell ⟨w1.heap.size, 0, none⟩ (.string (bk)) = w4 at *
  have HR4 := zh hrk4
  have HS4 := zh hr4
  have HB4 := zh hb4
  have cm4 := hgm4.cell 0
  have c4 := hr4.cell 0
  have HM4 : Hid (M_rs b w4 B n) := MMap.below HM1.out hb4 HM1.out.lt
  have HJ4 := zh (HJ.out _ _ HJ1.out (But.of_below hb4 _))
  clear hr4 hb4 hrk4 hgm4 c3 f3 HGM3 HR53 HR3
  go_wp2_with (first
   | (refine wpList_loadS (by rfl) _ _ rfl w.heap.size rfl _ _ _ HR4.out Tryz.underlying68 rfl HKZ.out ?_)
   | (refine wpList_loadS (by rfl) _ _ rfl w1.heap.size rfl _ _ _ HS4.out Tryz.underlying114 rfl (by kernel_rfl) ?_)
   | (refine wpList_mmap rfl _ _ _ rfl ky_law Tryz.underlying113 B n rfl HM4.out hn (.agg ka) l HL.out rfl HFV.out.symm ?_; intro w5 hm5 hb5; have HM5 : Hid (M_rs b w5 B (n + 1)) := hm5; have HB5 := zh hb5; have c5 := (HS4.out.but hb5 (fun e => HM4.out.ne HS4.out e)).cell 0; clear hm5 hb5))
  exact HQ.out _ _ ⟨rfl, HM5.out, HJ.out _ _ HJ4.out HB5.out, HBUT.out.trans ((But.of_below HB4.out _).trans HB5.out)⟩
end
section
open Go.RowKit RM Go.Maps
structure MemoF {V : Type} (enc : V → Value) (G : FuncId) (gc : Array Value) (B : Nat) (b : Ky → V) (I : Nat → World → Prop) (L : Int) : Prop where
 eq : ∀ args w, (callFunc G args).run Tryz.prog w = .ok (.enter G args) w
 but : ∀ n W W', I n W → But (fun _ => False) W W' → I n W'
 lt : ∀ n W, I n W → B < W.heap.size
 call : ∀ n W k, n < maxLen → 0 ≤ k.1 → k.1 < L → I n W → Calls Tryz.prog G (#[kyV k] ++ gc) W fun e W' => e = .returned (enc (b k)) ∧ I (n + 1) W' ∧ But (fun j => j = B) W W'
theorem But.none_of {w w1 : World} (h : Below w.heap.size w w1) : But (fun _ => False) w w1 := But.of_below h _
theorem But.weak {w w1 : World} {B : Nat} (h : But (fun _ => False) w w1) : But (fun j => j = B) w w1 := h.mono fun _ h => h.elim
def rvT (b : Ky → Bool) (lat : Int) (l : List Vl) (i : Nat) : Bool := (decide (i = 0) || NM.less (l.getD (i - 1) vl0).s (l.getD i vl0).s) && (NM.right (l.getD i vl0).s && b (lat, (l.getD i vl0).e))
def rvB (b : Ky → Bool) (lat : Int) (l : List Vl) : Bool := (List.range l.length).all (rvT b lat l)
theorem vl_cells8 {w : World} {g : Nat} {s : ByteArray} {e0 e1 e2 e3 e4 e5 e6 e7 : Nat} (h : RowAt w g 43 #[.string s, .int .u64 e0, .int .u64 e1, .int .u64 e2, .int .u64 e3, .int .u64 e4, .int .u64 e5, .int .u64 e6, .int .u64 e7]) :
 w.cell? ⟨g, 1, none⟩ = some (.int .u64 e0) ∧ w.cell? ⟨g, 2, none⟩ = some (.int .u64 e1) ∧ w.cell? ⟨g, 3, none⟩ = some (.int .u64 e2) ∧ w.cell? ⟨g, 4, none⟩ = some (.int .u64 e3) ∧ w.cell? ⟨g, 5, none⟩ = some (.int .u64 e4) ∧ w.cell? ⟨g, 6, none⟩ = some (.int .u64 e5) ∧ w.cell? ⟨g, 7, none⟩ = some (.int .u64 e6) ∧ w.cell? ⟨g, 8, none⟩ = some (.int .u64 e7) :=
 ⟨h.cell 1, h.cell 2, h.cell 3, h.cell 4, h.cell 5, h.cell 6, h.cell 7, h.cell 8⟩
theorem rowValid_any {G : FuncId} {gc : Array Value} {B : Nat} {b : Ky → Bool} {I : Nat → World → Prop} {L : Int} (hM : MemoF (fun x => .bool x) G gc B b I L) (lat : Int) (h0 : 0 ≤ lat) (h1 : lat < L) (A : Option Addr) (c : Nat) (l : List Vl) (n : Nat) (w : World) (hn : n + l.length < maxLen) (hs : ∀ v ∈ l, v.s.size ≤ 4294967296)
 (hA : ∀ W, But (fun j => j = B) w W → Ls vlC W A l) (hI : I n w) :
 Calls Tryz.prog 72 #[.int .i64 lat, .slice A l.length c, .func (.func G) #[] gc] w fun e w' => e = .returned (.bool (rvB b lat l)) ∧ (∃ n', n' ≤ n + l.length ∧ I n' w') ∧ But (fun j => j = B) w w' := by
 refine cHid fun Q' hQ => ?_
 have HQ := zh hQ; clear hQ
 have HMM := zh hM; clear hM
 have HA := zh hA; clear hA
 have HSS : Hid (∀ i, i < l.length → (l.getD i vl0).s.size ≤ 4294967296) := fun i hi => hs _ (getD_mem' hi)
 have HBAD : Hid (∀ i, i < l.length → rvT b lat l i = false → rvB b lat l = false) := fun i hi h => rng_hit hi h
 have HOK : Hid ((∀ i, i < l.length → rvT b lat l i = true) → rvB b lat l = true) := fun h => rng_done h
 have hf := HMM.out.eq
 have HI := zh hI
 have hl' : l.length ≤ 9223372036854775807 := by unfold maxLen at hn; omega
 have hnm : n + l.length < 9223372036854775807 := by unfold maxLen at hn; omega
 clear hs hI hn
 generalize rvB b lat l = R at *
 generalize hm : l.length = m at *
 have HM := zh hm; clear hm
 go_enter Tryz.func72, Tryz.ntmps72
 go_wp2_with fail
 go_loopw [11] (fun iv wr => ∃ i n' : Nat, i ≤ m ∧ n' ≤ n + i ∧ iv = .int .i64 i ∧ Hid (∀ j, j < i → rvT b lat l j = true) ∧ Hid (I n' wr) ∧ Hid (But (fun j => j = B) w wr)) (fun iv _ => m - (intOf iv).toNat)
 case atStart => exact ⟨0, n, by omega, by omega, rfl, fun j hj => by omega, HI, But.refl _ _⟩
 case round =>
  clear HI
  obtain ⟨i, n', hi, hn', rfl, HF, HI, HW⟩ := hrel
  by_cases hlt : i < m
  ·obtain ⟨bk, o, rfl, hbk, hc⟩ := (HA.out wr HW.out).at 9 vlC_len (by omega) vl0 (i := i) (by rw [HM.out]; exact hlt)
   have hr := hc i (by rw [HM.out]; exact hlt)
   have hp : 0 < i → wr.rangeAt bk (o + (i - 1) * 9) (vlC (l.getD (i - 1) vl0)) := fun _ => hc (i - 1) (by rw [HM.out]; omega)
   have hsz := HSS.out i hlt
   have HBD := zh (HBAD.out i hlt)
   have HNX : Hid (rvT b lat l i = true → ∀ j, j < i + 1 → rvT b lat l j = true) := fun h j hj => by
        by_cases e : j = i
        ·rw [e]; exact h
        ·exact HF.out j (by omega)
   have htv : rvT b lat l i = ((decide (i = 0) || NM.less (l.getD (i - 1) vl0).s (l.getD i vl0).s) && (NM.right (l.getD i vl0).s && b (lat, (l.getD i vl0).e))) := rfl
   clear hc HF
   have HCL := zh (fun W (hW : I n' W) => HMM.out.call n' W (lat, (l.getD i vl0).e) (by unfold maxLen; omega) h0 h1 hW)
   generalize rvT b lat l i = T at *
   generalize hq : b (lat, (l.getD i vl0).e) = q at *
   clear hq
   generalize hpv : l.getD (i - 1) vl0 = y at *
   clear hpv
   generalize l.getD i vl0 = x at *
   obtain ⟨s, e, he⟩ := x
   obtain ⟨e0, e1, e2, e3, e4, e5, e6, e7, rfl⟩ := ew_lit he
   have hr2 : wr.rangeAt bk (o + i * 9) [.string s, .int .u64 e0, .int .u64 e1, .int .u64 e2, .int .u64 e3, .int .u64 e4, .int .u64 e5, .int .u64 e6, .int .u64 e7] := hr
   have HR := zh hr2
   clear hr hr2
   simp only at htv hsz
   have hkv : kyV (lat, ⟨[e0, e1, e2, e3, e4, e5, e6, e7], he⟩) = .agg #[.int .i64 lat, .int .u64 e0, .int .u64 e1, .int .u64 e2, .int .u64 e3, .int .u64 e4, .int .u64 e5, .int .u64 e6, .int .u64 e7] := rfl
   rw [hkv] at HCL
   clear hkv
   have HSZ := zh hsz
   clear hsz
   generalize hnr : NM.right s = nr at *
   have HNR := zh hnr
   have HTV := zh htv
   clear hnr htv
   have r9 := RowAt.new wr 43 #[.string s, .int .u64 e0, .int .u64 e1, .int .u64 e2, .int .u64 e3, .int .u64 e4, .int .u64 e5, .int .u64 e6, .int .u64 e7]
   have hb9 : Below wr.heap.size wr (wr.alloc (.cells #[.string s, .int .u64 e0, .int .u64 e1, .int .u64 e2, .int .u64 e3, .int .u64 e4, .int .u64 e5, .int .u64 e6, .int .u64 e7] 43)) := (zB _ _).alloc (zL _) _
   have hp9 : 0 < i → (wr.alloc (.cells #[.string s, .int .u64 e0, .int .u64 e1, .int .u64 e2, .int .u64 e3, .int .u64 e4, .int .u64 e5, .int .u64 e6, .int .u64 e7] 43)).cell? ⟨bk, o + (i - 1) * 9, none⟩ = some (.string y.s) := fun h => range_s (range_below (hp h) hb9 hbk)
   clear hp
   go_upto_region 4 with (refine wpList_ldIn (by rfl) _ _ rfl bk (o + i * 9) rfl _ _ HR.out Tryz.underlying43 rfl (by kernel_rfl) ?_)
   change Code.wp _ _ _ _ (wr.alloc (.cells #[.string s, .int .u64 e0, .int .u64 e1, .int .u64 e2, .int .u64 e3, .int .u64 e4, .int .u64 e5, .int .u64 e6, .int .u64 e7] 43))
   generalize hgx : wr.heap.size = gx at *
   generalize wr.alloc (.cells #[.string s, .int .u64 e0, .int .u64 e1, .int .u64 e2, .int .u64 e3, .int .u64 e4, .int .u64 e5, .int .u64 e6, .int .u64 e7] 43) = w9 at *
   have HBT : Hid (But (fun _ => False) wr w9) := But.none_of (by rw [hgx]; exact hb9)
   have HI9 := zh (HMM.out.but _ _ _ HI.out HBT.out)
   have HW9 := zh (HW.out.trans HBT.out.weak)
   have c0 := r9.cell 0
   have HX9 := zh r9
   clear hb9 HBT hgx r9
   have k0 : w9.cell? ⟨gx, 0, none⟩ = some (.string s) := c0
   clear c0
   have HI9d : Hid (∀ q, I n' (w9.drewN q)) := fun q => HMM.out.but _ _ _ HI9.out ((But.refl _ _).drewN q)
   have HW9d : Hid (∀ q, But (fun j => j = B) w (w9.drewN q)) := fun q => HW9.out.drewN q
   have HX9d : Hid (∀ q, RowAt (w9.drewN q) gx 43 #[.string s, .int .u64 e0, .int .u64 e1, .int .u64 e2, .int .u64 e3, .int .u64 e4, .int .u64 e5, .int .u64 e6, .int .u64 e7]) := fun q => HX9.out.drewN q
   clear HI9 HW9 HX9
   by_cases hi0 : i = 0
   ·subst hi0
    clear hp9
    have htv := HTV.out
    rw [show (decide ((0 : Nat) = 0) || NM.less y.s s) = true by simp] at htv
    have HTV := zh htv
    clear htv
    go_upto_region 6 with (go_quiet (fail))
    cases nr
    ·have HFA := zh (HBD.out (by rw [HTV.out]; simp))
     clear HCL HNX HBD HTV
     go_wp2_with (go_at_call 101; refine (right_any s _).mono ?_; rintro e w2 ⟨rfl, hb2⟩; rw [HNR.out]; have HI2 := zh (HMM.out.but _ _ _ (HI9d.out _) (But.none_of hb2)); have HW2 := zh ((HW9d.out _).trans (But.none_of hb2).weak); clear hb2)
     exact HQ.out _ _ ⟨ret_eq (bool_eq HFA.out.symm), ⟨n', by omega, HI2.out⟩, HW2.out⟩
    ·cases q
     ·have HFA := zh (HBD.out (by rw [HTV.out]; simp))
      clear HNX HBD HTV
      go_wp2_with (go_at_call 101; refine (right_any s _).mono ?_; rintro e w2 ⟨rfl, hb2⟩; rw [HNR.out]; have HI2 := zh (HMM.out.but _ _ _ (HI9d.out _) (But.none_of hb2)); have HW2 := zh ((HW9d.out _).trans (But.none_of hb2).weak); have k2 := ((HX9d.out _).below hb2 (HX9d.out _).lt); obtain ⟨d1, d2, d3, d4, d5, d6, d7, d8⟩ := vl_cells8 k2; clear hb2 k2)
      refine (HCL.out _ HI2.out).mono ?_
      rintro e w3 ⟨rfl, hI3, hB3⟩
      have HI3 := zh hI3
      have HW3 := zh (HW2.out.trans hB3)
      clear hI3 hB3 d1 d2 d3 d4 d5 d6 d7 d8
      go_wp2_with fail
      exact HQ.out _ _ ⟨ret_eq (bool_eq HFA.out.symm), ⟨n' + 1, by omega, HI3.out⟩, HW3.out⟩
     ·have HTR := zh (HNX.out (by rw [HTV.out]; simp))
      clear HNX HBD HTV
      go_wp2_with (go_at_call 101; refine (right_any s _).mono ?_; rintro e w2 ⟨rfl, hb2⟩; rw [HNR.out]; have HI2 := zh (HMM.out.but _ _ _ (HI9d.out _) (But.none_of hb2)); have HW2 := zh ((HW9d.out _).trans (But.none_of hb2).weak); have k2 := ((HX9d.out _).below hb2 (HX9d.out _).lt); obtain ⟨d1, d2, d3, d4, d5, d6, d7, d8⟩ := vl_cells8 k2; clear hb2 k2)
      refine (HCL.out _ HI2.out).mono ?_
      rintro e w3 ⟨rfl, hI3, hB3⟩
      have HI3 := zh hI3
      have HW3 := zh (HW2.out.trans hB3)
      clear hI3 hB3 d1 d2 d3 d4 d5 d6 d7 d8
      go_wp2_with fail
      go_roundw
      case rel => exact ⟨0 + 1, n' + 1, by omega, by omega, by go_num, HTR, HI3, HW3⟩
      case measure => simp [intOf]; omega
   ·have hgt : 0 < i := by omega
    have ky := hp9 hgt
    have hi1 : IntKind.i64.wrap ((i : Int) - 1) = ((i - 1 : Nat) : Int) := by rw [IntKind.wrap_i64]; omega
    have hdi : decide ((0 : Int) < (i : Int)) = true := zE (by omega)
    have hbn : (0 : Int) ≤ ((i - 1 : Nat) : Int) := by omega
    have hbm : ((i - 1 : Nat) : Int) < (m : Int) := by omega
    clear hp9
    have htv := HTV.out
    rw [show (decide (i = 0) || NM.less y.s s) = NM.less y.s s by simp [hi0]] at htv
    have HTV := zh htv
    clear htv
    have hls : ∀ q, Calls Tryz.prog 64 #[.string y.s, .string s] (w9.drewN q) fun e w' => e = .returned (.bool (NM.less y.s s)) ∧ w9.drewN q = w' := fun q => nless_any _ _ _
    have HLS := zh hls
    clear hls
    generalize NM.less y.s s = lb at *
    generalize y.s = ys at *
    cases lb
    ·have HFA := zh (HBD.out (by rw [HTV.out]; simp))
     clear HCL HNX HBD HTV
     go_upto_region 6 with (go_quiet ((go_at_call 64; exact quiet_same (HLS.out _))))
     exact HQ.out _ _ ⟨ret_eq (bool_eq HFA.out.symm), ⟨n', by omega, HI9d.out _⟩, HW9d.out _⟩
    ·have htv := HTV.out
     rw [Bool.true_and] at htv
     have HTV := zh htv
     clear htv
     go_upto_region 6 with (go_quiet ((go_at_call 64; exact quiet_same (HLS.out _))))
     cases nr
     ·have HFA := zh (HBD.out (by rw [HTV.out]; simp))
      clear HCL HNX HBD HTV
      go_wp2_with (go_at_call 101; refine (right_any s _).mono ?_; rintro e w2 ⟨rfl, hb2⟩; rw [HNR.out]; have HI2 := zh (HMM.out.but _ _ _ (HI9d.out _) (But.none_of hb2)); have HW2 := zh ((HW9d.out _).trans (But.none_of hb2).weak); clear hb2)
      exact HQ.out _ _ ⟨ret_eq (bool_eq HFA.out.symm), ⟨n', by omega, HI2.out⟩, HW2.out⟩
     ·cases q
      ·have HFA := zh (HBD.out (by rw [HTV.out]; simp))
       clear HNX HBD HTV
       go_wp2_with (go_at_call 101; refine (right_any s _).mono ?_; rintro e w2 ⟨rfl, hb2⟩; rw [HNR.out]; have HI2 := zh (HMM.out.but _ _ _ (HI9d.out _) (But.none_of hb2)); have HW2 := zh ((HW9d.out _).trans (But.none_of hb2).weak); have k2 := ((HX9d.out _).below hb2 (HX9d.out _).lt); obtain ⟨d1, d2, d3, d4, d5, d6, d7, d8⟩ := vl_cells8 k2; clear hb2 k2)
       refine (HCL.out _ HI2.out).mono ?_
       rintro e w3 ⟨rfl, hI3, hB3⟩
       have HI3 := zh hI3
       have HW3 := zh (HW2.out.trans hB3)
       clear hI3 hB3 d1 d2 d3 d4 d5 d6 d7 d8
       go_wp2_with fail
       exact HQ.out _ _ ⟨ret_eq (bool_eq HFA.out.symm), ⟨n' + 1, by omega, HI3.out⟩, HW3.out⟩
      ·have HTR := zh (HNX.out (by rw [HTV.out]; simp))
       clear HNX HBD HTV
       go_wp2_with (go_at_call 101; refine (right_any s _).mono ?_; rintro e w2 ⟨rfl, hb2⟩; rw [HNR.out]; have HI2 := zh (HMM.out.but _ _ _ (HI9d.out _) (But.none_of hb2)); have HW2 := zh ((HW9d.out _).trans (But.none_of hb2).weak); have k2 := ((HX9d.out _).below hb2 (HX9d.out _).lt); obtain ⟨d1, d2, d3, d4, d5, d6, d7, d8⟩ := vl_cells8 k2; clear hb2 k2)
       refine (HCL.out _ HI2.out).mono ?_
       rintro e w3 ⟨rfl, hI3, hB3⟩
       have HI3 := zh hI3
       have HW3 := zh (HW2.out.trans hB3)
       clear hI3 hB3 d1 d2 d3 d4 d5 d6 d7 d8
       go_wp2_with fail
       go_roundw
       case rel => exact ⟨i + 1, n' + 1, by omega, by omega, by go_num, HTR, HI3, HW3⟩
       case measure => simp [intOf]; omega
  ·obtain rfl : i = m := by omega
   have HFA := zh (HOK.out HF.out)
   go_wp2_with fail
   exact HQ.out _ _ ⟨ret_eq (bool_eq HFA.out.symm), ⟨n', by omega, HI.out⟩, HW.out⟩
end
section
open Go.RowKit
def wdC (x : ByteArray × Int) : List Value := [.string x.1, .int .i64 x.2]
def pwC (x : (ByteArray × Int) × (ByteArray × Int)) : List Value := [.string x.1.1, .int .i64 x.1.2, .string x.2.1, .int .i64 x.2.2]
def varC (x : ByteArray × Int × Int) : List Value := [.string x.1, .int .i64 x.2.1, .int .i64 x.2.2]
end
end Go.Proofs.YtnfndapgcpdcpaaGreatDoor
