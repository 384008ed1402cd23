/- Texts that all the claims need. Conditions: those that each states. -/
import Derived.LoopIn
import Derived.LoopNIn
import Derived.OwnWalkIn
import Derived.RangeFuncBound
import Derived.RangeFuncCalls
import Derived.RangeFuncLeaves
import Derived.RangeFuncNested
import Derived.TacticsInMore
import Derived.Test.YtnfndapgcpdcpaaGreatDoorFa19
set_option linter.unusedSimpArgs false
set_option linter.unusedVariables false
set_option maxRecDepth 100000
set_option maxHeartbeats 40000000
namespace Go.Proofs.YtnfndapgcpdcpaaGreatDoor
section
open Go.RowKit RM Go.Maps
section
variable {F : Fence} {n : Nat} {P : Program} {ops : Array Oper} {Q : Exit → Act → World → Prop} {a : Act} {w : World} {rest : List Oper} {o : Oper}
theorem wpListIn_val {v : Value} {w' : World} (hg : o.guard = none) (hsem : o.semAt F.round a.eval = execOp a.eval o) (hab : ∀ f, F.fn f) (hr : (execOp a.eval o).run P w = .ok (.value v) w')
 (h : wpListIn F n P ops Q rest (a.put o.dst v) w') : wpListIn F n P ops Q (o :: rest) a w :=
 wpListIn_plain hg fun K hK => ⟨fun f _ => hab f, by rw [hsem, hr]; exact hK _ _ h⟩
theorem wpListIn_ldMid (hg : o.guard = none) (hsem : o.semAt F.round a.eval = execOp a.eval o) (hab : ∀ f, F.fn f) (ty : TypeId) (x : Operand) (ho : o.op = .load ty x) (b k : Nat) (hx : a.eval x = .pointer (some ⟨b, k, none⟩)) (cs : List Value) (d : TypeDesc) (hc : w.rangeAt b k cs)
 (hu : P.underlying ty = some d) (hd : d.isRow = true) (hi : (P.info? ty).map (·.size) = some cs.length) (h : wpListIn F n P ops Q rest (a.put o.dst (.agg cs.toArray)) w) : wpListIn F n P ops Q (o :: rest) a w :=
 wpListIn_val hg hsem hab (take_mid (S := fun w => w.rangeAt b k cs) ty x ho b k hx cs d (fun _ h => h) hu hd hi w hc) h
theorem wpListIn_stRow (hg : o.guard = none) (hsem : o.semAt F.round a.eval = execOp a.eval o) (hab : ∀ f, F.fn f) (ty : TypeId) (x y : Operand) (ho : o.op = .store ty x y) (g : Nat) (cells : Array Value) (hx : a.eval x = .pointer (some ⟨g, 0, none⟩)) (hy : a.eval y = .agg cells)
 (t : TypeId) (old : Array Value) (hr : RowAt w g t old) (hi : (P.info? ty).map (·.size) = some cells.size) (hold : old.size = cells.size) (h1 : cells.all (·.oneCell') = true)
 (h : ∀ w', RowAt w' g t cells → Else g w w' → wpListIn F n P ops Q rest (a.put o.dst undef) w') : wpListIn F n P ops Q (o :: rest) a w :=
 wpListIn_plain hg fun K hK => ⟨fun f _ => hab f, by
  rw [hsem]
  unfold execOp
  simp only [ho, hx, hy, Instr.storeAt, Instr.sureAddr, Sem.run_bind, Sem.run_pure, Result.andThen_ok, run_storeVar_row w g t ty old cells hr hi hold h1]
  exact hK _ _ (h _ (hr.setRow cells) (Else.setRow w g _))⟩
end
theorem vlBack_any (A : Option Addr) (k c : Nat) (w : World) :
 Calls Tryz.prog 118 #[.slice A k c] w fun e w' => e = .returned (.func (.func 158) #[] #[.pointer (some ⟨w.heap.size, 0, none⟩)]) ∧ w' = w.alloc (.cells #[.slice A k c] 38) := by
 go_enter Tryz.func118, Tryz.ntmps118
 go_wp2_with fail
 go_ret
 exact ⟨rfl, rfl⟩
def encB (es : List Vl) (i : Fin es.length) : Array Value := #[.int .i64 (i.1 : Int), .agg (vlC (es.getD i.1 vl0)).toArray]
def downTo (L k : Nat) : List Nat := (List.range k).map fun j => L - 1 - j
theorem downTo_succ (L k : Nat) : downTo L (k + 1) = downTo L k ++ [L - 1 - k] := by simp [downTo, List.range_succ]
theorem downTo_len (L k : Nat) : (downTo L k).length = k := by simp [downTo]
def KpB (n₀ Bs : Nat) (W W' : World) : Prop := Below n₀ W W' ∧ W'.heap[Bs]? = W.heap[Bs]?
theorem kpB_t {n₀ Bs : Nat} {A B C : World} (h : KpB n₀ Bs A B) (k : KpB n₀ Bs B C) : KpB n₀ Bs A C := ⟨h.1.trans k.1, k.2.trans h.2⟩
theorem kpB_b {n₀ Bs : Nat} {w : World} (hn : n₀ ≤ w.heap.size) (hb : Bs < w.heap.size) (W : World) (l : Nat) (o o' : Obj) (hl : w.heap.size ≤ l) (h : W.heap[l]? = some o) (hc : o.isCells = false) (hw : o.isWalk = false) : KpB n₀ Bs W (W.putObj l o') :=
 ⟨belowK_b hn W l o o' hl h hc hw, by
  unfold World.putObj
  simp only [Array.getElem?_setIfInBounds]
  rw [if_neg (by omega)]⟩
theorem cell_same {W W' : World} {b k : Nat} (h : W'.heap[b]? = W.heap[b]?) : W'.cell? ⟨b, k, none⟩ = W.cell? ⟨b, k, none⟩ := by
 unfold World.cell?
 simp only [h]
attribute [local go_sem] Oper.semAt_some
theorem vlBack1_in (n l Bs n₀ L cap : Nat) (A : Option Addr) (es : List Vl) (hL : es.length = L) (hmax : L ≤ 4294967296) (J Jx : List (Fin es.length) → World → Prop)
 (hY : ∀ pre x W, J pre W → pre.length < L → YieldAt Fence.wide (n - 1) Tryz.prog l (encB es x) W fun e W' =>
  (e = .returned (.bool true) ∧ J (pre ++ [x]) W' ∧ KpB n₀ Bs W W') ∨ (e = .returned (.bool false) ∧ Jx (pre ++ [x]) W'))
 (W : World) (hBs : W.cell? ⟨Bs, 0, none⟩ = some (.slice A L cap)) (hc : Sl W n₀ A (es.flatMap vlC)) (h0 : J [] W) :
 CallsIn Fence.wide n Tryz.prog 158 #[.func (.yield l) #[] #[], .pointer (some ⟨Bs, 0, none⟩)] W fun e W' => (∃ v, e = .returned v) ∧
  ((∃ ys : List (Fin es.length), ys.map (·.1) = downTo L L ∧ J ys W') ∨ (∃ pre : List (Fin es.length), (∃ k, k ≤ L ∧ pre.map (·.1) = downTo L k) ∧ Jx pre W')) := by
 refine callsIn_of_wp Tryz.func158 rfl trivial ?_ rfl
 simp only [Tryz.ntmps158, List.size_toArray, zA8, zA9, Nat.reduceAdd, Nat.reduceSub, Array.replicate_succ, Array.replicate_zero, List.push_toArray, List.append_toArray, List.nil_append, List.cons_append]
 have hw0 : IntKind.i64.wrap ((L : Int) - 1) = (L : Int) - 1 := IntWalk.i64_in _ ⟨by omega, by omega⟩
 gi_wp2
 gi_loopw [3] (fun i wr => ∃ (k : Nat) (pre : List (Fin es.length)), k ≤ L ∧ i = .int .i64 ((L : Int) - 1 - (k : Int)) ∧ Hid (pre.map (·.1) = downTo L k) ∧ Hid (J pre wr) ∧ Hid (KpB n₀ Bs W wr))
  (fun i _ => (intOf i + 1).toNat)
 case atStart => exact ⟨0, [], Nat.zero_le _, by simp, zh rfl, zh h0, zh ⟨zB _ _, rfl⟩⟩
 case round =>
  obtain ⟨k, pre, hk, rfl, HP, HJ, HB⟩ := hrel
  have hcx := (cell_same HB.out.2 (k := 0)).trans hBs
  by_cases hlt : k < L
  ·obtain ⟨z, hz⟩ : ∃ z : Nat, z = L - 1 - k := ⟨_, rfl⟩
   have hzi : (L : Int) - 1 - (k : Int) = (z : Int) := by omega
   have hzl : z < es.length := by omega
   have hsl : Sl wr n₀ A (es.flatMap vlC) := hc.below HB.out.1
   have hne : es.flatMap vlC ≠ [] := fun e => by
        have := congrArg List.length e
        rw [vlCs_len] at this
        simp only [zA9] at this
        omega
   obtain ⟨b, off, rfl, _, hcc⟩ := Sl.at_ hsl hne
   have hr : wr.rangeAt b (off + z * 9) (vlC (es.getD z vl0)) := fun j u hu => by
        have hj : j < 9 := by
         have := (List.getElem?_eq_some_iff.1 hu).1
         rwa [vlC_len] at this
        rw [Nat.add_assoc]
        exact hcc _ _ ((flat_at vlC 9 vlC_len vl0 es z j hzl hj).trans hu)
   have hplen : pre.length = k := by
        have := congrArg List.length HP.out
        rw [List.length_map, downTo_len] at this; exact this
   obtain ⟨fn, tmps, assign, body, hy, hR⟩ := hY pre ⟨z, hzl⟩ wr HJ.out (by omega)
   unfold encB at hy
   dsimp only at hy
   have hz2 : (z : Int) < (L : Int) := by omega
   have hwz : IntKind.i64.wrap ((z : Int) - 1) = (z : Int) - 1 := IntWalk.i64_in _ ⟨by omega, by omega⟩
   have HVZ : Hid ((Tryz.prog.info? 43).map (·.size) = some (vlC (es.getD z vl0)).length) := by
        show _ = _
        rw [vlC_len]; kernel_rfl
   rw [hzi]
   have HR := zh hR
   have HZ := zh hz
   have HZI := zh hzi
   have HRR := zh hr
   clear hR hz hzi hr hcc hsl hne
   generalize (vlC (es.getD z vl0)) = xc at *
   gi_wp2_with (refine wpListIn_ldMid rfl (by first | rfl | exact Oper.semAt_none _ _) (fun _ => trivial) _ _ rfl b (off + z * 9) rfl _ _ HRR.out Tryz.underlying43 rfl HVZ.out ?_)
   refine ⟨fun h => (by cases h), HR.out.mono ?_⟩
   rintro e W3 (⟨rfl, hJ3, hk3⟩ | ⟨rfl, hJx3⟩)
   ·gi_wp2
    go_roundw
    case rel =>
     refine ⟨k + 1, pre ++ [⟨z, hzl⟩], by omega, ?_, ?_, zh hJ3, zh (kpB_t HB.out hk3)⟩
     ·have h9 := HZI.out
      exact congrArg (Value.int IntKind.i64) (by omega)
     ·show (pre ++ [(⟨z, hzl⟩ : Fin es.length)]).map (·.1) = downTo L (k + 1)
      rw [List.map_append, HP.out, downTo_succ, ← HZ.out]; rfl
    case measure => simp [intOf] <;> omega
   ·gi_wp2
    refine bodyPost_ret (results_none rfl _ _ _) rfl ?_
    refine ⟨⟨_, rfl⟩, .inr ⟨pre ++ [⟨z, hzl⟩], ⟨k + 1, by omega, ?_⟩, hJx3⟩⟩
    rw [List.map_append, HP.out, downTo_succ, ← HZ.out]; rfl
  ·obtain rfl : k = L := by omega
   have hm : (k : Int) - 1 - (k : Int) = -1 := by omega
   rw [hm]
   gi_wp2
   go_end0
   exact ⟨⟨_, rfl⟩, .inl ⟨pre, HP.out, HJ.out⟩⟩
theorem vlBack_stops (n Bs n₀ L cap : Nat) (A : Option Addr) (es : List Vl) (hL : es.length = L) (hmax : L ≤ 4294967296) (w : World) (hBs : Bs < w.heap.size) (hn₀ : n₀ ≤ w.heap.size)
 (hc : w.cell? ⟨Bs, 0, none⟩ = some (.slice A L cap)) (hI : Sl w n₀ A (es.flatMap vlC)) :
 SeqStopsK Fence.wide n Tryz.prog 158 #[.pointer (some ⟨Bs, 0, none⟩)] (encB es) (KpB n₀ Bs) (fun ys => ys.map (·.1) = downTo L L) (fun pre => ∃ k, k ≤ L ∧ pre.map (·.1) = downTo L k) L w := fun l J Jx W hW _ _ hY h0 => by
 have hW2 : Below n₀ w W := hW.mono hn₀
 exact vlBack1_in n l Bs n₀ L cap A es hL hmax J Jx hY W ((hW.cell (p := ⟨Bs, 0, none⟩) hBs).trans hc) (hI.below hW2) h0
end
section
open Go.RowKit RM Go.Maps
def gB (xs : List Vl) (is : List Nat) : ByteArray → Int := is.foldl (fun f i => fun t => if t = (xs.getD i vl0).s then (i : Int) else f t) (fun _ => -1)
theorem gB_snoc (xs : List Vl) (is : List Nat) (i : Nat) : gB xs (is ++ [i]) = fun t => if t = (xs.getD i vl0).s then (i : Int) else gB xs is t := by unfold gB; rw [List.foldl_append]; rfl
theorem gB_down (xs : List Vl) (t : ByteArray) : ∀ k, k ≤ xs.length → (∃ j, xs.length - k ≤ j ∧ j < xs.length ∧ gB xs (downTo xs.length k) t = j ∧ (xs.getD j vl0).s = t ∧ ∀ i, xs.length - k ≤ i → i < j → (xs.getD i vl0).s ≠ t) ∨ (gB xs (downTo xs.length k) t = -1 ∧ ∀ i, xs.length - k ≤ i → i < xs.length → (xs.getD i vl0).s ≠ t)
 | 0, _ => .inr ⟨rfl, fun i h1 h2 => by omega⟩
 | k + 1, h => by
   rw [downTo_succ, gB_snoc]
   by_cases e : t = (xs.getD (xs.length - 1 - k) vl0).s
   ·left
    refine ⟨xs.length - 1 - k, by omega, by omega, if_pos e, e.symm, fun i h1 h2 => by omega⟩
   ·rcases gB_down xs t k (by omega) with ⟨j, h1, h2, h3, h4, h5⟩ | ⟨h3, h5⟩
    ·left
     refine ⟨j, by omega, h2, (if_neg e).trans h3, h4, fun i hi1 hi2 => ?_⟩
     by_cases hi : i = xs.length - 1 - k
     ·rw [hi]; exact fun h => e h.symm
     ·exact h5 i (by omega) hi2
    ·right
     refine ⟨(if_neg e).trans h3, fun i hi1 hi2 => ?_⟩
     by_cases hi : i = xs.length - 1 - k
     ·rw [hi]; exact fun h => e h.symm
     ·exact h5 i (by omega) hi2
theorem gB_all (xs : List Vl) : gB xs (downTo xs.length xs.length) = ixV xs := by
 funext t
 unfold ixV
 rcases gB_down xs t xs.length (zL _) with ⟨j, h1, h2, h3, h4, h5⟩ | ⟨h3, h5⟩
 ·rw [h3]
  exact (NM.fst_hit h2 (zE h4) fun i hi => zF (h5 i (by omega) hi)).symm
 ·rw [h3]
  exact (NM.fst_miss fun i hi => zF (h5 i (by omega) hi)).symm
section
variable {F : Fence} {n : Nat} {ops : Array Oper} {Q : Exit → Act → World → Prop} {a : Act} {w : World} {rest : List Oper} {o : Oper}
theorem wpListIn_fmap (hg : o.guard = none) (hsem : o.semAt F.round a.eval = execOp a.eval o) (hab : ∀ f, F.fn f) (m x v : Operand) (hop : o.op = Op.mapUpdate 154 m x v) (B k : Nat) (f : ByteArray → Int)
 (hm : a.eval m = .map (some B)) (hc : FMap w B k f) (hn : k < maxLen) (s : ByteArray) (hs : s.size ≤ maxLen) (c : Nat) (hcb : c < 4294967300) (hx : a.eval x = .string s) (hv : a.eval v = .int .i64 c)
 (hK : ∀ w', FMap w' B (k + 1) (fun t => if t = s then c else f t) → w.grownBy w' (some B) → wpListIn F n Tryz.prog ops Q rest (a.put o.dst undef) w') :
 wpListIn F n Tryz.prog ops Q (o :: rest) a w := by
 obtain ⟨D, h1, h2, h3⟩ := hc
 obtain ⟨w', hrun, hown, hgr⟩ := h1.update lawStr Tryz.underlying154 hn (WideMaps.keyOf_string_mk Tryz.underlying9 hs) (plainElem_int Tryz.underlying3 (WalkArith.wf_i64 (by omega)) : plainElem Tryz.prog 3 (.int .i64 (c : Int)) = _)
 refine wpListIn_plain hg fun K hK' => ⟨fun f _ => hab f, ?_⟩
 rw [hsem]
 unfold execOp
 simp only [hop, hm, hx, hv, Sem.run_bind, hrun, Sem.run_pure, Result.andThen_ok]
 refine hK' _ _ (hK w' ⟨_, hown, h2.put _ _, fun t ht => ?_⟩ hgr)
 by_cases hts : t = s
 ·subst hts
  rw [atKey_put_same h2 (by simp [WideAt.IsKeyLit]), has_put_same h2 (by simp [WideAt.IsKeyLit])]
  simp
 ·have e2 : ((fun t => if t = s then (c : Int) else f t) t) = f t := if_neg hts
  have hne : Lit.string t.data.toList ≠ Lit.string s.data.toList := by
   intro e
   apply hts
   simp only [Lit.string.injEq] at e
   cases t; cases s
   simp only [ByteArray.mk.injEq]
   exact Array.toList_inj.1 e
  rw [e2, atKey_put_other hne, has_put_other hne]
  exact h3 t ht
end
theorem keepsFrom_low {B : Nat} {W W' : World} (h : Below W.heap.size W W') : KeepsFrom B W W' :=
 ⟨h.size, fun k o _ hk _ => (h.block k (Array.getElem?_eq_some_iff.1 hk).1).trans hk⟩
theorem kpB_low {n₀ Bs : Nat} {W W' : World} (h : Below W.heap.size W W') (hn : n₀ ≤ W.heap.size) (hb : Bs < W.heap.size) : KpB n₀ Bs W W' := ⟨h.mono hn, h.block Bs hb⟩
theorem vlv_size (x : Vl) : (vlC x).toArray.size = 9 := vlC_len x
theorem vlv_info (x : Vl) : (Tryz.prog.info? 43).map (·.size) = some (vlC x).toArray.size := by rw [vlv_size]; kernel_rfl
theorem vlv_one (x : Vl) : (vlC x).toArray.all (·.oneCell') = true := all_oneCell_toArray (vlC_one x)
attribute [local go_sem] Oper.semAt_some
structure GetF (xs : List Vl) (A : Option Addr) (c gm gl B n : Nat) (W : World) : Prop where
 mp : RowAt W gm 154 #[.map (some B)]
 row : RowAt W gl 38 #[.slice A xs.length c]
 map : FMap W B n (ixV xs)
theorem getter_any (A : Option Addr) (c : Nat) (xs : List Vl) (w : World) (hmax : xs.length ≤ 4294967296) (hs : ∀ v ∈ xs, v.s.size ≤ maxLen) (hA : Ls vlC w A xs) :
 Calls Tryz.prog 90 #[.slice A xs.length c] w fun e w' => ∃ gm gl B n, e = .returned (.func (.func 119) #[] #[.pointer (some ⟨gm, 0, none⟩), .pointer (some ⟨gl, 0, none⟩)]) ∧ GetF xs A c gm gl B n w' ∧ Below w.heap.size w w' := by
 refine (callsIn_wide (n := 4)).1 ?_
 refine callsIn_of_wp_marks Tryz.func90 rfl trivial ?_ rfl
 simp only [Tryz.ntmps90, List.size_toArray, zA8, zA9, Nat.reduceAdd, Nat.reduceSub, Array.replicate_succ, Array.replicate_zero, List.push_toArray, List.append_toArray, List.nil_append, List.cons_append]
 refine wpIn_wide.2 ?_
 have hmm := run_makeMapTo
 have hsz1 : (w.alloc (.cells #[.slice A xs.length c] 38)).heap.size = w.heap.size + 1 := by simp
 have r1 := RowAt.new w 38 #[.slice A xs.length c]
 have hb1 : Below w.heap.size w (w.alloc (.cells #[.slice A xs.length c] 38)) := (zB _ _).alloc (zL _) _
 obtain ⟨L, hL⟩ : ∃ L, xs.length = L := ⟨_, rfl⟩
 have HSS : Hid (∀ i, i < xs.length → (xs.getD i vl0).s.size ≤ maxLen) := fun i hi => hs _ (getD_mem' hi)
 have HA := zh hA
 clear hs hA
 rw [hL] at hsz1 r1 hb1 hmax ⊢
 go_upto_region 1 with fail
 change Code.wp _ _ _ _ (w.alloc (.cells #[.slice A L c] 38))
 generalize w.alloc (.cells #[.slice A L c] 38) = w1 at *
 have c1 := r1.cell 0
 have HB1 := zh hb1
 have HR1 := zh r1
 have HSZ1 := zh hsz1
 clear hb1 r1 hsz1
 go_upto_region 2 with fail
 have m2 : FMap ((w1.alloc (.map #[] 0)).alloc (.cells #[.map (some w1.heap.size)] 154)) w1.heap.size 0 (fun _ => -1) :=
  (FMap.new w1).below (b := w1.heap.size + 1) (by rw [show w1.heap.size + 1 = (w1.alloc (.map #[] 0)).heap.size by simp]; exact (zB _ _).alloc (zL _) _) (by omega)
 have rg2 : RowAt ((w1.alloc (.map #[] 0)).alloc (.cells #[.map (some w1.heap.size)] 154)) (w1.heap.size + 1) 154 #[.map (some w1.heap.size)] := by
  have := RowAt.new (w1.alloc (.map #[] 0)) 154 #[.map (some w1.heap.size)]
  rwa [show (w1.alloc (.map #[] 0)).heap.size = w1.heap.size + 1 by simp] at this
 have hb2 : Below w1.heap.size w1 ((w1.alloc (.map #[] 0)).alloc (.cells #[.map (some w1.heap.size)] 154)) := ((zB _ _).alloc (zL _) _).alloc (by simp) _
 change Code.wp _ _ _ _ ((w1.alloc (.map #[] 0)).alloc (.cells #[.map (some w1.heap.size)] 154))
 generalize (w1.alloc (.map #[] 0)).alloc (.cells #[.map (some w1.heap.size)] 154) = u2 at *
 obtain ⟨mB, hmB⟩ : ∃ z, z = w1.heap.size := ⟨_, rfl⟩
 rw [← hmB] at m2 rg2 hb2 ⊢
 have HB2 := zh (HB1.out.trans (hb2.mono (by rw [hmB]; exact HB1.out.size)))
 have HR2 := zh (HR1.out.below hb2 (by rw [hmB]; exact HR1.out.lt))
 have cl2 := HR2.out.cell 0
 have HM2 := zh m2
 have HG2 := zh rg2
 have hq0 : w.heap.size + 1 = mB := by rw [hmB]; exact HSZ1.out.symm
 clear hb2 m2 rg2 c1 hmB HSZ1 HR1 HB1
 go_wp2_with (go_at_call 118; refine (vlBack_any _ _ _ _).mono ?_; rintro e w3 ⟨rfl, rfl⟩)
 have hW0 : Below u2.heap.size u2 (u2.alloc (.cells #[.slice A L c] 38)) := (zB _ _).alloc (zL _) _
 have hBX := RowAt.new u2 38 #[.slice A L c]
 obtain ⟨gK, hgK⟩ : ∃ z, z = u2.heap.size := ⟨_, rfl⟩
 rw [← hgK] at hBX
 rw [← hgK]
 generalize u2.alloc (.cells #[.slice A L c] 38) = W0 at *
 have hs0 := hW0.size
 have hbx := hBX.lt
 have hgmL := HG2.out.lt
 have B0 : Below w.heap.size w W0 := HB2.out.trans (hW0.mono (by omega))
 have hSl0 : Sl W0 w.heap.size A (xs.flatMap vlC) := Sl.below HA.out B0
 have R5 : RowAt W0 (mB + 1) 154 #[.map (some mB)] := HG2.out.below hW0 hgmL
 have R6 : RowAt W0 w.heap.size 38 #[.slice A L c] := HR2.out.below hW0 HR2.out.lt
 have M0 : FMap W0 mB 0 (fun _ => -1) := HM2.out.below hW0 HM2.out.lt
 have q1 : mB + 1 < gK := by omega
 have q2 : gK < W0.heap.size := hbx
 clear hs0 hgK hgmL HG2 HR2 HM2 cl2
 refine (wpIn_wide (n := 4)).1 ?_
 refine wpIn_rangeFunc_ownH rfl (by omega) (gf := 158) (lb := #[.pointer (some ⟨gK, 0, none⟩)]) rfl trivial (enters_of Tryz.func158 (by kernel_rfl) rfl)
  (vlBack_stops (4 - 1) gK w.heap.size L c A xs hL hmax W0 hbx (by omega) ((hBX.cell 0).trans rfl) hSl0) kpB_t (kpB_b (by omega) hbx) (zB _ _) (fun _ => rfl)
  (fun pre W => ((RowAt W (mB + 1) 154 #[.map (some mB)] ∧ RowAt W w.heap.size 38 #[.slice A L c]) ∧ FMap W mB pre.length (gB xs (pre.map (·.1)))) ∧ (W0.heap.size ≤ W.heap.size ∧ Below w.heap.size w W))
  (fun _ _ _ => False)
  ?hI (fun _ _ _ _ _ hs _ _ => hs)
  ⟨⟨⟨R5, R6⟩, M0⟩, zL _, B0⟩
  (fun x a' W => ∃ Bx, W0.heap.size ≤ Bx ∧ RowAt W Bx 43 (vlC (xs.getD x.1 vl0)).toArray ∧ a' = { tmps := #[.slice A L c, .pointer (some ⟨w.heap.size, 0, none⟩), .nilFunc, .pointer (some ⟨mB + 1, 0, none⟩), .int .i64 (x.1 : Int), .pointer (some ⟨Bx, 0, none⟩), .slice A L c, .int .i64 (L : Int), .map (some mB), .slice A L c,
   .func (.func 158) #[] #[.pointer (some ⟨gK, 0, none⟩)], .int .i64 (x.1 : Int), .agg (vlC (xs.getD x.1 vl0)).toArray, undef, undef, undef, undef, undef], defers := [] })
  ?hAx ?assign ?body ?done ?stop
 case hI =>
  intro pre X Y row hs hg hr
  refine ⟨⟨⟨hs.1.1.1.grown hg fun e => ?_, hs.1.1.2.grown hg fun e => ?_⟩, hs.1.2.kept hg fun e => ?_⟩, zM hs.2.1 hg.size, hs.2.2.grown hg hs.2.2.size fun j e => ?_⟩
  ·have := (hr _ e).1; omega
  ·have := (hr _ e).1; omega
  ·have := (hr _ e.symm).1; omega
  ·have := (hr _ e).1; omega
 case hAx =>
  rintro x a' u X Y row ⟨Bx, hx, hrw, rfl⟩ hg hr
  refine ⟨Bx, hx, hrw.grown hg fun e => ?_, rfl⟩
  obtain ⟨_, o, ho, hc⟩ := hr _ e
  rw [show X.heap[Bx]? = _ from hrw] at ho
  cases ho
  cases hc
 case assign =>
  intro l pre x W K hi hK
  unfold encB
  obtain ⟨⟨⟨i5, i6⟩, im⟩, isz, ibw⟩ := hi
  have HI5 := zh i5
  have HI6 := zh i6
  have HIM := zh im
  have HIS := zh isz
  have HIB := zh ibw
  have HXI := zh (vlv_info (xs.getD x.1 vl0))
  have HXS := zh (vlv_size (xs.getD x.1 vl0))
  have HXO := zh (vlv_one (xs.getD x.1 vl0))
  have HKC := zh hK
  clear i5 i6 im isz ibw hK
  generalize (vlC (xs.getD x.1 vl0)).toArray = ex at *
  gi_wp2_with (refine wpListIn_stRow rfl (by first | rfl | exact Oper.semAt_some _ _ _ (fun _ h => by cases h)) (fun _ => trivial) _ _ _ rfl W.heap.size ex rfl rfl _ _ (RowAt.new _ _ _) HXI.out (by rw [HXS.out]; rfl) HXO.out ?_; intro W1 rW he; have HW1 : Hid (Below W.heap.size W W1) := zh (((zB _ _).alloc (zL _) _).trans (he.below (zL _))); have HRW := zh rW; clear rW he)
  have h5 : mB + 1 < W.heap.size := HI5.out.lt
  have h6 : w.heap.size < W.heap.size := HI6.out.lt
  refine HKC.out _ _ (keepsFrom_low HW1.out) (kpB_low HW1.out (by omega) (by have := HIS.out; omega)) ⟨⟨⟨HI5.out.below HW1.out h5, HI6.out.below HW1.out h6⟩, HIM.out.below HW1.out HIM.out.lt⟩, zM HIS.out HW1.out.size, HIB.out.trans (HW1.out.mono HIB.out.size)⟩ ⟨W.heap.size, HIS.out, HRW.out, ?_⟩
  rfl
 case body =>
  rintro l pre x a' W hl ⟨r, hr⟩ ⟨⟨⟨r5, r6⟩, rm⟩, hsz, hbw⟩ ⟨Bx, hBx, rx, rfl⟩ hlen
  have c5 := (r5.cell 0).trans (show (#[Value.map (some mB)] : Array Value)[0]? = some (.map (some mB)) from rfl)
  have cx : W.cell? ⟨Bx, 0, none⟩ = some (.string (xs.getD x.1 vl0).s) := rx.cell 0
  have hsn : gB xs ((pre ++ [x]).map (·.1)) = fun t => if t = (xs.getD x.1 vl0).s then (x.1 : Int) else gB xs (pre.map (·.1)) t := by
   rw [List.map_append]; exact gB_snoc xs _ x.1
  have hln : (pre ++ [x]).length = pre.length + 1 := by simp
  have HSN := zh hsn
  have HLN := zh hln
  have HR5 := zh r5
  have HR6 := zh r6
  have HRM := zh rm
  have HS9 := zh hsz
  have HBW := zh hbw
  have HSX := zh (HSS.out x.1 x.2)
  have hxl : x.1 < 4294967300 := by have := x.2; omega
  have HXL := zh hxl
  have hpl : pre.length < maxLen := by unfold maxLen; omega
  have HPL := zh hpl
  clear r5 r6 rm rx hsz hbw hr hsn hln hxl hpl
  generalize (xs.getD x.1 vl0).s = sx at *
  generalize gB xs (pre.map (·.1)) = fx at *
  gi_wp2_with (refine wpListIn_fmap rfl (by first | rfl | exact Oper.semAt_some _ _ _ (fun _ h => by cases h)) (fun _ => trivial) _ _ _ rfl mB pre.length fx rfl HRM.out HPL.out sx HSX.out x.1 HXL.out rfl rfl ?_; intro W2 hm2 hg2; have HM2 := zh hm2; have HGR := zh hg2; clear hm2 hg2)
  have hs2 : W.heap.size ≤ W2.heap.size := HGR.out.size
  have h5 : mB + 1 < W.heap.size := HR5.out.lt
  have hB2 : Below w.heap.size W W2 := (zB _ _).grown HGR.out (by omega) (fun j e => by injection e with e; omega)
  refine ⟨⟨by omega, fun j o hj hjo ho => ?_⟩, ⟨hB2, ?_⟩, ⟨⟨⟨?_, ?_⟩, ?_⟩, by have := HS9.out; omega, HBW.out.trans hB2⟩⟩
  ·exact (HGR.out.block j (Array.getElem?_eq_some_iff.1 hjo).1 (fun e => by injection e with e; omega)).trans hjo
  ·exact HGR.out.block gK (by have := HS9.out; omega) (fun e => by injection e with e; omega)
  ·exact HR5.out.grown HGR.out (fun e => by injection e with e; omega)
  ·exact HR6.out.grown HGR.out (fun e => by injection e with e; omega)
  ·rw [HSN.out, HLN.out]; exact HM2.out
 case done =>
  rintro D ys W hD hS ⟨⟨⟨r5, r6⟩, rm⟩, hsz, hbw⟩ hK
  have hfin : ys.map (·.1) = downTo L L := hS
  rw [hfin] at rm
  have hga : gB xs (downTo L L) = ixV xs := by rw [← hL]; exact gB_all xs
  rw [hga] at rm
  have HD := zh hD
  have HR5 := zh r5
  have HR6 := zh r6
  have HRM := zh rm
  have HSZ := zh hsz
  have HBW := zh hbw
  have HK := zh hK
  clear r5 r6 rm hsz hbw hK hD hga
  go_wp2_with fail
  have hput : ∀ (g : Nat) (o' : Obj), g < W0.heap.size → (W.putObj D o').heap[g]? = W.heap[g]? := fun g o' hg => by
   unfold World.putObj
   simp only [Array.getElem?_setIfInBounds]
   rw [if_neg (by have := HD.out; omega)]
  refine ⟨by simp, .inl ⟨_, _, rfl, run_takeDeferred HK.out, ?_⟩⟩
  refine ⟨_, results_tmp rfl _ _ _, mB + 1, w.heap.size, mB, ys.length, rfl, ⟨(hput _ _ (by omega)).trans HR5.out, ?_, HRM.out.same (hput _ _ (by omega))⟩, HBW.out.trans (belowK_b (w := w) (zL _) W D _ _ (by have := HD.out; omega) HK.out rfl rfl)⟩
  rw [hL]
  exact (hput _ _ (by omega)).trans HR6.out
 case stop =>
  rintro D c' pre W _ _ h _
  exact h.elim
end
section
open Go.RowKit RM Go.Maps
theorem GetF.below {xs : List Vl} {A : Option Addr} {c gm gl B n : Nat} {W W' : World} (h : GetF xs A c gm gl B n W) (hb : Below W.heap.size W W') : GetF xs A c gm gl B n W' := ⟨h.mp.below hb h.mp.lt, h.row.below hb h.row.lt, h.map.below hb h.map.lt⟩
theorem getter1_any (A : Option Addr) (c : Nat) (xs : List Vl) (gm gl B n : Nat) (t : ByteArray) (ht : t.size ≤ maxLen) (w : World) (hG : GetF xs A c gm gl B n w) (hA : Ls vlC w A xs) :
 Calls Tryz.prog 119 #[.string t, .pointer (some ⟨gm, 0, none⟩), .pointer (some ⟨gl, 0, none⟩)] w fun e w' => e = .returned (getR (getV xs t)) ∧ Below w.heap.size w w' := by
 have r0 := zel_row w
 have hb := zel_below w
 refine cHid fun Q' hQ => ?_
 have HQ := zh hQ; clear hQ
 have hG1 := hG.below hb
 have hlk := hG1.map.ok ht
 have hbd := ixV_lt xs t
 have HINF0 := zh (elv_info el0)
 have HONE0 := zh (elv_one el0)
 have HZV : Hid ((Value.agg #[.int .u64 0, .int .u64 0, .int .u64 0, .int .u64 0, .int .u64 0, .int .u64 0, .int .u64 0, .int .u64 0]) = .agg (elv el0)) := by
  show _ = _
  rw [elv_zero]
 by_cases h0 : 0 ≤ ixV xs t
 ·obtain ⟨k, hk⟩ := Int.eq_ofNat_of_zero_le h0
  have hv : getV xs t = ((xs.getD k vl0).e, true) := by rw [getV_hit h0, hk]; rfl
  rw [hv] at HQ
  rw [if_pos h0, zE h0, hk] at hlk
  have hkn : k < xs.length := by omega
  obtain ⟨b, o, rfl, hbb, hc⟩ := hA.at 9 vlC_len (by omega) vl0 (i := k) hkn
  have HE : Hid (∀ W, Below w.heap.size w W → W.rangeAt b (o + k * 9 + 1) (elC (xs.getD k vl0).e)) := fun W h => range_el (range_below (hc k hkn) h hbb)
  have cm := hG1.mp.cell 0
  have cl := hG1.row.cell 0
  clear hc hA hv h0 hk hG hG1
  generalize (xs.getD k vl0).e = q at *
  have HZ : Hid ((Tryz.prog.info? 41).map (·.size) = some (elC q).length) := by
   show _ = _
   rw [elC_len]; kernel_rfl
  have HINF := zh (elv_info q)
  have HSZ := zh (show (elv el0).size = (elv q).size by rw [elv_size, elv_size])
  have HONE := zh (elv_one q)
  generalize xs.length = m at *
  go_enter Tryz.func119, Tryz.ntmps119
  go_upto_region 1 with fail
  change Code.wp _ _ _ _ (w.alloc (.cells #[.int .u64 0, .int .u64 0, .int .u64 0, .int .u64 0, .int .u64 0, .int .u64 0, .int .u64 0, .int .u64 0] 41))
  generalize w.alloc (.cells #[.int .u64 0, .int .u64 0, .int .u64 0, .int .u64 0, .int .u64 0, .int .u64 0, .int .u64 0, .int .u64 0] 41) = w1 at *
  have HB := zh hb
  have HR0 := zh r0
  have HE1 := zh (HE.out w1 hb)
  clear hb r0 HE
  go_wp2_with (first
   | (refine wpList_ldIn (by rfl) _ _ rfl b (o + k * 9 + 1) rfl _ _ HE1.out Tryz.underlying41 rfl HZ.out ?_)
   | (refine wpList_stRow (by rfl) _ _ _ rfl w.heap.size (elv q) rfl rfl _ _ HR0.out HINF.out HSZ.out HONE.out ?_; intro w3 hr3 he3; have HR3 := zh hr3; have HB3 := zh (he3.belowG (zL _) HB.out); clear hr3 he3))
  exact bodyPost_ret (ret_cell_slot rfl _ _ (.bool true) w.heap.size _ _ (0, 0) _ rfl rfl HR3.out Tryz.underlying41 rfl HINF.out) rfl (HQ.out _ _ ⟨rfl, HB3.out⟩)
 ·have hv : getV xs t = (el0, false) := getV_miss (by omega)
  rw [hv] at HQ
  rw [if_neg h0, zF h0] at hlk
  have cm := hG1.mp.cell 0
  clear hv h0 hA hbd hG hG1
  go_enter Tryz.func119, Tryz.ntmps119
  go_upto_region 1 with fail
  change Code.wp _ _ _ _ (w.alloc (.cells #[.int .u64 0, .int .u64 0, .int .u64 0, .int .u64 0, .int .u64 0, .int .u64 0, .int .u64 0, .int .u64 0] 41))
  generalize w.alloc (.cells #[.int .u64 0, .int .u64 0, .int .u64 0, .int .u64 0, .int .u64 0, .int .u64 0, .int .u64 0, .int .u64 0] 41) = w1 at *
  have HB := zh hb
  have HR0 := zh r0
  clear hb r0
  go_wp2_with (refine wpList_stRow (by rfl) _ _ _ rfl w.heap.size (elv el0) rfl HZV.out _ _ HR0.out HINF0.out rfl HONE0.out ?_; intro w3 hr3 he3; have HR3 := zh hr3; have HB3 := zh (he3.belowG (zL _) HB.out); clear hr3 he3)
  exact bodyPost_ret (ret_cell_slot rfl _ _ (.bool false) w.heap.size _ _ (0, 0) _ rfl rfl HR3.out Tryz.underlying41 rfl HINF0.out) rfl (HQ.out _ _ ⟨rfl, HB3.out⟩)
theorem lqR_bad {l m : List Vl} {i : Nat} (h : i < l.length) (h2 : lqV m (l.getD i vl0) = false) : lqR l m = false := all_hit vl0 i h h2
theorem lqR_ok {l m : List Vl} (h : ∀ i, i < l.length → lqV m (l.getD i vl0) = true) : lqR l m = true := all_done vl0 h
theorem rowLeq_any (A : Option Addr) (c : Nat) (l : List Vl) (B : Option Addr) (d : Nat) (m : List Vl) (w : World) (hl : l.length ≤ maxLen) (hm : m.length ≤ 4294967296) (hln : ∀ v ∈ l, v.s.size ≤ maxLen) (hmn : ∀ v ∈ m, v.s.size ≤ maxLen) (hA : Ls vlC w A l) (hB : Ls vlC w B m) :
 Calls Tryz.prog 52 #[.slice A l.length c, .slice B m.length d] w fun e w' => e = .returned (.bool (lqR l m)) ∧ Below w.heap.size w w' := by
 refine cHid fun Q' hQ => ?_
 have HQ := zh hQ; clear hQ
 have HGT := zh (getter_any B d m w hm hmn hB)
 have HBAD : Hid (∀ i, i < l.length → lqV m (l.getD i vl0) = false → lqR l m = false) := fun i h h2 => lqR_bad h h2
 have HOK : Hid ((∀ i, i < l.length → lqV m (l.getD i vl0) = true) → lqR l m = true) := fun h => lqR_ok h
 have HLN : Hid (∀ i, i < l.length → (l.getD i vl0).s.size ≤ maxLen) := fun i hi => hln _ (getD_mem' hi)
 have HA := zh hA
 have HMB := zh hB
 have hl' : l.length ≤ 9223372036854775807 := hl
 clear hl hm hln hmn hA hB
 generalize lqR l m = R at *
 generalize hn : l.length = n at *
 have HN := zh hn; clear hn
 have hf : ∀ args w, (callFunc 119 args).run Tryz.prog w = .ok (.enter 119 args) w := fun _ _ => by kernel_rfl
 go_enter Tryz.func52, Tryz.ntmps52
 go_wp2_with (go_at_call 90; refine HGT.out.mono ?_; rintro e w5 hk; obtain ⟨gm, gl, mB, mn, rfl, hgf, hb5⟩ := hk; have HGF := zh hgf; have HB5 := zh hb5; clear hgf hb5)
 have HGC : Hid (∀ W, Below w5.heap.size w5 W → ∀ t : ByteArray, t.size ≤ maxLen → Calls Tryz.prog 119 #[.string t, .pointer (some ⟨gm, 0, none⟩), .pointer (some ⟨gl, 0, none⟩)] W fun e w' => e = .returned (getR (getV m t)) ∧ Below W.heap.size W w') := fun W h t ht =>
  getter1_any B d m gm gl mB mn t ht W (HGF.out.below h) (HMB.out.below (HB5.out.trans (h.mono HB5.out.size)))
 clear HGF HMB HGT
 go_loopw [14] (fun iv wr => ∃ i : Nat, i ≤ n ∧ iv = .int .i64 i ∧ Hid (∀ j, j < i → lqV m (l.getD j vl0) = true) ∧ Hid (Below w5.heap.size w5 wr)) (fun iv _ => n - (intOf iv).toNat)
 case atStart => exact ⟨0, by omega, rfl, fun j hj => by omega, zB _ _⟩
 case round =>
  obtain ⟨i, hi, rfl, HF, HW⟩ := hrel
  have HBW := zh (HB5.out.trans (HW.out.mono HB5.out.size))
  by_cases hlt : i < n
  ·obtain ⟨bk, o, rfl, hbk, hc⟩ := (HA.out.below HBW.out).at 9 vlC_len (by omega) vl0 (i := i) (by rw [HN.out]; exact hlt)
   have hr := hc i (by rw [HN.out]; exact hlt)
   have HBD := zh (HBAD.out i hlt)
   have HNX : Hid (lqV m (l.getD i vl0) = true → ∀ j, j < i + 1 → lqV m (l.getD j vl0) = true) := fun h j hj => by
        by_cases e : j = i
        ·rw [e]; exact h
        ·exact HF.out j (by omega)
   have hsz := HLN.out i hlt
   have htv : lqV m (l.getD i vl0) = ((getV m (l.getD i vl0).s).2 && leqE (l.getD i vl0).e.1 (getV m (l.getD i vl0).s).1.1) := rfl
   have HGI := zh (fun W h => HGC.out W h (l.getD i vl0).s hsz)
   have HLE := zh (fun W => sleq_any (l.getD i vl0).e.1 (getV m (l.getD i vl0).s).1.1 (l.getD i vl0).e.2 (getV m (l.getD i vl0).s).1.2 W)
   clear hc HF hsz
   generalize lqV m (l.getD i vl0) = T at *
   generalize hgv : getV m (l.getD i vl0).s = G at *
   clear hgv
   generalize leqE (l.getD i vl0).e.1 G.1.1 = q at *
   generalize l.getD i vl0 = x at *
   obtain ⟨s, e, he⟩ := x
   obtain ⟨⟨ge, hge⟩, gb⟩ := G
   obtain ⟨e0, e1, e2, e3, e4, e5, e6, e7, rfl⟩ := ew_lit he
   obtain ⟨f0, f1, f2, f3, f4, f5, f6, f7, rfl⟩ := ew_lit hge
   have hr2 : wr.rangeAt bk (o + i * 9) [.string s, .int .u64 e0, .int .u64 e1, .int .u64 e2, .int .u64 e3, .int .u64 e4, .int .u64 e5, .int .u64 e6, .int .u64 e7] := hr
   have HR := zh hr2
   simp only at htv
   have HGI' : Hid (∀ W, Below w5.heap.size w5 W → Calls Tryz.prog 119 #[.string s, .pointer (some ⟨gm, 0, none⟩), .pointer (some ⟨gl, 0, none⟩)] W fun e w' => e = .returned (.tuple #[.agg #[.int .u64 f0, .int .u64 f1, .int .u64 f2, .int .u64 f3, .int .u64 f4, .int .u64 f5, .int .u64 f6, .int .u64 f7], .bool gb]) ∧ Below W.heap.size W w') := HGI.out
   have HLE' : Hid (∀ W, Calls Tryz.prog 50 #[.agg #[.int .u64 e0, .int .u64 e1, .int .u64 e2, .int .u64 e3, .int .u64 e4, .int .u64 e5, .int .u64 e6, .int .u64 e7], .agg #[.int .u64 f0, .int .u64 f1, .int .u64 f2, .int .u64 f3, .int .u64 f4, .int .u64 f5, .int .u64 f6, .int .u64 f7]] W fun e w' => e = .returned (.bool q) ∧ Below W.heap.size W w') := HLE.out
   have HTV := zh htv
   clear hr hr2 htv HGI HLE
   have r9 := RowAt.new wr 43 #[.string s, .int .u64 e0, .int .u64 e1, .int .u64 e2, .int .u64 e3, .int .u64 e4, .int .u64 e5, .int .u64 e6, .int .u64 e7]
   have hb9 : Below wr.heap.size wr (wr.alloc (.cells #[.string s, .int .u64 e0, .int .u64 e1, .int .u64 e2, .int .u64 e3, .int .u64 e4, .int .u64 e5, .int .u64 e6, .int .u64 e7] 43)) := (zB _ _).alloc (zL _) _
   go_upto_region 5 with (refine wpList_ldIn (by rfl) _ _ rfl bk (o + i * 9) rfl _ _ HR.out Tryz.underlying43 rfl (by kernel_rfl) ?_)
   change Code.wp _ _ _ _ (wr.alloc (.cells #[.string s, .int .u64 e0, .int .u64 e1, .int .u64 e2, .int .u64 e3, .int .u64 e4, .int .u64 e5, .int .u64 e6, .int .u64 e7] 43))
   have HW9 := zh (HW.out.trans (hb9.mono HW.out.size))
   generalize hgx : wr.heap.size = gx at *
   generalize wr.alloc (.cells #[.string s, .int .u64 e0, .int .u64 e1, .int .u64 e2, .int .u64 e3, .int .u64 e4, .int .u64 e5, .int .u64 e6, .int .u64 e7] 43) = w9 at *
   have k0 : w9.cell? ⟨gx, 0, none⟩ = some (.string s) := r9.cell 0
   have HX9 := zh r9
   have HGI9 := zh (HGI'.out w9 HW9.out)
   clear r9 hb9 hgx HGI'
   go_wp2_with fail
   refine HGI9.out.mono ?_
   rintro ee w10 ⟨rfl, hb10⟩
   have HW10 := zh (HW9.out.trans (hb10.mono HW9.out.size))
   have HX10 := zh (HX9.out.below hb10 HX9.out.lt)
   clear hb10 HGI9 k0 HX9
   have r11 := RowAt.new w10 41 #[.int .u64 f0, .int .u64 f1, .int .u64 f2, .int .u64 f3, .int .u64 f4, .int .u64 f5, .int .u64 f6, .int .u64 f7]
   have hb11 : Below w10.heap.size w10 (w10.alloc (.cells #[.int .u64 f0, .int .u64 f1, .int .u64 f2, .int .u64 f3, .int .u64 f4, .int .u64 f5, .int .u64 f6, .int .u64 f7] 41)) := (zB _ _).alloc (zL _) _
   go_upto_region 6 with fail
   change Code.wp _ _ _ _ (w10.alloc (.cells #[.int .u64 f0, .int .u64 f1, .int .u64 f2, .int .u64 f3, .int .u64 f4, .int .u64 f5, .int .u64 f6, .int .u64 f7] 41))
   generalize hgy : w10.heap.size = gy at *
   have HX11 := zh (HX10.out.below (by rw [hgy]; exact hb11) HX10.out.lt)
   generalize w10.alloc (.cells #[.int .u64 f0, .int .u64 f1, .int .u64 f2, .int .u64 f3, .int .u64 f4, .int .u64 f5, .int .u64 f6, .int .u64 f7] 41) = w11 at *
   have HW11 := zh (HW10.out.trans (hb11.mono (by rw [← hgy]; exact HW10.out.size)))
   have HR11 := zh r11
   obtain ⟨d1, d2, d3, d4, d5, d6, d7, d8⟩ := vl_cells8 HX11.out
   clear r11 hb11 hgy HX10
   cases gb
   ·have HFA := zh (HBD.out (by rw [HTV.out]; simp))
    clear d1 d2 d3 d4 d5 d6 d7 d8 HLE'
    go_wp2_with fail
    exact HQ.out _ _ ⟨ret_eq (bool_eq HFA.out.symm), HB5.out.trans (HW11.out.mono HB5.out.size)⟩
   ·have HTQ : Hid (T = q) := by
     show T = q
     rw [HTV.out, Bool.true_and]
    cases q
    ·have HFA := zh (HBD.out HTQ.out)
     go_wp2_with (first
      | (refine wpList_loadS (by rfl) _ _ rfl gy rfl _ _ _ HR11.out Tryz.underlying41 rfl (by kernel_rfl) ?_)
      | (go_at_call 50; refine (HLE'.out w11).mono ?_; rintro e w12 ⟨rfl, hb12⟩; have HW12 := zh (HW11.out.trans (hb12.mono HW11.out.size)); clear hb12 d1 d2 d3 d4 d5 d6 d7 d8))
     exact HQ.out _ _ ⟨ret_eq (bool_eq HFA.out.symm), HB5.out.trans (HW12.out.mono HB5.out.size)⟩
    ·have HTR := zh (HNX.out HTQ.out)
     go_wp2_with (first
      | (refine wpList_loadS (by rfl) _ _ rfl gy rfl _ _ _ HR11.out Tryz.underlying41 rfl (by kernel_rfl) ?_)
      | (go_at_call 50; refine (HLE'.out w11).mono ?_; rintro e w12 ⟨rfl, hb12⟩; have HW12 := zh (HW11.out.trans (hb12.mono HW11.out.size)); clear hb12 d1 d2 d3 d4 d5 d6 d7 d8))
     go_roundw
     case rel => exact ⟨i + 1, by omega, by go_num, HTR, HW12⟩
     case measure => simp [intOf]; omega
  ·obtain rfl : i = n := by omega
   have HFA := zh (HOK.out HF.out)
   go_wp2_with fail
   exact HQ.out _ _ ⟨ret_eq (bool_eq HFA.out.symm), HBW.out⟩
end
section
open Go.RowKit RM Go.Maps
theorem getD_big {α : Type} {l : List α} {i : Nat} (d : α) (h : ¬ i < l.length) : l.getD i d = d := by
 rw [List.getD_eq_getElem?_getD, List.getElem?_eq_none (by omega)]; rfl
theorem atElem_any (A : Option Addr) (c : Nat) (xs : List El) (i : Nat) (hi : i ≤ 9223372036854775807) (w : World) (hA : Ls elC w A xs) :
 Calls Tryz.prog 87 #[.slice A xs.length c, .int .i64 i] w fun e w' => e = .returned (.agg (elv (xs.getD i el0))) ∧ Below w.heap.size w w' := by
 have r0 := zel_row w
 have hb := zel_below w
 refine cHid fun Q' hQ => ?_
 have HQ := zh hQ; clear hQ
 by_cases hlt : i < xs.length
 ·obtain ⟨b, o, rfl, hbb, hc⟩ := hA.at 8 elC_len (by omega) el0 (i := i) hlt
  have HE : Hid (∀ W, Below w.heap.size w W → W.rangeAt b (o + i * 8) (elC (xs.getD i el0))) := fun W h => range_below (hc i hlt) h hbb
  clear hc hA
  generalize (xs.getD i el0) = q at *
  have HZ : Hid ((Tryz.prog.info? 41).map (·.size) = some (elC q).length) := by
   show _ = _
   rw [elC_len]; kernel_rfl
  have HINF := zh (elv_info q)
  have HSZ := zh (show (elv el0).size = (elv q).size by rw [elv_size, elv_size])
  have HONE := zh (elv_one q)
  generalize xs.length = m at *
  go_enter Tryz.func87, Tryz.ntmps87
  go_upto_region 1 with fail
  change Code.wp _ _ _ _ (w.alloc (.cells #[.int .u64 0, .int .u64 0, .int .u64 0, .int .u64 0, .int .u64 0, .int .u64 0, .int .u64 0, .int .u64 0] 41))
  generalize w.alloc (.cells #[.int .u64 0, .int .u64 0, .int .u64 0, .int .u64 0, .int .u64 0, .int .u64 0, .int .u64 0, .int .u64 0] 41) = w1 at *
  have HB := zh hb
  have HR0 := zh r0
  have HE1 := zh (HE.out w1 hb)
  clear hb r0 HE
  go_wp2_with (first
   | (refine wpList_ldIn (by rfl) _ _ rfl b (o + i * 8) rfl _ _ HE1.out Tryz.underlying41 rfl HZ.out ?_)
   | (refine wpList_stRow (by rfl) _ _ _ rfl w.heap.size (elv q) rfl rfl _ _ HR0.out HINF.out HSZ.out HONE.out ?_; intro w3 hr3 he3; have HR3 := zh hr3; have HB3 := zh (he3.belowG (zL _) HB.out); clear hr3 he3))
  exact bodyPost_ret (retRow rfl _ _ w.heap.size _ _ (0, 0) _ rfl HR3.out Tryz.underlying41 rfl HINF.out) rfl (HQ.out _ _ ⟨rfl, HB3.out⟩)
 ·rw [getD_big el0 hlt] at HQ
  have HINF0 := zh (elv_info el0)
  have HONE0 := zh (elv_one el0)
  have HZV : Hid ((Value.agg #[.int .u64 0, .int .u64 0, .int .u64 0, .int .u64 0, .int .u64 0, .int .u64 0, .int .u64 0, .int .u64 0]) = .agg (elv el0)) := by
   show _ = _
   rw [elv_zero]
  clear hA
  generalize xs.length = m at *
  go_enter Tryz.func87, Tryz.ntmps87
  go_upto_region 1 with fail
  change Code.wp _ _ _ _ (w.alloc (.cells #[.int .u64 0, .int .u64 0, .int .u64 0, .int .u64 0, .int .u64 0, .int .u64 0, .int .u64 0, .int .u64 0] 41))
  generalize w.alloc (.cells #[.int .u64 0, .int .u64 0, .int .u64 0, .int .u64 0, .int .u64 0, .int .u64 0, .int .u64 0, .int .u64 0] 41) = w1 at *
  have HB := zh hb
  have HR0 := zh r0
  clear hb r0
  have r5 := RowAt.new w1 41 #[.int .u64 0, .int .u64 0, .int .u64 0, .int .u64 0, .int .u64 0, .int .u64 0, .int .u64 0, .int .u64 0]
  have hb5 : Below w1.heap.size w1 (w1.alloc (.cells #[.int .u64 0, .int .u64 0, .int .u64 0, .int .u64 0, .int .u64 0, .int .u64 0, .int .u64 0, .int .u64 0] 41)) := (zB _ _).alloc (zL _) _
  go_upto_region 4 with fail
  change Code.wp _ _ _ _ (w1.alloc (.cells #[.int .u64 0, .int .u64 0, .int .u64 0, .int .u64 0, .int .u64 0, .int .u64 0, .int .u64 0, .int .u64 0] 41))
  generalize w1.alloc (.cells #[.int .u64 0, .int .u64 0, .int .u64 0, .int .u64 0, .int .u64 0, .int .u64 0, .int .u64 0, .int .u64 0] 41) = w2 at *
  have HR2 := zh (HR0.out.below hb5 HR0.out.lt)
  have HB2 := zh (HB.out.trans (hb5.mono HB.out.size))
  have HR5 := zh r5
  clear hb5 r5
  go_wp2_with (first
   | (refine wpList_loadS (by rfl) _ _ rfl w1.heap.size rfl _ _ _ HR5.out Tryz.underlying41 rfl (by kernel_rfl) ?_)
   | (refine wpList_stRow (by rfl) _ _ _ rfl w.heap.size (elv el0) rfl HZV.out _ _ HR2.out HINF0.out rfl HONE0.out ?_; intro w3 hr3 he3; have HR3 := zh hr3; have HB3 := zh (he3.belowG (zL _) HB2.out); clear hr3 he3))
  exact bodyPost_ret (retRow rfl _ _ w.heap.size _ _ (0, 0) _ rfl HR3.out Tryz.underlying41 rfl HINF0.out) rfl (HQ.out _ _ ⟨rfl, HB3.out⟩)
theorem atRow_any (A : Option Addr) (c : Nat) (xs : List Rw) (i : Nat) (hi : i ≤ 9223372036854775807) (w : World) (hA : Ls rwC w A xs) :
 Calls Tryz.prog 89 #[.slice A xs.length c, .int .i64 i] w fun e w' => e = .returned (.slice (xs.getD i rw0).A (xs.getD i rw0).l.length (xs.getD i rw0).c) ∧ w' = w := by
 by_cases hlt : i < xs.length
 ·obtain ⟨b, o, rfl, hbb, hc⟩ := hA.at 1 rwC_len (by omega) rw0 (i := i) hlt
  have hx : w.cell? ⟨b, o + i, none⟩ = some (.slice (xs.getD i rw0).A (xs.getD i rw0).l.length (xs.getD i rw0).c) := by simpa using hc i hlt 0 _ rfl
  clear hc hA
  generalize (xs.getD i rw0) = q at *
  generalize xs.length = m at *
  go_enter Tryz.func89, Tryz.ntmps89
  go_wp2
  go_ret
  exact ⟨rfl, rfl⟩
 ·rw [getD_big rw0 hlt]
  generalize xs.length = m at *
  go_enter Tryz.func89, Tryz.ntmps89
  go_wp2
  go_ret
  exact ⟨rfl, rfl⟩
def lqRw (xs ys : List Rw) : Bool := (List.range xs.length).all fun i => lqR (xs.getD i rw0).l (ys.getD i rw0).l
theorem belowElem_any (A : Option Addr) (c : Nat) (xs : List El) (B : Option Addr) (d : Nat) (ys : List El) (w : World) (hl : xs.length ≤ maxLen) (hA : Ls elC w A xs) (hB : Ls elC w B ys) :
 Calls Tryz.prog 49 #[.slice A xs.length c, .slice B ys.length d, .func (.func 50) #[] #[]] w fun e w' => e = .returned (.bool (lqL xs ys)) ∧ Below w.heap.size w w' := by
 refine cHid fun Q' hQ => ?_
 have HQ := zh hQ; clear hQ
 have HBAD : Hid (∀ i, i < xs.length → leqE (xs.getD i el0).1 (ys.getD i el0).1 = false → lqL xs ys = false) := fun i h h2 => rng_hit h h2
 have HOK : Hid ((∀ i, i < xs.length → leqE (xs.getD i el0).1 (ys.getD i el0).1 = true) → lqL xs ys = true) := fun h => rng_done h
 have HA := zh hA
 have HAT := zh (fun W (h : Below w.heap.size w W) i hi => atElem_any B d ys i hi W (hB.below h))
 have hl' : xs.length ≤ 9223372036854775807 := hl
 clear hl hA hB
 generalize lqL xs ys = R at *
 generalize hn : xs.length = n at *
 have HN := zh hn; clear hn
 generalize ys.length = m at *
 have hf : ∀ args w, (callFunc 50 args).run Tryz.prog w = .ok (.enter 50 args) w := fun _ _ => by kernel_rfl
 go_enter Tryz.func49, Tryz.ntmps49
 go_wp2_with fail
 go_loopw [11] (fun iv wr => ∃ i : Nat, i ≤ n ∧ iv = .int .i64 i ∧ Hid (∀ j, j < i → leqE (xs.getD j el0).1 (ys.getD j el0).1 = true) ∧ Hid (Below w.heap.size w wr)) (fun iv _ => n - (intOf iv).toNat)
 case atStart => exact ⟨0, by omega, rfl, fun j hj => by omega, zB _ _⟩
 case round =>
  obtain ⟨i, hi, rfl, HF, HW⟩ := hrel
  by_cases hlt : i < n
  ·obtain ⟨bk, o, rfl, hbk, hc⟩ := (HA.out.below HW.out).at 8 elC_len (by omega) el0 (i := i) (by rw [HN.out]; exact hlt)
   have hr := hc i (by rw [HN.out]; exact hlt)
   have HBD := zh (HBAD.out i hlt)
   have HNX : Hid (leqE (xs.getD i el0).1 (ys.getD i el0).1 = true → ∀ j, j < i + 1 → leqE (xs.getD j el0).1 (ys.getD j el0).1 = true) := fun h j hj => by
        by_cases e : j = i
        ·rw [e]; exact h
        ·exact HF.out j (by omega)
   have HLE := zh (fun W => sleq_any (xs.getD i el0).1 (ys.getD i el0).1 (xs.getD i el0).2 (ys.getD i el0).2 W)
   have HATi := zh (fun W h => HAT.out W h i (by omega))
   clear hc HF
   generalize leqE (xs.getD i el0).1 (ys.getD i el0).1 = q at *
   generalize xs.getD i el0 = x at *
   generalize ys.getD i el0 = y at *
   obtain ⟨e, he⟩ := x
   obtain ⟨e0, e1, e2, e3, e4, e5, e6, e7, rfl⟩ := ew_lit he
   have HLE' : Hid (∀ W, Calls Tryz.prog 50 #[.agg #[.int .u64 e0, .int .u64 e1, .int .u64 e2, .int .u64 e3, .int .u64 e4, .int .u64 e5, .int .u64 e6, .int .u64 e7], .agg (elv y)] W fun e w' => e = .returned (.bool q) ∧ Below W.heap.size W w') := HLE.out
   have hr2 : wr.rangeAt bk (o + i * 8) [.int .u64 e0, .int .u64 e1, .int .u64 e2, .int .u64 e3, .int .u64 e4, .int .u64 e5, .int .u64 e6, .int .u64 e7] := hr
   have HR := zh hr2
   clear hr hr2 HLE
   generalize elv y = yv at *
   have r9 := RowAt.new wr 41 #[.int .u64 e0, .int .u64 e1, .int .u64 e2, .int .u64 e3, .int .u64 e4, .int .u64 e5, .int .u64 e6, .int .u64 e7]
   have hb9 : Below wr.heap.size wr (wr.alloc (.cells #[.int .u64 e0, .int .u64 e1, .int .u64 e2, .int .u64 e3, .int .u64 e4, .int .u64 e5, .int .u64 e6, .int .u64 e7] 41)) := (zB _ _).alloc (zL _) _
   go_upto_region 4 with (refine wpList_ldIn (by rfl) _ _ rfl bk (o + i * 8) rfl _ _ HR.out Tryz.underlying41 rfl (by kernel_rfl) ?_)
   change Code.wp _ _ _ _ (wr.alloc (.cells #[.int .u64 e0, .int .u64 e1, .int .u64 e2, .int .u64 e3, .int .u64 e4, .int .u64 e5, .int .u64 e6, .int .u64 e7] 41))
   have HW9 := zh (HW.out.trans (hb9.mono HW.out.size))
   generalize hgx : wr.heap.size = gx at *
   generalize wr.alloc (.cells #[.int .u64 e0, .int .u64 e1, .int .u64 e2, .int .u64 e3, .int .u64 e4, .int .u64 e5, .int .u64 e6, .int .u64 e7] 41) = w9 at *
   have HX : Hid (∀ W, Below w9.heap.size w9 W → RowAt W gx 41 #[.int .u64 e0, .int .u64 e1, .int .u64 e2, .int .u64 e3, .int .u64 e4, .int .u64 e5, .int .u64 e6, .int .u64 e7]) := fun W h => r9.below h r9.lt
   clear r9 hb9 hgx
   have HS : Hid ((fun W : World => Below w9.heap.size w9 W) w9.drew) := (zB _ _).drew
   refine wp_region_ord (fun W : World => Below w9.heap.size w9 W) [(0, true), (1, true), (2, true), (3, true), (4, false), (5, false), (6, true)] (by kernel_rfl) (by kernel_rfl) rfl (by kernel_rfl) HS.out ?_
   iterate 4
        (refine wpOrd_step (zO rfl) ?_)
        (first
         | (refine wpOrd_skip (by rfl) ?_)
         | (refine wpOrd_take (by rfl) (take_row _ _ rfl gx rfl _ _ _ HX.out Tryz.underlying41 rfl (by kernel_rfl)) ?_)
         | (refine wpOrd_take (v := ?_) (by rfl) ?_ ?_; rotate_left 1; (intro wx hSx; go_simp; try with_reducible rfl)))
        (try simp only [Act.put, zA4, zA5, zA6])
   (refine wpOrd_solo (zO rfl) ?_)
   intro K hK
   go_simp
   go_at_call 87
   refine (HATi.out w9.drew (HW9.out.trans (HS.out.mono HW9.out.size))).mono ?_
   rintro e w10 ⟨rfl, hb10⟩
   have HS10 := zh (HS.out.trans (hb10.mono HS.out.size))
   clear hb10
   refine hK.out _ _ HS10.out ?_
   clear hK K
   (try simp only [Act.put, zA4, zA5, zA6])
   (refine wpOrd_solo (zO rfl) ?_)
   intro K hK
   go_simp
   go_at_call 50
   refine (HLE'.out w10).mono ?_
   rintro e w11 ⟨rfl, hb11⟩
   have HS11 := zh (HS10.out.trans (hb11.mono HS10.out.size))
   clear hb11
   refine hK.out _ _ HS11.out ?_
   clear hK K
   (try simp only [Act.put, zA4, zA5, zA6])
   (refine wpOrd_step (zO rfl) ?_)
   (refine wpOrd_take (v := ?_) (by rfl) ?_ ?_; rotate_left 1; (intro wx hSx; go_simp; try with_reducible rfl))
   (try simp only [Act.put, zA4, zA5, zA6])
   refine wpOrd_done ?_
   have HW11 := zh (HW9.out.trans (HS11.out.mono HW9.out.size))
   cases q
   ·have HFA := zh (HBD.out rfl)
    go_wp2_with fail
    exact HQ.out _ _ ⟨ret_eq (bool_eq HFA.out.symm), HW11.out⟩
   ·have HTR := zh (HNX.out rfl)
    clear HNX
    go_wp2_with fail
    go_roundw
    case rel => exact ⟨i + 1, by omega, by go_num, HTR, HW11⟩
    case measure => simp [intOf]; omega
  ·obtain rfl : i = n := by omega
   have HFA := zh (HOK.out HF.out)
   go_wp2_with fail
   exact HQ.out _ _ ⟨ret_eq (bool_eq HFA.out.symm), HW.out⟩
theorem belowRow_any (A : Option Addr) (c : Nat) (xs : List Rw) (B : Option Addr) (d : Nat) (ys : List Rw) (w : World) (hl : xs.length ≤ maxLen) (hA : Ls rwC w A xs) (hB : Ls rwC w B ys)
 (hX : ∀ r ∈ xs, RwIn w r) (hY : ∀ r ∈ ys, RwIn w r) (hyl : ∀ r ∈ ys, r.l.length ≤ 4294967296) :
 Calls Tryz.prog 51 #[.slice A xs.length c, .slice B ys.length d, .func (.func 52) #[] #[]] w fun e w' => e = .returned (.bool (lqRw xs ys)) ∧ Below w.heap.size w w' := by
 refine cHid fun Q' hQ => ?_
 have HQ := zh hQ; clear hQ
 have HBAD : Hid (∀ i, i < xs.length → lqR (xs.getD i rw0).l (ys.getD i rw0).l = false → lqRw xs ys = false) := fun i h h2 => rng_hit h h2
 have HOK : Hid ((∀ i, i < xs.length → lqR (xs.getD i rw0).l (ys.getD i rw0).l = true) → lqRw xs ys = true) := fun h => rng_done h
 have HA := zh hA
 have HAT := zh (fun W (h : Below w.heap.size w W) i hi => atRow_any B d ys i hi W (hB.below h))
 have HYI : Hid (∀ i W, Below w.heap.size w W → Ls vlC W (ys.getD i rw0).A (ys.getD i rw0).l ∧ (ys.getD i rw0).l.length ≤ 4294967296 ∧ ∀ v ∈ (ys.getD i rw0).l, v.s.size ≤ maxLen) := fun i W h => by
  by_cases hi : i < ys.length
  ·exact ⟨(hY _ (getD_mem' hi)).at_.below h, hyl _ (getD_mem' hi), (hY _ (getD_mem' hi)).name⟩
  ·rw [getD_big rw0 hi]
   exact ⟨Ls.nil, Nat.zero_le _, fun v hv => by cases hv⟩
 have HXI : Hid (∀ i, i < xs.length → ∀ W, Below w.heap.size w W → Ls vlC W (xs.getD i rw0).A (xs.getD i rw0).l ∧ (xs.getD i rw0).l.length ≤ maxLen ∧ ∀ v ∈ (xs.getD i rw0).l, v.s.size ≤ maxLen) := fun i hi W h =>
  ⟨(hX _ (getD_mem' hi)).at_.below h, zM (hX _ (getD_mem' hi)).le (hX _ (getD_mem' hi)).cap, (hX _ (getD_mem' hi)).name⟩
 have hl' : xs.length ≤ 9223372036854775807 := hl
 clear hl hA hB hX hY hyl
 generalize lqRw xs ys = R at *
 generalize hn : xs.length = n at *
 have HN := zh hn; clear hn
 generalize ys.length = m at *
 have hf : ∀ args w, (callFunc 52 args).run Tryz.prog w = .ok (.enter 52 args) w := fun _ _ => by kernel_rfl
 go_enter Tryz.func51, Tryz.ntmps51
 go_wp2_with fail
 go_loopw [11] (fun iv wr => ∃ i : Nat, i ≤ n ∧ iv = .int .i64 i ∧ Hid (∀ j, j < i → lqR (xs.getD j rw0).l (ys.getD j rw0).l = true) ∧ Hid (Below w.heap.size w wr)) (fun iv _ => n - (intOf iv).toNat)
 case atStart => exact ⟨0, by omega, rfl, fun j hj => by omega, zB _ _⟩
 case round =>
  obtain ⟨i, hi, rfl, HF, HW⟩ := hrel
  by_cases hlt : i < n
  ·obtain ⟨bk, o, rfl, hbk, hc⟩ := (HA.out.below HW.out).at 1 rwC_len (by omega) rw0 (i := i) (by rw [HN.out]; exact hlt)
   have hr : wr.cell? ⟨bk, o + i, none⟩ = some (.slice (xs.getD i rw0).A (xs.getD i rw0).l.length (xs.getD i rw0).c) := by simpa using hc i (by rw [HN.out]; exact hlt) 0 _ rfl
   have HBD := zh (HBAD.out i hlt)
   have HNX : Hid (lqR (xs.getD i rw0).l (ys.getD i rw0).l = true → ∀ j, j < i + 1 → lqR (xs.getD j rw0).l (ys.getD j rw0).l = true) := fun h j hj => by
        by_cases e : j = i
        ·rw [e]; exact h
        ·exact HF.out j (by omega)
   obtain ⟨hx1, hx2, hx3⟩ := HXI.out i hlt wr HW.out
   obtain ⟨hy1, hy2, hy3⟩ := HYI.out i wr HW.out
   have HLE := zh (rowLeq_any (xs.getD i rw0).A (xs.getD i rw0).c (xs.getD i rw0).l (ys.getD i rw0).A (ys.getD i rw0).c (ys.getD i rw0).l wr hx2 hy2 hx3 hy3 hx1 hy1)
   have HATi := zh (HAT.out wr HW.out i (by omega))
   clear hc HF hx1 hx2 hx3 hy1 hy2 hy3
   generalize lqR (xs.getD i rw0).l (ys.getD i rw0).l = q at *
   generalize xs.getD i rw0 = x at *
   generalize ys.getD i rw0 = y at *
   cases q
   ·have HFA := zh (HBD.out rfl)
    go_wp2_with (first
     | (go_at_call 89; refine HATi.out.mono ?_; rintro e w10 ⟨rfl, rfl⟩)
     | (go_at_call 52; refine HLE.out.mono ?_; rintro e w11 ⟨rfl, hb11⟩; have HW11 := zh (HW.out.trans (hb11.mono HW.out.size)); clear hb11))
    exact HQ.out _ _ ⟨ret_eq (bool_eq HFA.out.symm), HW11.out⟩
   ·have HTR := zh (HNX.out rfl)
    clear HNX
    go_wp2_with (first
     | (go_at_call 89; refine HATi.out.mono ?_; rintro e w10 ⟨rfl, rfl⟩)
     | (go_at_call 52; refine HLE.out.mono ?_; rintro e w11 ⟨rfl, hb11⟩; have HW11 := zh (HW.out.trans (hb11.mono HW.out.size)); clear hb11))
    go_roundw
    case rel => exact ⟨i + 1, by omega, by go_num, HTR, HW11⟩
    case measure => simp [intOf]; omega
  ·obtain rfl : i = n := by omega
   have HFA := zh (HOK.out HF.out)
   go_wp2_with fail
   exact HQ.out _ _ ⟨ret_eq (bool_eq HFA.out.symm), HW.out⟩
def leqA (a b : As) : Bool := lqL a.ls b.ls && lqRw a.rs b.rs
theorem aleq_any (a b : As) (w : World) (ha : AsIn w a) (hb : AsIn w b) (hbl : ∀ r ∈ b.rs, r.l.length ≤ 4294967296) :
 Calls Tryz.prog 18 #[.agg (asv a), .agg (asv b)] w fun e w' => e = .returned (.bool (leqA a b)) ∧ Below w.heap.size w w' := by
 obtain ⟨rA, rB, hw⟩ := two_boxes w (asv a) (asv b) 29 29
 refine cHid fun Q' hQ => ?_
 have HQ := zh hQ; clear hQ
 have HL := zh (fun W (h : Below w.heap.size w W) => belowElem_any a.LA a.lc a.ls b.LA b.lc b.ls W (zM ha.lle ha.lcap) (ha.lab.below h) (hb.lab.below h))
 have HR := zh (fun W (h : Below w.heap.size w W) => belowRow_any a.RA a.rc a.rs b.RA b.rc b.rs W (zM ha.rle ha.rcap) (ha.rows.below h) (hb.rows.below h) (fun r hr => (ha.row r hr).below h) (fun r hr => (hb.row r hr).below h) hbl)
 have hle : leqA a b = (lqL a.ls b.ls && lqRw a.rs b.rs) := rfl
 rw [hle] at HQ
 clear ha hb hbl hle
 generalize lqL a.ls b.ls = p at *
 generalize lqRw a.rs b.rs = q at *
 go_enter Tryz.func18, Tryz.ntmps18
 go_upto_region 1 with fail
 change Code.wp _ _ _ _ ((w.alloc (.cells (asv a) 29)).alloc (.cells (asv b) 29))
 generalize (w.alloc (.cells (asv a) 29)).alloc (.cells (asv b) 29) = w1 at *
 have HB1 := zh hw
 have HRA := zh rA
 have HRB := zh rB
 have a0 : w1.cell? ⟨w.heap.size, 0, none⟩ = some (.slice a.LA a.ls.length a.lc) := rA.cell 0
 have b0 : w1.cell? ⟨w.heap.size + 1, 0, none⟩ = some (.slice b.LA b.ls.length b.lc) := rB.cell 0
 clear rA rB hw
 cases p
 ·go_wp2_with (go_at_call 49; refine (HL.out w1 HB1.out).mono ?_; rintro e w2 ⟨rfl, hb2⟩; have HB2 := zh (HB1.out.trans (hb2.mono HB1.out.size)); clear hb2)
  exact HQ.out _ _ ⟨rfl, HB2.out⟩
 ·go_wp2_with (first
   | (go_at_call 49; refine (HL.out w1 HB1.out).mono ?_; rintro e w2 ⟨rfl, hb2⟩; have HB2 := zh (HB1.out.trans (hb2.mono HB1.out.size)); have a1 : w2.cell? ⟨w.heap.size, 1, none⟩ = some (.slice a.RA a.rs.length a.rc) := (HRA.out.below hb2 HRA.out.lt).cell 1; have b1 : w2.cell? ⟨w.heap.size + 1, 1, none⟩ = some (.slice b.RA b.rs.length b.rc) := (HRB.out.below hb2 HRB.out.lt).cell 1; clear hb2)
   | (go_at_call 51; refine (HR.out w2 HB2.out).mono ?_; rintro e w3 ⟨rfl, hb3⟩; have HB3 := zh (HB2.out.trans (hb3.mono HB2.out.size)); clear hb3))
  exact HQ.out _ _ ⟨by cases q <;> rfl, HB3.out⟩
end
section
open Go.RowKit RM Go.Maps
theorem rowT_ne {w : World} {g g' : Nat} {t t' : TypeId} {cs cs' : Array Value} (h : RowAt w g t cs) (h' : RowAt w g' t' cs') (hne : t ≠ t') : g ≠ g' := by
 rintro rfl
 have h1 : w.heap[g]? = some (.cells cs t (0, 0)) := h
 rw [show w.heap[g]? = some (.cells cs' t' (0, 0)) from h'] at h1
 injection h1 with h1
 injection h1 with _ h2
 exact hne h2.symm
theorem made_el (n : Nat) : (madeCells (Value.agg #[.int .u64 0, .int .u64 0, .int .u64 0, .int .u64 0, .int .u64 0, .int .u64 0, .int .u64 0, .int .u64 0]).cells (n * 8)).toList = (List.replicate n el0).flatMap elC := by
 have e1 : (madeCells (Value.agg #[.int .u64 0, .int .u64 0, .int .u64 0, .int .u64 0, .int .u64 0, .int .u64 0, .int .u64 0, .int .u64 0]).cells (n * 8)).toList = List.replicate (n * 8) (.int .u64 0) := by
  rw [List.eq_replicate_iff]
  refine ⟨by simp [madeCells], fun b hb => ?_⟩
  simp only [madeCells, Array.toList_map, Array.toList_range, List.mem_map, List.mem_range] at hb
  obtain ⟨j, _, rfl⟩ := hb
  have hm := Nat.mod_lt j (show 0 < 8 by omega)
  show (#[.int .u64 0, .int .u64 0, .int .u64 0, .int .u64 0, .int .u64 0, .int .u64 0, .int .u64 0, .int .u64 0] : Array Value)[j % 8]! = _
  generalize j % 8 = k at *
  match k, hm with
  | 0, _ | 1, _ | 2, _ | 3, _ | 4, _ | 5, _ | 6, _ | 7, _ => rfl
 have e2 : ∀ n, (List.replicate n el0).flatMap elC = List.replicate (n * 8) (.int .u64 0) := fun n => by
  induction n with
  | zero => rfl
  | succ n ih =>
    rw [List.replicate_succ, List.flatMap_cons, ih, show elC el0 = List.replicate 8 (.int .u64 0) from rfl, List.replicate_append_replicate]
    congr 1
    omega
 rw [e1, e2]
theorem made_rw (n : Nat) : (madeCells (Value.slice none 0 0).cells (n * 1)).toList = (List.replicate n rw0).flatMap rwC := by
 have e2 : ∀ n, (List.replicate n rw0).flatMap rwC = List.replicate n (.slice none 0 0) := fun n => by
  induction n with
  | zero => rfl
  | succ n ih => rw [List.replicate_succ, List.flatMap_cons, ih]; rfl
 rw [e2, Nat.mul_one]
 exact toList_madeCells_one _ _
theorem made_row {w : World} {base g n sz : Nat} {e : TypeId} {cs : List Value} (h : w.ownsRow base e sz (.slice (some ⟨g, 0, none⟩) n n) n cs) : RowAt w g e cs.toArray := by
 rcases h.2 with ⟨hv, _⟩ | ⟨g', cap, cur, hv, hb, hh, h1, h2, h3, h4⟩
 ·cases hv
 ·injection hv with e1 e2 e3
  injection e1 with e1
  injection e1 with e1
  subst e1 e3
  have : cur = cs.toArray := by
   apply Array.toList_inj.1
   rw [← h4, List.take_of_length_le (by simp [h3])]
  rw [← this]; exact hh
theorem wp_made {P : Program} (w : World) {o : Oper} {a : Act} {K : Act → World → Prop} {Q : Exit → Act → World → Prop}
 (l c : Operand) (t : TypeId) (hop : o.op = Op.makeSlice t l c)
 (base : Nat) (e : TypeId) (z : Value) (size bytes : Nat) (h1 : P.underlying t = some (.slice e)) (hinf : (P.info? e).map (fun i => (i.zero, i.size, i.bytes)) = some (some z, size, bytes))
 (n : Nat) (hl : a.eval l = .int .i64 n) (hc : a.eval c = .int .i64 n) (b2 : bytes * n ≤ 281474976710656) (b3 : n ≤ maxLen) (b4 : base ≤ w.heap.size)
 (hK : ∀ w', RowAt w' w.heap.size e (madeCells z.cells (n * size)).toList.toArray → w.grownBy w' none → K (a.put o.dst (.slice (some ⟨w.heap.size, 0, none⟩) n n)) w') :
 o.wp P a w K Q := by
 obtain ⟨i, h2, h3, h4, h5⟩ := info_parts hinf
 obtain ⟨w', hrun, r1, r2⟩ := run_make_full (P := P) w base t e i z size h1 h2 h3 h4 .i64 .i64 n (by rw [h5]; exact b2) b3 b4
 unfold Oper.wp
 simp [execOp, hop, hl, hc, hrun, Result.andThen]
 exact hK w' (made_row r1) r2
theorem infoRwV : (Tryz.prog.info? 38).map (fun i => (i.zero, i.size, i.bytes)) = some (some (.slice none 0 0), 1, 24) := by kernel_rfl
theorem infoElV : (Tryz.prog.info? 41).map (fun i => (i.zero, i.size, i.bytes)) = some (some (.agg #[.int .u64 0, .int .u64 0, .int .u64 0, .int .u64 0, .int .u64 0, .int .u64 0, .int .u64 0, .int .u64 0]), 8, 64) := by kernel_rfl
def botS (s : Sc) (i : Int) : El := ⟨endE (s.shp i).t (s.shp i).fs botW, endE_ew _ _ fun f => by have := botW_lt f; exact this⟩
def lstE (s : Sc) (i : Nat) : El := if (s.vs.getD i var0).2.1 = 1 ∧ hasL s (s.vs.getD i var0) = true then botS s (s.vs.getD i var0).2.2 else el0
def lstI (s : Sc) (k i : Nat) : El := if i < k then lstE s i else el0
def lstL (s : Sc) (k : Nat) : List El := (List.range s.vs.length).map (lstI s k)
theorem lstL_len (s : Sc) (k : Nat) : (lstL s k).length = s.vs.length := by simp [lstL]
theorem lstL_zero (s : Sc) : lstL s 0 = List.replicate s.vs.length el0 := by
 unfold lstL
 rw [List.eq_replicate_iff]
 refine ⟨by simp, fun b hb => ?_⟩
 obtain ⟨i, _, rfl⟩ := List.mem_map.1 hb
 unfold lstI
 rw [if_neg (by omega)]
theorem lstL_keep (s : Sc) {k : Nat} (h : lstE s k = el0) : lstL s (k + 1) = lstL s k := by
 unfold lstL
 refine List.map_congr_left fun i _ => ?_
 unfold lstI
 by_cases e : i = k
 ·subst e; rw [if_pos (by omega), if_neg (by omega), h]
 ·by_cases h2 : i < k
  ·rw [if_pos (by omega), if_pos h2]
  ·rw [if_neg (by omega), if_neg h2]
theorem lstL_set (s : Sc) {k : Nat} (hk : k < s.vs.length) : lstL s (k + 1) = (lstL s k).set k (lstE s k) := by
 refine List.ext_getElem (by simp [lstL]) fun i h1 h2 => ?_
 rw [List.getElem_set]
 simp only [lstL, List.getElem_map, List.getElem_range]
 unfold lstI
 by_cases e : k = i
 ·subst e; rw [if_pos (by omega), if_pos rfl]
 ·rw [if_neg e]
  by_cases h3 : i < k
  ·rw [if_pos (by omega), if_pos h3]
  ·rw [if_neg (by omega), if_neg h3]
theorem elCs_len (l : List El) : (l.flatMap elC).length = l.length * 8 := by
 induction l with
 | nil => rfl
 | cons x l ih => rw [List.flatMap_cons, zA7, elC_len, ih, zA8]; omega
theorem splice_el (l : List El) (e : El) {k : Nat} (hk : k < l.length) : splice (l.flatMap elC) (k * 8) (elC e) = (l.set k e).flatMap elC := by
 have h1 : l.flatMap elC = (l.take k).flatMap elC ++ (elC l[k] ++ (l.drop (k + 1)).flatMap elC) := by
  rw [← List.flatMap_cons, ← List.drop_eq_getElem_cons hk, ← List.flatMap_append, List.take_append_drop]
 have h2 : ((l.take k).flatMap elC).length = k * 8 := by rw [elCs_len, List.length_take]; omega
 unfold splice
 rw [h1, elC_len]
 rw [List.take_left' h2, List.drop_append, List.drop_of_length_le (by omega), List.nil_append, h2, show k * 8 + 8 - k * 8 = 8 by omega, List.drop_left' (elC_len _)]
 rw [List.set_eq_take_append_cons_drop, if_pos hk, List.flatMap_append, List.flatMap_cons]
structure ReI (gm gf B : Nat) (F : FuncId) (caps : Array Value) (b : Int → El) (J : World → Prop) (n : Nat) (W : World) : Prop where
 mp : RowAt W gm 103 #[.map (some B)]
 fn : RowAt W gf 73 #[.func (.func F) #[] caps]
 mm : M_re b W B n
 j : J W
end
section
open Go.RowKit RM Go.Maps
structure LsSt (s : Sc) (w5 : World) (gs g3 gR g4 : Nat) (k : Nat) (W : World) : Prop where
 lab : RowAt W g3 41 ((lstL s k).flatMap elC).toArray
 row : RowAt W gR 38 ((List.replicate s.vs.length rw0).flatMap rwC).toArray
 res : RowAt W g4 29 #[.slice (some ⟨g3, 0, none⟩) s.vs.length s.vs.length, .slice (some ⟨gR, 0, none⟩) s.vs.length s.vs.length]
 lo : gs ≤ w5.heap.size
 bel : Below gs w5 W
theorem LsSt.below {s : Sc} {w5 W W' : World} {gs g3 gR g4 k : Nat} (h : LsSt s w5 gs g3 gR g4 k W) (hb : Below W.heap.size W W') : LsSt s w5 gs g3 gR g4 k W' :=
 ⟨h.lab.below hb h.lab.lt, h.row.below hb h.row.lt, h.res.below hb h.res.lt, h.lo, h.bel.trans (hb.mono (zM h.lo h.bel.size))⟩
theorem wp_stMid {P : Program} {o : Oper} {a : Act} {w : World} {K : Act → World → Prop} {Q : Exit → Act → World → Prop} (ty : TypeId) (x y : Operand) (ho : o.op = .store ty x y)
 (g off : Nat) (cells : List Value) (hx : a.eval x = .pointer (some ⟨g, off, none⟩)) (hy : a.eval y = .agg cells.toArray) (cur : List Value) (t : TypeId) (hg : w.heap[g]? = some (.cells cur.toArray t (0, 0)))
 (hi : (P.info? ty).map (·.size) = some cells.length) (hfit : off + cells.length ≤ cur.length) (h1 : ∀ v ∈ cells, v.oneCell' = true)
 (h : ∀ w', RowAt w' g t (splice cur off cells).toArray → Else g w w' → K (a.put o.dst undef) w') : o.wp P a w K Q := by
 have hst := run_storeCells_at P g off t cells 0 cur.toArray w hg (by simpa using hfit) h1
 have hk2 := h (w.setRow g (cur.take off ++ cells ++ cur.drop (off + cells.length)).toArray) (show _ = _ by simpa [splice] using setRow_heap w g _ _ t _ hg) (Else.setRow w g _)
 rw [show cur.toArray.toList.take (off + 0) ++ cells ++ cur.toArray.toList.drop (off + 0 + cells.length) = cur.take off ++ cells ++ cur.drop (off + cells.length) by simp] at hst
 generalize w.setRow g (cur.take off ++ cells ++ cur.drop (off + cells.length)).toArray = W9 at *
 cases hq : P.info? ty with
 | none => simp [hq] at hi
 | some i =>
   have hs : i.size = cells.length := by simpa [hq] using hi
   have hrun : (storeVar ty ⟨g, off, none⟩ (.agg cells.toArray)).run P w = .ok () W9 := by
    simp [storeVar, sizeOf, typeInfo, hq, Value.cells, hs, hst]
   unfold Oper.wp execOp
   simp only [ho, hx, hy, Instr.storeAt, Instr.sureAddr, Sem.run_bind, Sem.run_pure, Result.andThen_ok, hrun]
   exact hk2
end
end Go.Proofs.YtnfndapgcpdcpaaGreatDoor
