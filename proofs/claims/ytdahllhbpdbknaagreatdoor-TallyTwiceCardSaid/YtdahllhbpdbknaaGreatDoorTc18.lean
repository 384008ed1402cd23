/- Texts that all the claims need. Conditions: those that each states. -/
import Derived.LoopIn
import Derived.LoopNIn
import Derived.OwnWalkIn
import Derived.RangeFuncBound
import Derived.RangeFuncCalls
import Derived.RangeFuncLeaves
import Derived.RangeFuncNested
import Derived.TacticsInMore
import Derived.Test.YtdahllhbpdbknaaGreatDoorTc13
import Derived.Test.YtdahllhbpdbknaaGreatDoorTc17
set_option linter.unusedSimpArgs false
set_option linter.unusedVariables false
set_option maxRecDepth 100000
set_option maxHeartbeats 40000000
namespace Go.Proofs.YtdahllhbpdbknaaGreatDoor
section
open Go.RowKit RM
section
variable {F : Fence} {n : Nat} {P : Program} {ops : Array Oper} {Q : Exit → Act → World → Prop} {a : Act} {w : World} {rest : List Oper} {o : Oper}
theorem wpListIn_val {v : Value} {w' : World} (hg : o.guard = none) (hsem : o.semAt F.round a.eval = execOp a.eval o) (hab : ∀ f, F.fn f) (hr : (execOp a.eval o).run P w = .ok (.value v) w')
 (h : wpListIn F n P ops Q rest (a.put o.dst v) w') : wpListIn F n P ops Q (o :: rest) a w :=
 wpListIn_plain hg fun K hK => ⟨fun f _ => hab f, by rw [hsem, hr]; exact hK _ _ h⟩
theorem wpListIn_ldElem (hg : o.guard = none) (hsem : o.semAt F.round a.eval = execOp a.eval o) (hab : ∀ f, F.fn f) (x : Operand) (ho : o.op = .load 40 x) (b k : Nat) (hx : a.eval x = .pointer (some ⟨b, k, none⟩))
 (e : List Nat) (hl : EW e) (hc : w.rangeAt b k (ucells e)) (h : wpListIn F n Tryz.prog ops Q rest (a.put o.dst (.agg (uv e))) w) : wpListIn F n Tryz.prog ops Q (o :: rest) a w :=
 wpListIn_val hg hsem hab (take_loadElemIn (S := fun w => w.rangeAt b k (ucells e)) x ho b k hx e hl (fun _ h => h) w hc) h
end
theorem elemBack_any (A : Option Addr) (k c : Nat) (w : World) :
 Calls Tryz.prog 59 #[.slice A k c] w fun e w' => e = .returned (.func (.func 72) #[] #[.pointer (some ⟨w.heap.size, 0, none⟩)]) ∧ w' = w.alloc (.cells #[.slice A k c] 37) := by
 go_enter Tryz.func59, Tryz.ntmps59
 go_wp2_with fail
 go_ret
 exact ⟨rfl, rfl⟩
def encB (es : List (List Nat)) (i : Fin es.length) : Array Value := #[.int .i64 (i.1 : Int), .agg (uv (es.getD i.1 []))]
def downTo (L k : Nat) : List Nat := (List.range k).map fun j => L - 1 - j
theorem downTo_succ (L k : Nat) : downTo L (k + 1) = downTo L k ++ [L - 1 - k] := by simp [downTo, List.range_succ]
theorem downTo_len (L k : Nat) : (downTo L k).length = k := by simp [downTo]
def KpB (n₀ Bs : Nat) (W W' : World) : Prop := Below n₀ W W' ∧ W'.heap[Bs]? = W.heap[Bs]?
theorem kpB_t {n₀ Bs : Nat} {A B C : World} (h : KpB n₀ Bs A B) (k : KpB n₀ Bs B C) : KpB n₀ Bs A C := ⟨h.1.trans k.1, k.2.trans h.2⟩
theorem kpB_b {n₀ Bs : Nat} {w : World} (hn : n₀ ≤ w.heap.size) (hb : Bs < w.heap.size) (W : World) (l : Nat) (o o' : Obj) (hl : w.heap.size ≤ l) (h : W.heap[l]? = some o) (hc : o.isCells = false) (hw : o.isWalk = false) : KpB n₀ Bs W (W.putObj l o') :=
 ⟨belowK_b hn W l o o' hl h hc hw, by
  unfold World.putObj
  simp only [Array.getElem?_setIfInBounds]
  rw [if_neg (by omega)]⟩
theorem cell_same {W W' : World} {b k : Nat} (h : W'.heap[b]? = W.heap[b]?) : W'.cell? ⟨b, k, none⟩ = W.cell? ⟨b, k, none⟩ := by
 unfold World.cell?
 simp only [h]
attribute [local go_sem] Oper.semAt_some
theorem elemBack1_in (n l Bs n₀ L cap : Nat) (A : Option Addr) (es : List (List Nat)) (hL : es.length = L) (hE : ∀ e ∈ es, EW e) (hmax : L ≤ 4294967296) (J Jx : List (Fin es.length) → World → Prop)
 (hY : ∀ pre x W, J pre W → pre.length < L → YieldAt Fence.wide (n - 1) Tryz.prog l (encB es x) W fun e W' =>
  (e = .returned (.bool true) ∧ J (pre ++ [x]) W' ∧ KpB n₀ Bs W W') ∨ (e = .returned (.bool false) ∧ Jx (pre ++ [x]) W'))
 (W : World) (hBs : W.cell? ⟨Bs, 0, none⟩ = some (.slice A L cap)) (hc : Sl W n₀ A (escells es)) (h0 : J [] W) :
 CallsIn Fence.wide n Tryz.prog 72 #[.func (.yield l) #[] #[], .pointer (some ⟨Bs, 0, none⟩)] W fun e W' => (∃ v, e = .returned v) ∧
  ((∃ ys : List (Fin es.length), ys.map (·.1) = downTo L L ∧ J ys W') ∨ (∃ pre : List (Fin es.length), (∃ k, k ≤ L ∧ pre.map (·.1) = downTo L k) ∧ Jx pre W')) := by
 refine callsIn_of_wp Tryz.func72 rfl trivial ?_ rfl
 simp only [Tryz.ntmps72, List.size_toArray, zA8, zA9, Nat.reduceAdd, Nat.reduceSub, Array.replicate_succ, Array.replicate_zero, List.push_toArray, List.append_toArray, List.nil_append, List.cons_append]
 have hw0 : IntKind.i64.wrap ((L : Int) - 1) = (L : Int) - 1 := IntWalk.i64_in _ ⟨by omega, by omega⟩
 gi_wp2
 gi_loopw [3] (fun i wr => ∃ (k : Nat) (pre : List (Fin es.length)), k ≤ L ∧ i = .int .i64 ((L : Int) - 1 - (k : Int)) ∧ Hid (pre.map (·.1) = downTo L k) ∧ Hid (J pre wr) ∧ Hid (KpB n₀ Bs W wr))
  (fun i _ => (intOf i + 1).toNat)
 case atStart => exact ⟨0, [], Nat.zero_le _, by simp, zh rfl, zh h0, zh ⟨zB _ _, rfl⟩⟩
 case round =>
  obtain ⟨k, pre, hk, rfl, HP, HJ, HB⟩ := hrel
  have hcx := (cell_same HB.out.2 (k := 0)).trans hBs
  by_cases hlt : k < L
  ·obtain ⟨z, hz⟩ : ∃ z : Nat, z = L - 1 - k := ⟨_, rfl⟩
   have hzi : (L : Int) - 1 - (k : Int) = (z : Int) := by omega
   have hzl : z < es.length := by omega
   obtain ⟨b, off, rfl, hrng⟩ := els_at (hc.below HB.out.1) hE (k := z) hzl
   have hr := hrng z hzl
   have hew := hE _ (eget_mem hzl)
   have hplen : pre.length = k := by
        have := congrArg List.length HP.out
        rw [List.length_map, downTo_len] at this; exact this
   obtain ⟨fn, tmps, assign, body, hy, hR⟩ := hY pre ⟨z, hzl⟩ wr HJ.out (by omega)
   unfold encB at hy
   dsimp only at hy
   simp only [List.getD_eq_getElem?_getD] at hy
   have hz2 : (z : Int) < (L : Int) := by omega
   have hwz : IntKind.i64.wrap ((z : Int) - 1) = (z : Int) - 1 := IntWalk.i64_in _ ⟨by omega, by omega⟩
   rw [hzi]
   have HR := zh hR
   have HZ := zh hz
   have HZI := zh hzi
   clear hR hz hzi
   gi_wp2_with (refine wpListIn_ldElem rfl (by first | rfl | exact Oper.semAt_none _ _) (fun _ => trivial) _ rfl b (off + z * 8) rfl _ hew hr ?_)
   refine ⟨fun h => (by cases h), HR.out.mono ?_⟩
   rintro e W3 (⟨rfl, hJ3, hk3⟩ | ⟨rfl, hJx3⟩)
   ·gi_wp2
    go_roundw
    case rel =>
     refine ⟨k + 1, pre ++ [⟨z, hzl⟩], by omega, ?_, ?_, zh hJ3, zh (kpB_t HB.out hk3)⟩
     ·have h9 := HZI.out
      exact congrArg (Value.int IntKind.i64) (by omega)
     ·show (pre ++ [(⟨z, hzl⟩ : Fin es.length)]).map (·.1) = downTo L (k + 1)
      rw [List.map_append, HP.out, downTo_succ, ← HZ.out]; rfl
    case measure => simp [intOf] <;> omega
   ·gi_wp2
    refine bodyPost_ret (results_none rfl _ _ _) rfl ?_
    refine ⟨⟨_, rfl⟩, .inr ⟨pre ++ [⟨z, hzl⟩], ⟨k + 1, by omega, ?_⟩, hJx3⟩⟩
    rw [List.map_append, HP.out, downTo_succ, ← HZ.out]; rfl
  ·obtain rfl : k = L := by omega
   have hm : (k : Int) - 1 - (k : Int) = -1 := by omega
   rw [hm]
   gi_wp2
   go_end0
   exact ⟨⟨_, rfl⟩, .inl ⟨pre, HP.out, HJ.out⟩⟩
theorem elemBack_stops (n Bs n₀ L cap : Nat) (A : Option Addr) (es : List (List Nat)) (hL : es.length = L) (hE : ∀ e ∈ es, EW e) (hmax : L ≤ 4294967296) (w : World) (hBs : Bs < w.heap.size) (hn₀ : n₀ ≤ w.heap.size)
 (hc : w.cell? ⟨Bs, 0, none⟩ = some (.slice A L cap)) (hI : Sl w n₀ A (escells es)) :
 SeqStopsK Fence.wide n Tryz.prog 72 #[.pointer (some ⟨Bs, 0, none⟩)] (encB es) (KpB n₀ Bs) (fun ys => ys.map (·.1) = downTo L L) (fun pre => ∃ k, k ≤ L ∧ pre.map (·.1) = downTo L k) L w := fun l J Jx W hW _ _ hY h0 => by
 have hW2 : Below n₀ w W := hW.mono hn₀
 exact elemBack1_in n l Bs n₀ L cap A es hL hE hmax J Jx hY W ((hW.cell (p := ⟨Bs, 0, none⟩) hBs).trans hc) (hI.below hW2) h0
end
section
open Go.RowKit
def wdC (x : ByteArray × Int) : List Value := [.string x.1, .int .i64 x.2]
def pwC (x : (ByteArray × Int) × (ByteArray × Int)) : List Value := [.string x.1.1, .int .i64 x.1.2, .string x.2.1, .int .i64 x.2.2]
def varC (x : ByteArray × Int × Int) : List Value := [.string x.1, .int .i64 x.2.1, .int .i64 x.2.2]
end
section
open Go.RowKit
structure Up (g : Nat) (v v' : Value) (w w' : World) : Prop where
 low : Below g w w'
 blk : ∀ k, k < w.heap.size → k ≠ g → v.ownBlock ≠ some k → w'.heap[k]? = w.heap[k]?
 row : v'.ownBlock = v.ownBlock ∨ ∃ b, v'.ownBlock = some b ∧ w.heap.size ≤ b
section
variable {g : Nat} {v v1 v2 : Value} {w w1 w2 : World}
theorem Up.refl (g : Nat) (v : Value) (w : World) : Up g v v w w := ⟨zB _ _, fun _ _ _ _ => rfl, .inl rfl⟩
theorem Up.ne (h : Up g v v1 w w1) {k : Nat} (hk : k < w.heap.size) (hv : v.ownBlock ≠ some k) : v1.ownBlock ≠ some k := by
 rcases h.row with e | ⟨b, e, hb⟩
 ·rw [e]; exact hv
 ·rw [e]; intro e2; cases e2; omega
theorem Up.trans (h : Up g v v1 w w1) (h2 : Up g v1 v2 w1 w2) : Up g v v2 w w2 := by
 refine ⟨h.low.trans h2.low, fun k hk hne hv => ?_, ?_⟩
 ·exact (h2.blk k (zT hk h.low.size) hne (h.ne hk hv)).trans (h.blk k hk hne hv)
 ·rcases h2.row with e | ⟨b, e, hb⟩
  ·rcases h.row with e2 | ⟨b, e2, hb⟩
   ·exact .inl (e.trans e2)
   ·exact .inr ⟨b, e.trans e2, hb⟩
  ·exact .inr ⟨b, e, zM h.low.size hb⟩
theorem Up.below (hg : g ≤ w.heap.size) (h : Below w.heap.size w w1) : Up g v v w w1 := ⟨h.mono hg, fun k hk _ _ => h.block k hk, .inl rfl⟩
theorem Up.size (h : Up g v v1 w w1) : w.heap.size ≤ w1.heap.size := h.low.size
end
end
section
open Go.RowKit
structure Cd where
 op : Int
 p : Int
 n : ByteArray × Int
 A : Option Addr
 c : Nat
 ws : List (ByteArray × Int)
 B : Option Addr
 d : Nat
 ps : List ((ByteArray × Int) × (ByteArray × Int))
 pp : Int
 rest : List Value
def Cd.txt (x : Cd) : List ByteArray := x.ws.map Prod.fst
structure CdOk (w : World) (K : Nat) (x : Cd) : Prop where
 ws : Sl w K x.A (x.ws.flatMap wdC)
 ps : Sl w K x.B (x.ps.flatMap pwC)
 rest : x.rest.length = 10
 wfew : x.ws.length ≤ 65536
 pfew : x.ps.length ≤ 65536
 nn : x.n.1.size ≤ maxLen
 wn : ∀ t ∈ x.txt, t.size ≤ maxLen
 pn : ∀ p ∈ x.ps, p.1.1.size ≤ maxLen ∧ p.2.1.size ≤ maxLen
theorem CdOk.below {w w' : World} {K : Nat} {x : Cd} (h : CdOk w K x) (hb : Below K w w') : CdOk w' K x := ⟨Sl.below h.ws hb, Sl.below h.ps hb, h.rest, h.wfew, h.pfew, h.nn, h.wn, h.pn⟩
theorem CdOk.mono {w : World} {K K' : Nat} {x : Cd} (h : CdOk w K x) (hb : K ≤ K') : CdOk w K' x := ⟨h.ws.mono hb, h.ps.mono hb, h.rest, h.wfew, h.pfew, h.nn, h.wn, h.pn⟩
def LiveOk (w : World) (fL fV : ByteArray → Int) (B1 B2 : Nat) : Prop := ∃ n1 n2, FMap w B1 n1 fL ∧ FMap w B2 n2 fV
section
variable {w w' : World} {fL fV : ByteArray → Int} {B1 B2 : Nat}
theorem LiveOk.below (h : LiveOk w fL fV B1 B2) (hb : Below w.heap.size w w') : LiveOk w' fL fV B1 B2 := by
 obtain ⟨n1, n2, h1, h2⟩ := h
 exact ⟨n1, n2, h1.below hb h1.lt, h2.below hb h2.lt⟩
theorem LiveOk.lo {K : Nat} (h : LiveOk w fL fV B1 B2) (hb : Below K w w') (h1 : B1 < K) (h2 : B2 < K) : LiveOk w' fL fV B1 B2 := by
 obtain ⟨n1, n2, h3, h4⟩ := h
 exact ⟨n1, n2, h3.below hb h1, h4.below hb h2⟩
theorem LiveOk.lt (h : LiveOk w fL fV B1 B2) : B1 < w.heap.size ∧ B2 < w.heap.size := by
 obtain ⟨n1, n2, h1, h2⟩ := h
 exact ⟨h1.lt, h2.lt⟩
end
end
section
open Go.RowKit
theorem two_rows (w : World) (cs ds : Array Value) (t u : TypeId) : RowAt ((w.alloc (.cells cs t)).alloc (.cells ds u)) w.heap.size t cs ∧ RowAt ((w.alloc (.cells cs t)).alloc (.cells ds u)) (w.heap.size + 1) u ds ∧ Below w.heap.size w ((w.alloc (.cells cs t)).alloc (.cells ds u)) := by
 refine ⟨(RowAt.new w _ _).alloc _, ?_, ((zB _ _).alloc (zL _) _).alloc (by simp) _⟩
 have h := RowAt.new (w.alloc (.cells cs t)) u ds
 rw [show (w.alloc (.cells cs t)).heap.size = w.heap.size + 1 by simp] at h
 exact h
end
section
open Go.RowKit
structure Sc where
 LA : Option Addr
 lc : Nat
 ls : List (ByteArray × Shp)
 VA : Option Addr
 vc : Nat
 vs : List (ByteArray × Int × Int)
def latC (x : ByteArray × Shp) : List Value := [.string x.1, .bool x.2.t, .slice x.2.A x.2.fs.length x.2.c]
def Sc.lnms (s : Sc) : List ByteArray := s.ls.map (·.1)
def Sc.vnms (s : Sc) : List ByteArray := s.vs.map (·.1)
structure ScOk (w : World) (s : Sc) : Prop where
 lats : Ls latC w s.LA s.ls
 sh : ∀ l ∈ s.ls, ShOk w l.2
 vars : Ls varC w s.VA s.vs
 lnil : s.LA = none → s.lc = 0
 vnil : s.VA = none → s.vc = 0
 lfew : s.ls.length ≤ 65536
 vfew : s.vs.length ≤ 65536
 lnm : ∀ x ∈ s.lnms, x.size ≤ maxLen
 vnm : ∀ x ∈ s.vnms, x.size ≤ maxLen
theorem ScOk.below {w w' : World} {s : Sc} (h : ScOk w s) (hb : Below w.heap.size w w') : ScOk w' s :=
 ⟨h.lats.below hb, fun l hl => (h.sh l hl).below hb, h.vars.below hb, h.lnil, h.vnil, h.lfew, h.vfew, h.lnm, h.vnm⟩
end
section
open Go.RowKit RM
theorem three_rows (w : World) (cs ds es : Array Value) (t u v : TypeId) : RowAt (((w.alloc (.cells cs t)).alloc (.cells ds u)).alloc (.cells es v)) w.heap.size t cs ∧ RowAt (((w.alloc (.cells cs t)).alloc (.cells ds u)).alloc (.cells es v)) (w.heap.size + 1) u ds ∧ RowAt (((w.alloc (.cells cs t)).alloc (.cells ds u)).alloc (.cells es v)) (w.heap.size + 2) v es ∧ Below w.heap.size w (((w.alloc (.cells cs t)).alloc (.cells ds u)).alloc (.cells es v)) := by
 obtain ⟨h1, h2, h3⟩ := two_rows w cs ds t u
 refine ⟨h1.alloc _, h2.alloc _, ?_, h3.alloc h3.size _⟩
 have h := RowAt.new ((w.alloc (.cells cs t)).alloc (.cells ds u)) v es
 rw [show ((w.alloc (.cells cs t)).alloc (.cells ds u)).heap.size = w.heap.size + 2 by simp] at h
 exact h
end
section
open Go.RowKit
structure LatO (w : World) (B : Nat) (l : ByteArray × Shp) : Prop where
 own : w.ownsRow B 61 67 (.slice l.2.A l.2.fs.length l.2.c) l.2.fs.length (fscells l.2.fs)
 fac : ∀ g ∈ l.2.fs, FacO w B g
theorem LatO.below {w w' : World} {B : Nat} {l : ByteArray × Shp} (h : LatO w B l) (hb : Below w.heap.size w w') : LatO w' B l := ⟨own_below h.own hb (zL _), fun g hg => (h.fac g hg).below hb (zL _)⟩
theorem own_some {w : World} {base size n c : Nat} {e : TypeId} {A : Option Addr} {cs : List Value} (h : w.ownsRow base e size (.slice A n c) n cs) (hn : 0 < n) : ∃ b, A = some ⟨b, 0, none⟩ ∧ base ≤ b ∧ b < w.heap.size := by
 rcases h.2 with ⟨hv, h0⟩ | ⟨g, cap, cur, hv, hg, hh, _⟩
 ·omega
 ·injection hv with h1 _ _
  exact ⟨g, h1, hg, (Array.getElem?_eq_some_iff.1 hh).1⟩
end
section
open Go.RowKit
theorem wp_moreS {P : Program} {w : World} {o : Oper} {a : Act} {K : Act → World → Prop} {Q : Exit → Act → World → Prop} (s x : Operand) (t : TypeId)
 (ho : o.op = .call { callee := .builtin .append, args := #[s, x], argTypes := #[t, t] })
 (e : TypeId) (z : Value) (size bytes : Nat) (ht : P.underlying t = some (.slice e))
 (hinf : (P.info? e).map (fun i => (i.zero, i.size, i.bytes)) = some (some z, size, bytes)) (hzs : z.cells.size = size) (hsz : 0 < size)
 (base : Nat) (A : Option Addr) (n c : Nat) (cs : List Value) (hs : a.eval s = .slice A n c) (hown : w.ownsRow base e size (.slice A n c) n cs)
 (g : Nat) (news : List Value) (hx : a.eval x = .slice (some ⟨g, 0, none⟩) 1 1) (hl : news.length = size)
 (hnews : ∀ j u, news[j]? = some u → w.cell? ⟨g, j, none⟩ = some u) (h1 : ∀ u ∈ news, u.oneCell' = true)
 (hn : n + 1 ≤ maxLen) (hb2 : (n + 1) * bytes ≤ 140737488355328) (hbase : base ≤ w.heap.size)
 (h : ∀ A' c' w', w'.ownsRow base e size (.slice A' (n + 1) c') (n + 1) (cs ++ news) → Below base w w' → w.grownBy w' (Value.slice A n c).ownBlock → ((Value.slice A' (n + 1) c').ownBlock = (Value.slice A n c).ownBlock ∨ (Value.slice A' (n + 1) c').ownBlock = some w.heap.size) → K (a.put o.dst (.slice A' (n + 1) c')) w') :
 o.wp P a w K Q := by
 obtain ⟨i, hi, hz, hi1, hi2⟩ := info_parts hinf
 have hadd : ∀ j, (⟨g, 0, none⟩ : Addr).add j = ⟨g, j, none⟩ := fun j => by unfold Addr.add; split <;> simp_all
 obtain ⟨v', w', hr, hown', hg, _, hat⟩ := run_append_own_at (P := P) w base t o.type e i z size bytes ht hi hz hi1 hi2 hzs hsz (.slice A n c) n cs hown ⟨g, 0, none⟩ 1 1 news (by rw [hl, Nat.one_mul])
  (fun j u hu => by rw [hadd]; exact hnews j u hu) h1 hn hb2 hbase
 obtain ⟨A', c', rfl, _, _⟩ := own_form hown'
 unfold Oper.wp execOp
 simp only [ho, resolve, invoke, builtin, Sem.run_bind, Sem.run_pure, Result.andThen_ok, List.map_toArray, List.map_cons, List.map_nil, hs, hx, hr]
 exact (h A' c' w' hown' ((zB base w).grown hg hbase (fun k hk => (hown.lt k hk).1)) hg hat)
end
section
open Go.RowKit RM
def repV (B : List Nat → List Nat → List Nat) (es : List (List Nat)) (v : List Nat) (l : List Nat) : List Nat := l.foldl (fun acc i => B (es.getD i []) acc) v
theorem repV_snoc (B : List Nat → List Nat → List Nat) (es : List (List Nat)) (v : List Nat) (l : List Nat) (i : Nat) : repV B es v (l ++ [i]) = B (es.getD i []) (repV B es v l) := by simp [repV]
theorem escells_len {es : List (List Nat)} (h : ∀ e ∈ es, EW e) : (escells es).length = es.length * 8 := by
 induction es with
 | nil => rfl
 | cons e es ih =>
   unfold escells at ih ⊢
   rw [List.flatMap_cons, zA7, ih fun f hf => h f (by simp [hf]), ucells_length, (h e (by simp)).1, zA8]
   omega
theorem escells_app (a b : List (List Nat)) : escells (a ++ b) = escells a ++ escells b := by simp [escells]
theorem escells_take {es : List (List Nat)} (h : ∀ e ∈ es, EW e) (k : Nat) (hk : k ≤ es.length) : (escells es).take (k * 8) = escells (es.take k) := by
 have e1 : escells es = escells (es.take k) ++ escells (es.drop k) := by rw [← escells_app, List.take_append_drop]
 have e2 : (escells (es.take k)).length = k * 8 := by
  rw [escells_len fun f hf => h f (List.mem_of_mem_take hf), List.length_take, Nat.min_eq_left hk]
 rw [e1, ← e2, List.take_left]
theorem own_cut8 {w : World} {base size n c : Nat} {e : TypeId} {A : Option Addr} {cs : List Value} (h : w.ownsRow base e size (.slice A n c) n cs) (m : Nat) (hm : m ≤ n) (hA : A ≠ none) : w.ownsRow base e size (.slice A m c) m (cs.take (m * size)) := by
 have hms : m * size ≤ n * size := Nat.mul_le_mul_right _ hm
 refine ⟨by rw [List.length_take, h.1]; omega, ?_⟩
 rcases h.2 with ⟨hv, _⟩ | ⟨g, cap, cur, hv, hg, hh, h1, h2, h3, h4⟩
 ·injection hv with e1 _ _
  exact absurd e1 hA
 ·injection hv with e1 _ e3
  subst e1 e3
  refine .inr ⟨g, c, cur, rfl, hg, hh, by omega, h2, h3, ?_⟩
  rw [← h4, List.take_take, Nat.min_eq_left hms]
section
variable {F : Fence} {n : Nat} {P : Program} {ops : Array Oper} {Q : Exit → Act → World → Prop} {a : Act} {w : World} {rest : List Oper} {o : Oper}
theorem wpListIn_ldRow (hg : o.guard = none) (hsem : o.semAt F.round a.eval = execOp a.eval o) (hab : ∀ f, F.fn f) (ty : TypeId) (x : Operand) (ho : o.op = .load ty x) (g : Nat) (hx : a.eval x = .pointer (some ⟨g, 0, none⟩)) (t : TypeId) (cs : Array Value) (d : TypeDesc) (hr : RowAt w g t cs)
 (hu : P.underlying ty = some d) (hd : (match d with | .struct _ | .array _ _ => true | _ => false) = true) (hi : (P.info? ty).map (·.size) = some cs.size) (h : wpListIn F n P ops Q rest (a.put o.dst (.agg cs)) w) : wpListIn F n P ops Q (o :: rest) a w :=
 wpListIn_val hg hsem hab (take_row (S := fun w => RowAt w g t cs) ty x ho g hx t cs d (fun _ h => h) hu hd hi w hr) h
theorem wpListIn_stRow (hg : o.guard = none) (hsem : o.semAt F.round a.eval = execOp a.eval o) (hab : ∀ f, F.fn f) (ty : TypeId) (x y : Operand) (ho : o.op = .store ty x y) (g : Nat) (cells : Array Value) (hx : a.eval x = .pointer (some ⟨g, 0, none⟩)) (hy : a.eval y = .agg cells)
 (t : TypeId) (old : Array Value) (hr : RowAt w g t old) (hi : (P.info? ty).map (·.size) = some cells.size) (hold : old.size = cells.size) (h1 : cells.all (·.oneCell') = true)
 (h : ∀ w', RowAt w' g t cells → Else g w w' → wpListIn F n P ops Q rest (a.put o.dst undef) w') : wpListIn F n P ops Q (o :: rest) a w :=
 wpListIn_plain hg fun K hK => ⟨fun f _ => hab f, by
  rw [hsem]
  unfold execOp
  simp only [ho, hx, hy, Instr.storeAt, Instr.sureAddr, Sem.run_bind, Sem.run_pure, Result.andThen_ok, run_storeVar_row w g t ty old cells hr hi hold h1]
  exact hK _ _ (h _ (hr.setRow cells) (Else.setRow w g _))⟩
end
theorem uv8_size {e : List Nat} (h : EW e) : (uv e).size = 8 := by
 show (ucells e).toArray.size = 8
 rw [List.size_toArray, ucells_length]; exact h.1
theorem uv8_one (e : List Nat) : (uv e).all (·.oneCell') = true := by simp [uv, ucells, Value.oneCell']
theorem keepsFrom_low {B : Nat} {W W' : World} (h : Below W.heap.size W W') : KeepsFrom B W W' :=
 ⟨h.size, fun k o _ hk _ => (h.block k (Array.getElem?_eq_some_iff.1 hk).1).trans hk⟩
theorem kpB_low {n₀ Bs : Nat} {W W' : World} (h : Below W.heap.size W W') (hn : n₀ ≤ W.heap.size) (hb : Bs < W.heap.size) : KpB n₀ Bs W W' := ⟨h.mono hn, h.block Bs hb⟩
theorem own_at8 {w : World} {base size n c : Nat} {e : TypeId} {A : Option Addr} {cs : List Value} (h : w.ownsRow base e size (.slice A n c) n cs) (hn : 0 < n) : ∃ g, A = some ⟨g, 0, none⟩ ∧ base ≤ g ∧ g < w.heap.size ∧ True ∧ ∃ cs t fr, w.heap[g]? = some (.cells cs t fr) := by
 rcases h.2 with ⟨_, h0⟩ | ⟨g, cap, cur, hv, hg, hh, _⟩
 ·omega
 ·injection hv with h1 _ _
  exact ⟨g, h1, hg, (Array.getElem?_eq_some_iff.1 hh).1, trivial, _, _, _, hh⟩
theorem take_pre3 {P : Program} {S : World → Prop} {o : Oper} {a : Act} (t : TypeId) (x y y2 : Operand) (ho : o.op = .slice t x none (some y) (some y2)) (A : Option Addr) (n c k z : Nat) (hx : a.eval x = .slice A n c) (hy : a.eval y = .int .i64 (k : Nat)) (hy2 : a.eval y2 = .int .i64 (c : Nat))
 (ht : P.underlying t = some (.slice (P.elem t))) (hz : ∀ w : World, (sizeOf (P.elem t)).run P w = .ok z w) (hk : k ≤ c) (hA : A.map (·.add 0) = A) : ∀ w, S w → (execOp a.eval o).run P w = .ok (.value (.slice A k c)) w := fun w _ => by
 have h1 : (Instr.sliceAt t (.slice A n c) none (some (.int .i64 (k : Nat))) (some (.int .i64 (c : Nat)))).run P w = .ok (.slice A k c) w := by
  rw [run_sliceAt_slice _ _ _ _ _ _ ht, run_slice_hm _ _ _ _ _ ht _ _ _ _ (by omega) (by omega) (by omega), hz]
  simp only [Result.andThen, sliced, Int.toNat_natCast, Nat.zero_mul, Nat.sub_zero, hA, ite_self]
 unfold execOp
 simp only [ho, hx, hy, hy2, Option.map_some, Option.map_none, Sem.run_bind, Sem.run_pure, Result.andThen_ok, h1]
theorem hsl8 : ∀ w : World, (sizeOf (Tryz.prog.elem 37)).run Tryz.prog w = .ok 8 w := fun w => by kernel_rfl
def zeroE : Value := .agg (uv (List.replicate 8 0))
theorem infoElemZ : (Tryz.prog.info? 40).map (fun i => (i.zero, i.size, i.bytes)) = some (some zeroE, 8, 64) := by kernel_rfl
theorem infoElem2 : (Tryz.prog.info? 40).map (fun i => (i.zero.isSome, i.size)) = some (true, 8) := by kernel_rfl
theorem wp_one8 {o : Oper} {a : Act} {w : World} {K : Act → World → Prop} {Q : Exit → Act → World → Prop} (x : Operand) (ho : o.op = .buildSlice 37 1 #[(0, x)])
 (e : List Nat) (he : EW e) (hx : a.eval x = .agg (uv e))
 (h : K (a.put o.dst (.slice (some ⟨w.heap.size, 0, none⟩) 1 1)) (w.alloc (.cells (uv e) 40))) : o.wp Tryz.prog a w K Q := by
 cases hi : Tryz.prog.info? 40 with
 | none => have h0 := infoElem2; rw [hi] at h0; cases h0
 | some i =>
   have h2 := infoElem2
   rw [hi] at h2
   simp only [Option.map_some, Option.some.injEq, Prod.mk.injEq] at h2
   obtain ⟨z, hz⟩ := Option.isSome_iff_exists.1 h2.1
   have hs := h2.2
   refine wp_buildSlice 37 40 1 _ ho (uv e) i z Tryz.underlying37 hi hz (by rw [hs]; decide) (by rw [hs]; decide) ?_ h
   rw [show (#[(0, x)].map fun (p : Nat × Operand) => (p.1, a.eval p.2)).toList = ([Value.agg (uv e)].zipIdx 0).map fun x => (x.2, x.1) by simp [hx], hs]
   have := Great.fill_whole (s := 8) (by decide) [Value.agg (uv e)] ((Array.range (1 * 8)).map (z.cells[· % z.cells.size]!)) (by
    intro v hv
    rw [List.mem_singleton] at hv
    subst hv
    exact uv8_size he) (by simp)
   rw [this]
   simp [Value.cells]
attribute [local go_sem] Oper.semAt_some
theorem replace_any (G : FuncId) (cap : Array Value) (B : List Nat → List Nat → List Nat) (hB : ∀ a b, EW a → EW b → EW (B a b)) (st : List (List Nat)) (hE : ∀ e ∈ st, EW e) (L k k1 m : Nat) (hL : st.length = L) (hm : L = m + k1) (hk : k1 = k + 1) (hmax : L ≤ 1000000)
 (A : Option Addr) (c base : Nat) (w : World) (hbase : base ≤ w.heap.size) (hown : w.ownsRow base 40 8 (.slice A L c) L (escells st))
 (hG : ∀ args w, (callFunc G args).run Tryz.prog w = .ok (.enter G args) w)
 (H : ∀ a b W, EW a → EW b → Below base w W → Calls Tryz.prog G (#[.agg (uv a), .agg (uv b)] ++ cap) W fun e W' => e = .returned (.agg (uv (B a b))) ∧ Below W.heap.size W W') :
 Calls Tryz.prog 38 #[.slice A L c, .int .i64 (k1 : Int), .func (.func G) #[] cap] w fun e w' => ∃ A' c', e = .returned (.slice A' (m + 1) c') ∧
  w'.ownsRow base 40 8 (.slice A' (m + 1) c') (m + 1) (escells (st.take m ++ [repV B ((st.drop m).take k) (st.getD (m + k) []) (downTo k k)])) ∧ Below base w w' := by
 refine (callsIn_wide (n := 4)).1 ?_
 refine callsIn_of_wp_marks Tryz.func38 rfl trivial ?_ rfl
 simp only [Tryz.ntmps38, List.size_toArray, zA8, zA9, Nat.reduceAdd, Nat.reduceSub, Array.replicate_succ, Array.replicate_zero, List.push_toArray, List.append_toArray, List.nil_append, List.cons_append]
 refine wpIn_wide.2 ?_
 obtain ⟨g, rfl, hg1, hg2⟩ := own_some hown (by omega)
 have hcap := ownCap hown
 have hf0 : IntKind.i64.wrap ((L : Int) - (k1 : Int)) = (m : Int) := by rw [IntWalk.i64_in _ ⟨by omega, by omega⟩]; omega
 have hf1 : IntKind.i64.wrap ((k1 : Int) - 1) = (k : Int) := by rw [IntWalk.i64_in _ ⟨by omega, by omega⟩]; omega
 have hSl : Sl w w.heap.size (some ⟨g, 0, none⟩) (escells st) := Sl.of_own hown
 have hmc : ¬ c = m := by omega
 have hmL : (m : Int) ≤ (L : Int) := by omega
 have hki : (k : Int) < (k1 : Int) := by omega
 have hkc : (k : Int) ≤ ((c - m : Nat) : Int) := by omega
 have hLm : L - m = k1 := by omega
 have hrng : w.rangeAt g (m * 8 + k * 8) (ucells (st.getD (m + k) [])) := by
  have := els_rng hSl hE (k := m + k) (by omega)
  rw [Nat.zero_add, Nat.add_mul] at this
  exact this
 have hew : EW (st.getD (m + k) []) := hE _ (eget_mem (by omega))
 have HMK := zh hm
 have HKK := zh hk
 have HLL := zh hL
 have HOW := zh hown
 have HSL := zh hSl
 have HEW := zh hew
 have HRNG := zh hrng
 clear hm hk hL hown hSl hrng
 generalize hv : st.getD (m + k) [] = v0 at *
 clear hv
 have HHc := zh hcap; clear hcap
 go_upto_region 3 with fail
 have hb1 : Below w.heap.size w (w.alloc (.cells #[.func (.func G) #[] cap] 31)) := (zB _ _).alloc (zL _) _
 have hb0 := RowAt.new w 31 #[.func (.func G) #[] cap]
 change Code.wp _ _ _ _ (w.alloc (.cells #[.func (.func G) #[] cap] 31))
 have hsz1 : (w.alloc (.cells #[.func (.func G) #[] cap] 31)).heap.size = w.heap.size + 1 := by simp
 generalize w.alloc (.cells #[.func (.func G) #[] cap] 31) = w1 at *
 have hr1 : w1.rangeAt g (m * 8 + k * 8) (ucells v0) := fun j u hu => (hb1.cell (p := ⟨g, m * 8 + k * 8 + j, none⟩) hg2).trans (HRNG.out j u hu)
 have HB1 := zh hb1
 have HBX1 := zh hb0
 have HSZ1 := zh hsz1
 have HG2 := zh hg2
 clear hb1 hb0 hsz1 hg2
 go_upto_region 4 with (first
  | (refine wpList_loadElemIn (by rfl) _ rfl g (m * 8 + k * 8) rfl _ HEW.out hr1 ?_)
  | (refine wpList_stRow (by rfl) _ _ _ rfl w1.heap.size (uv v0) rfl rfl _ _ (RowAt.new _ _ _) (einfo2 HEW.out) (by have := HEW.out.1; simp [uv, ucells, this]) (by simp [uv, ucells, Value.oneCell']) ?_; intro w2 r2 he; have HRV := zh r2; have HB12 : Hid (Below w1.heap.size w1 w2) := zh (((zB _ _).alloc (zL _) _).trans (he.below (zL _))); clear r2 he))
 have hsz2 := HB12.out.size
 go_wp2_with (go_at_call 59; refine (elemBack_any _ _ _ _).mono ?_; rintro e w3 ⟨rfl, rfl⟩)
 have hW0 : Below w2.heap.size w2 (w2.alloc (.cells #[.slice (some ⟨g, m * 8, none⟩) k (c - m)] 37)) := (zB _ _).alloc (zL _) _
 have hBX := RowAt.new w2 37 #[.slice (some ⟨g, m * 8, none⟩) k (c - m)]
 obtain ⟨gB, hgB⟩ : ∃ z, z = w2.heap.size := ⟨_, rfl⟩
 rw [← hgB] at hBX
 rw [← hgB]
 generalize w2.alloc (.cells #[.slice (some ⟨g, m * 8, none⟩) k (c - m)] 37) = W0 at *
 have hs0 := hW0.size
 have hs1 := HSZ1.out
 have hrv := HRV.out.lt
 have hbx := hBX.lt
 obtain ⟨es, hes⟩ : ∃ z, z = (st.drop m).take k := ⟨_, rfl⟩
 have hesl : es.length = k := by
  have := HMK.out; have := HKK.out; have := HLL.out
  rw [hes, List.length_take, List.length_drop]; omega
 have hesE : ∀ e ∈ es, EW e := fun e he => hE e (List.mem_of_mem_drop (List.mem_of_mem_take (by rw [← hes]; exact he)))
 have B1 : Below w.heap.size w w1 := HB1.out
 have B2 : Below w.heap.size w w2 := B1.trans (HB12.out.mono (by omega))
 have B0 : Below w.heap.size w W0 := B2.trans (hW0.mono (by have := HB12.out.size; omega))
 have hSl0 : Sl W0 w.heap.size (some ⟨g, m * 8, none⟩) (escells es) := fun hne => by
  have hlt : m < st.length := by have := HMK.out; have := HKK.out; have := HLL.out; omega
  refine ⟨g, m * 8, rfl, HG2.out, fun j u hu => ?_⟩
  have hj : j < k * 8 := by
   have := (List.getElem?_eq_some_iff.1 hu).1
   rw [escells_len hesE, hesl] at this; exact this
  obtain ⟨b', o', e', hc'⟩ := els_at HSL.out hE (k := m) hlt
  injection e' with e'
  injection e' with e1 e2 _
  subst e1 e2
  have hi : m + j / 8 < st.length := by have := HMK.out; have := HKK.out; have := HLL.out; omega
  have h1 := escells_at es hesE (j / 8) (j % 8) (by omega) (Nat.mod_lt _ (by omega))
  rw [show j / 8 * 8 + j % 8 = j by omega, hu] at h1
  have h2 : es.getD (j / 8) [] = st.getD (m + j / 8) [] := by
   rw [hes, List.getD_eq_getElem?_getD, List.getD_eq_getElem?_getD, List.getElem?_take, if_pos (by omega), List.getElem?_drop]
  rw [h2] at h1
  have h3 := hc' (m + j / 8) hi (j % 8) u h1.symm
  rw [show 0 + (m + j / 8) * 8 + j % 8 = m * 8 + j by omega] at h3
  exact (B0.cell (p := ⟨g, m * 8 + j, none⟩) HG2.out).trans h3
 have R5 : RowAt W0 w.heap.size 31 #[.func (.func G) #[] cap] := (HBX1.out.below HB12.out HBX1.out.lt).below hW0 (by omega)
 have R9 : RowAt W0 w1.heap.size 40 (uv v0) := HRV.out.below hW0 hrv
 have q1 : w1.heap.size < W0.heap.size := by omega
 have q2 : w.heap.size < W0.heap.size := by omega
 have q3 : w.heap.size ≤ w1.heap.size := by omega
 have q4 : w.heap.size ≠ w1.heap.size := by omega
 have hkk : k ≤ 4294967296 := by have := HMK.out; have := HKK.out; omega
 have q5 : w1.heap.size < gB := by omega
 clear hs1 hgB hsz2 hs0 hrv
 refine (wpIn_wide (n := 4)).1 ?_
 refine wpIn_rangeFunc_ownH rfl (by omega) (gf := 72) (lb := #[.pointer (some ⟨gB, 0, none⟩)]) rfl trivial (enters_of Tryz.func72 (by kernel_rfl) rfl)
  (elemBack_stops (4 - 1) gB w.heap.size k (c - m) (some ⟨g, m * 8, none⟩) es hesl hesE hkk W0 hbx (by omega) ((hBX.cell 0).trans rfl) hSl0) kpB_t (kpB_b (by omega) hbx) (zB _ _) (fun _ => rfl)
  (fun pre W => (RowAt W w.heap.size 31 #[.func (.func G) #[] cap] ∧ RowAt W w1.heap.size 40 (uv (repV B es v0 (pre.map (·.1))))) ∧ (EW (repV B es v0 (pre.map (·.1))) ∧ W0.heap.size ≤ W.heap.size ∧ Below w.heap.size w W))
  (fun _ _ _ => False)
  ?hI (fun _ _ _ _ _ hs _ _ => hs)
  ⟨⟨R5, R9⟩, HEW.out, zL _, B0⟩
  (fun x a' W => ∃ Bx, W0.heap.size ≤ Bx ∧ RowAt W Bx 40 (uv (es.getD x.1 [])) ∧ a' = { tmps := #[.slice (some ⟨g, 0, none⟩) L c, .int .i64 (k1 : Int), .func (.func G) #[] cap, undef, undef, .pointer (some ⟨w.heap.size, 0, none⟩), .slice none 0 0, .int .i64 (m : Int), .slice (some ⟨g, m * 8, none⟩) k1 (c - m),
   .pointer (some ⟨w1.heap.size, 0, none⟩), undef, .pointer (some ⟨Bx, 0, none⟩), .slice (some ⟨g, 0, none⟩) L c, .int .i64 (L : Int), .int .i64 (k1 : Int), .int .i64 (m : Int), .slice (some ⟨g, 0, none⟩) L c, .int .i64 (m : Int), .slice (some ⟨g, m * 8, none⟩) k1 (c - m), .slice (some ⟨g, m * 8, none⟩) k1 (c - m), .int .i64 (k1 : Int),
   .int .i64 (k : Int), .pointer (some ⟨g, m * 8 + k * 8, none⟩), .agg (uv v0), .slice (some ⟨g, m * 8, none⟩) k1 (c - m), .int .i64 (k1 : Int), .int .i64 (k : Int), .slice (some ⟨g, m * 8, none⟩) k (c - m), .func (.func 72) #[] #[.pointer (some ⟨gB, 0, none⟩)],
   .int .i64 (x.1 : Int), .agg (uv (es.getD x.1 [])), undef, undef, undef, undef, undef, undef, undef, undef, undef, undef, undef, undef], defers := [] })
  ?hAx ?assign ?body ?done ?stop
 case hI =>
  intro pre X Y row hs hg hr
  refine ⟨⟨hs.1.1.grown hg fun e => ?_, hs.1.2.grown hg fun e => ?_⟩, hs.2.1, zM hs.2.2.1 hg.size, hs.2.2.2.grown hg hs.2.2.2.size fun j e => ?_⟩
  ·have := (hr _ e).1; omega
  ·have := (hr _ e).1; omega
  ·have := (hr _ e).1; omega
 case hAx =>
  rintro x a' u X Y row ⟨Bx, hx, hrw, rfl⟩ hg hr
  refine ⟨Bx, hx, hrw.grown hg fun e => ?_, rfl⟩
  obtain ⟨_, o, ho, hc⟩ := hr _ e
  rw [show X.heap[Bx]? = _ from hrw] at ho
  cases ho
  cases hc
 case assign =>
  intro l pre x W K hi hK
  unfold encB
  obtain ⟨⟨i5, i9⟩, iew, isz, ibw⟩ := hi
  have hx := hesE _ (eget_mem x.2)
  have HI5 := zh i5
  have HI9 := zh i9
  have HIS := zh isz
  have HIB := zh ibw
  have HXE := zh hx
  have HKC := zh hK
  clear i5 i9 isz ibw hx hK
  generalize es.getD x.1 [] = ex at *
  gi_wp2_with (refine wpListIn_stRow rfl (by first | rfl | exact Oper.semAt_some _ _ _ (fun _ h => by cases h)) (fun _ => trivial) _ _ _ rfl W.heap.size (uv ex) rfl rfl _ _ (RowAt.new _ _ _) (einfo2 HXE.out) (by have := HXE.out.1; simp [uv, ucells, this]) (uv8_one _) ?_; intro W1 rW he; have HW1 : Hid (Below W.heap.size W W1) := zh (((zB _ _).alloc (zL _) _).trans (he.below (zL _))); have HRW := zh rW; clear he rW)
  have h9 : w1.heap.size < W.heap.size := HI9.out.lt
  have h5 : w.heap.size < W.heap.size := HI5.out.lt
  refine HKC.out _ _ (keepsFrom_low HW1.out) (kpB_low HW1.out (by omega) (by have := HIS.out; omega)) ⟨⟨HI5.out.below HW1.out h5, HI9.out.below HW1.out h9⟩, iew, zM HIS.out HW1.out.size, HIB.out.trans (HW1.out.mono HIB.out.size)⟩ ⟨W.heap.size, HIS.out, HRW.out, ?_⟩
  rfl
 case body =>
  rintro l pre x a' W hl ⟨r, hr⟩ ⟨⟨r5, r9⟩, hew9, hsz, hbw⟩ ⟨Bx, hBx, rx, rfl⟩ hlen
  have c5 := (r5.cell 0).trans (show (#[Value.func (.func G) #[] cap] : Array Value)[0]? = some (.func (.func G) #[] cap) from rfl)
  have hxe := hesE _ (eget_mem x.2)
  have hc := H (es.getD x.1 []) (repV B es v0 (pre.map (·.1))) W hxe hew9 (hbw.mono hbase)
  have HC := zh hc
  have HR5 := zh r5
  have HR9 := zh r9
  have HRX := zh rx
  have HXE := zh hxe
  have HE9 := zh hew9
  have HS9 := zh hsz
  have HBW := zh hbw
  have HBB := zh (hB _ _ hxe hew9)
  have hsn : repV B es v0 ((pre ++ [x]).map (·.1)) = B (es.getD x.1 []) (repV B es v0 (pre.map (·.1))) := by
   rw [List.map_append]; exact repV_snoc B es v0 _ x.1
  have HSN := zh hsn
  clear hc r5 r9 rx hxe hew9 hsz hbw hr hsn
  generalize repV B es v0 (pre.map (·.1)) = acc at *
  generalize es.getD x.1 [] = ex at *
  gi_wp2_with (first
   | (refine wpListIn_ldRow rfl (by first | rfl | exact Oper.semAt_some _ _ _ (fun _ h => by cases h)) (fun _ => trivial) _ _ rfl Bx rfl _ _ _ HRX.out Tryz.underlying40 rfl (einfo2 HXE.out) ?_)
   | (refine wpListIn_ldRow rfl (by first | rfl | exact Oper.semAt_some _ _ _ (fun _ h => by cases h)) (fun _ => trivial) _ _ rfl w1.heap.size rfl _ _ _ HR9.out Tryz.underlying40 rfl (einfo2 HE9.out) ?_))
  refine ⟨trivial, (CallsIn.inRound l (callsIn_wide.2 HC.out)).mono ?_⟩
  rintro e W1 ⟨rfl, hb1⟩
  have HR91 := zh (HR9.out.below hb1 HR9.out.lt)
  have HWB := zh hb1
  clear hb1
  gi_wp2_with (refine wpListIn_stRow rfl (by first | rfl | exact Oper.semAt_some _ _ _ (fun _ h => by cases h)) (fun _ => trivial) _ _ _ rfl w1.heap.size (uv (B ex acc)) rfl rfl _ _ HR91.out (einfo2 HBB.out) (by rw [uv8_size HE9.out, uv8_size HBB.out]) (uv8_one _) ?_; intro W2 r2 he; have HR92 := zh r2; have HEL := zh he; clear r2 he)
  have h9 : w1.heap.size < W.heap.size := HR9.out.lt
  have h5 : w.heap.size < W.heap.size := HR5.out.lt
  have hs1 := HWB.out.size
  have hs2 : W1.heap.size ≤ W2.heap.size := (HEL.out.below (zL _)).size
  have hB12 : Below w.heap.size W1 W2 := HEL.out.below q3
  have hB2 : Below w.heap.size W W2 := (HWB.out.mono (by omega)).trans hB12
  refine ⟨⟨by omega, fun j o hj hjo ho => ?_⟩, ⟨hB2, ?_⟩, ⟨⟨?_, ?_⟩, ?_, by have := HS9.out; omega, HBW.out.trans hB2⟩⟩
  ·exact (HEL.out.block j (by omega)).trans ((HWB.out.block j (Array.getElem?_eq_some_iff.1 hjo).1).trans hjo)
  ·exact (HEL.out.block gB (by omega)).trans (HWB.out.block gB (by have := HS9.out; omega))
  ·exact (HR5.out.below HWB.out h5).other HEL.out q4
  ·rw [HSN.out]; exact HR92.out
  ·rw [HSN.out]; exact HBB.out
 case done =>
  rintro D ys W hD hS ⟨⟨r5, r9⟩, hew9, hsz, hbw⟩ hK
  have hfin : ys.map (·.1) = downTo k k := hS
  rw [hfin] at r9 hew9
  rw [hes] at r9 hew9
  have HO := zh ((own_cut8 (own_below HOW.out (hbw.mono (zL _)) (zL _)) m (by have := HMK.out; omega) (by simp)))
  have HD := zh hD
  have HR9 := zh r9
  have HE9 := zh hew9
  have HSZ := zh hsz
  have HBW := zh hbw
  have HK := zh hK
  clear r9 hew9 hsz hbw hK hD r5
  go_upto_region 7 with fail
  have hmc2 : m ≤ c := by have := HMK.out; have := HHc.out; omega
  generalize hvv : repV B ((st.drop m).take k) v0 (downTo k k) = vv at *
  have HVV := zh hvv; clear hvv
  have HSv0 : Hid (RowAt W.drew w1.heap.size 40 (uv vv)) := HR9
  have HL0 : Hid (Below W.heap.size W W.drew) := zh (zB _ _).drew
  refine wp_region_ou (fun V => RowAt V w1.heap.size 40 (uv vv)) ((.take 0 (.take 1 (.take 2 (.take 3 (.take 4 (.take 5 (.solo 6 (.solo 7 (.take 8 .nil)))))))))) (by kernel_rfl) (by kernel_rfl) rfl (by kernel_rfl) HSv0.out ?_
  generalize W.drew = u0 at HSv0 HL0 ⊢
  have CV : ∀ V, RowAt V w1.heap.size 40 (uv vv) → RowAt V w1.heap.size 40 (uv vv) := fun V hV => hV
  iterate 6
   (refine wpOU_step (zO rfl) ?_)
   (first
    | (refine wpOU_skip (by rfl) ?_)
    | (refine wpOU_take (by rfl) (take_pre3 _ _ _ _ rfl (some ⟨g, 0, none⟩) L c m 8 rfl rfl rfl (by kernel_rfl) hsl8 hmc2 rfl) ?_)
    | (refine wpOU_take (by rfl) (take_row _ _ rfl w1.heap.size rfl _ _ _ CV Tryz.underlying40 rfl (einfo2 HE9.out)) ?_)
    | (refine wpOU_take (v := ?_) (by rfl) ?_ ?_; rotate_left 1; (intro wx hSx; go_simp; try with_reducible rfl)))
   (try simp only [Act.put, zA4, zA5, zA6])
  (refine wpOU_solo (zO rfl) ?_)
  intro K hK
  rw [if_pos (by rfl)]
  refine wp_one8 _ rfl vv HE9.out rfl ?_
  have hb : Below u0.heap.size u0 (u0.alloc (.cells (uv vv) 40)) := (zB _ _).alloc (zL _) _
  have HSv1 : Hid (RowAt (u0.alloc (.cells (uv vv) 40)) w1.heap.size 40 (uv vv)) := zh (HSv0.out.below hb HSv0.out.lt)
  have HL1 : Hid (Below W.heap.size W (u0.alloc (.cells (uv vv) 40))) := zh (HL0.out.trans (hb.mono HL0.out.size))
  have HRN := zh (RowAt.new u0 40 (uv vv))
  have HO1 := zh (own_below HO.out HL1.out (zL _))
  clear hb
  refine hK.out _ _ HSv1.out ?_
  clear hK K
  (try simp only [Act.put, zA4, zA5, zA6])
  generalize hgn : u0.heap.size = gn at *
  generalize u0.alloc (.cells (uv vv) 40) = u1 at *
  clear hgn
  (refine wpOU_solo (zO rfl) ?_)
  intro K hK
  rw [if_pos (by rfl)]
  refine wp_moreS _ _ 37 rfl 40 zeroE 8 64 Tryz.underlying37 infoElemZ rfl (by decide) base (some ⟨g, 0, none⟩) m c ((escells st).take (m * 8)) rfl HO1.out gn (ucells vv) rfl (by rw [ucells_length]; exact HE9.out.1) (fun j u hu => (HRN.out.cell j).trans (by unfold uv; simpa [ucells] using hu)) (fun u hu => by unfold ucells at hu; obtain ⟨z, _, rfl⟩ := List.mem_map.1 hu; rfl) (by simp only [maxLen]; have := HMK.out; omega) (by have := HMK.out; omega) (by have := HL1.out.size; have := HSZ.out; omega) ?_
  intro A' c' u2 hown' hbe hgr _
  have HSv2 : Hid (RowAt u2 w1.heap.size 40 (uv vv)) := zh (HSv1.out.grown hgr fun e => by have := HG2.out; simp [Value.ownBlock] at e; omega)
  have hD0 : W.heap.size ≤ u1.heap.size := HL1.out.size
  have hDl : D < W.heap.size := (Array.getElem?_eq_some_iff.1 HK.out).1
  have hm2 : u2.heap[D]? = some (.deferred (some [])) := (hgr.block D (by omega) (fun e => by have := HD.out; have := HG2.out; simp [Value.ownBlock] at e; omega)).trans ((HL1.out.block D hDl).trans HK.out)
  have HM2 := zh hm2
  have HB2 : Hid (Below base w u2) := zh (((HBW.out.mono hbase).trans (HL1.out.mono (by have := HBW.out.size; omega))).trans hbe)
  have HO2 := zh hown'
  clear hm2 hown' hbe hgr
  refine hK.out _ _ HSv2.out ?_
  clear hK K
  (try simp only [Act.put, zA4, zA5, zA6])
  iterate 1
   (refine wpOU_step (zO rfl) ?_)
   (first
    | (refine wpOU_skip (by rfl) ?_)
    | (refine wpOU_take (v := ?_) (by rfl) ?_ ?_; rotate_left 1; (intro wx hSx; go_simp; try with_reducible rfl)))
   (try simp only [Act.put, zA4, zA5, zA6])
  refine wpOU_done ?_
  go_wp2_with fail
  rw [HVV.out]
  have hcs : (escells st).take (m * 8) ++ ucells vv = escells (st.take m ++ [vv]) := by
   rw [escells_app, escells_take hE m (by have := HMK.out; have := HLL.out; omega)]
   simp [escells]
  refine ⟨by simp, .inl ⟨_, _, rfl, run_takeDeferred HM2.out, ?_⟩⟩
  refine ⟨_, results_tmp rfl _ _ _, A', c', rfl, ?_, HB2.out.trans (belowK_b (w := w) hbase u2 D _ _ (by have := HD.out; omega) HM2.out rfl rfl)⟩
  rw [← hcs]
  exact own_same HO2.out fun b hb hv => by
   have hbl := HO2.out.lt b hv
   unfold World.putObj
   simp only [Array.getElem?_setIfInBounds]
   by_cases e : D = b
   ·exfalso
    subst e
    obtain ⟨g', e1, _, _, _, hcell⟩ := own_at8 HO2.out (by omega)
    rw [e1] at hv
    simp [Value.ownBlock] at hv
    subst hv
    rw [show u2.heap[g']? = _ from HM2.out] at hcell
    obtain ⟨cs, t, fr, hcell⟩ := hcell
    cases hcell
   ·rw [if_neg e]
 case stop =>
  rintro D c' pre W _ _ h _
  exact h.elim
end
section
open Go.RowKit RM
structure In where
 op : Int
 n : Int
 e : {l : List Nat // EW l}
def insC (x : In) : List Value := .int .i64 x.op :: .int .i64 x.n :: ucells x.e.1
theorem insC_len (x : In) : (insC x).length = 10 := by
 unfold insC
 rw [zA8, zA8, ucells_length, x.e.2.1]
def in0 : In := ⟨0, 0, ⟨List.replicate 8 0, EW.zeros⟩⟩
theorem insC_size (x : In) : (insC x).toArray.size = 10 := by rw [List.size_toArray]; exact insC_len x
theorem insC_one (x : In) : (insC x).toArray.all (·.oneCell') = true := by simp [insC, ucells, Value.oneCell']
theorem infoIns (x : In) : (Tryz.prog.info? 85).map (·.size) = some (insC x).toArray.size := by rw [insC_size]; kernel_rfl
theorem infoInsL (x : In) : (Tryz.prog.info? 85).map (·.size) = some (insC x).length := by rw [insC_len]; kernel_rfl
theorem ins_cells {w : World} {g : Nat} {x : In} (h : RowAt w g 85 (insC x).toArray) : w.cell? ⟨g, 0, none⟩ = some (.int .i64 x.op) ∧ w.cell? ⟨g, 1, none⟩ = some (.int .i64 x.n) ∧ w.rangeAt g 2 (ucells x.e.1) :=
 ⟨(h.cell 0).trans rfl, (h.cell 1).trans rfl, h.range 2 _ fun j u hu => by
   unfold insC
   rw [zA1, show 2 + j = j + 2 by omega]
   simpa using hu⟩
def roomG : List In → Nat → Nat → Option (Nat × Nat)
 | [], sz, mx => some (mx, sz)
 | i :: l, sz, mx =>
   if i.op = 1 ∨ i.op = 2 then roomG l (sz + 1) (max mx (sz + 1))
   else if i.op = 3 ∨ i.op = 4 then
     if i.n < 1 ∨ (sz : Int) < i.n then none else roomG l (sz + 1 - i.n.toNat) (max mx (sz + 1 - i.n.toNat))
   else none
theorem roomG_at {l : List In} {k : Nat} (hk : k < l.length) (sz mx : Nat) : roomG (l.drop k) sz mx =
 if (l.getD k in0).op = 1 ∨ (l.getD k in0).op = 2 then roomG (l.drop (k + 1)) (sz + 1) (max mx (sz + 1))
 else if (l.getD k in0).op = 3 ∨ (l.getD k in0).op = 4 then
  if (l.getD k in0).n < 1 ∨ (sz : Int) < (l.getD k in0).n then none else roomG (l.drop (k + 1)) (sz + 1 - (l.getD k in0).n.toNat) (max mx (sz + 1 - (l.getD k in0).n.toNat))
 else none := by
 rw [List.drop_eq_getElem_cons hk, List.getD_eq_getElem?_getD, List.getElem?_eq_getElem hk]
 rfl
theorem roomG_end (l : List In) (sz mx : Nat) : roomG (l.drop l.length) sz mx = some (mx, sz) := by
 rw [List.drop_eq_nil_of_le (zL _)]; rfl
def mstI (r : Option (Nat × Nat)) : Nat := match r with
 | none => 0
 | some (m, _) => m
def rgtB (r : Option (Nat × Nat)) : Bool := match r with
 | none => false
 | some (_, s) => s == 1
theorem room_any (A : Option Addr) (c : Nat) (l : List In) (w : World) (hl : l.length ≤ 1000000) (hA : Ls insC w A l) :
 Calls Tryz.prog 35 #[.slice A l.length c] w fun e w' => e = .returned (.tuple #[.int .i64 ((mstI (roomG l 0 0) : Nat) : Int), .bool (rgtB (roomG l 0 0))]) ∧ Below w.heap.size w w' := by
 refine cHid fun Q' hQ => ?_
 have HQ := zh hQ; clear hQ
 have HA := zh hA; clear hA
 have HB0 : Hid (Below w.heap.size w w) := zB _ _
 obtain ⟨R, hR⟩ : ∃ R, R = roomG l 0 0 := ⟨_, rfl⟩
 have HR0 : Hid (roomG (l.drop 0) 0 0 = R) := zh (by rw [List.drop_zero]; exact hR.symm)
 rw [← hR] at HQ
 clear hR
 have HND : Hid (∀ sz mx, roomG (l.drop l.length) sz mx = some (mx, sz)) := zh (roomG_end l)
 have HAT : Hid (∀ k, k < l.length → ∀ sz mx, roomG (l.drop k) sz mx = _) := zh fun k hk => roomG_at hk
 generalize hn : l.length = n at *
 have HN := zh hn; clear hn
 go_enter Tryz.func35, Tryz.ntmps35
 go_wp2
 go_loopw [4, 5, 10] (fun sv mv kv wr => ∃ k sz mx : Nat, k ≤ n ∧ sz ≤ k ∧ mx ≤ k ∧ kv = .int .i64 k ∧ sv = .int .i64 sz ∧ mv = .int .i64 mx ∧ Hid (roomG (l.drop k) sz mx = R) ∧ Hid (Below w.heap.size w wr)) (fun _ _ kv _ => n - (intOf kv).toNat)
 case atStart => exact ⟨0, 0, 0, by omega, by omega, by omega, rfl, rfl, rfl, HR0, HB0⟩
 case round =>
  clear HB0 HR0
  obtain ⟨k, sz, mx, hk, hsz, hmx, rfl, rfl, rfl, HG, HB⟩ := hrel
  by_cases hlt : k < n
  ·obtain ⟨b, o, rfl, hbl, hc⟩ := (HA.out.below HB.out).at 10 insC_len (by omega) in0 (i := k) (by rw [HN.out]; exact hlt)
   have hr := hc k (by rw [HN.out]; exact hlt)
   have hg := HG.out
   rw [HAT.out k hlt] at hg
   have hci := infoInsL (l.getD k in0)
   have HW : Hid (Below w.heap.size w (wr.alloc (.cells (insC (l.getD k in0)).toArray 85))) := zh (HB.out.trans (((zB _ _).alloc (zL _) _).mono HB.out.size))
   have HRW := zh (RowAt.new wr 85 (insC (l.getD k in0)).toArray)
   clear hc HG hbl
   generalize l.getD k in0 = x at *
   have HRN := zh hr; clear hr
   have HRW2 := HRW
   go_upto_region 5 with (first
        | (refine wpList_ldIn (by rfl) _ _ rfl b (o + k * 10) rfl _ _ HRN.out Tryz.underlying85 rfl hci ?_)
        | (refine wpList_stRow (by rfl) _ _ _ rfl wr.heap.size (insC x).toArray rfl rfl _ _ (RowAt.new _ _ _) (infoIns x) (by rw [insC_size]; rfl) (insC_one x) ?_; intro w2 r2 he; have HR2 := zh r2; have HB2 : Hid (Below wr.heap.size wr w2) := zh (((zB _ _).alloc (zL _) _).trans (he.below (zL _))); clear r2 he))
   have HBW2 : Hid (Below w.heap.size w w2) := zh (HB.out.trans (HB2.out.mono HB.out.size))
   obtain ⟨c0, c1, _⟩ := ins_cells HR2.out
   clear HRW HRW2 HW HR2 HB2 HRN hci
   generalize wr.heap.size = gw at *
   obtain ⟨op, nn, e⟩ := x
   dsimp only at c0 c1 hg
   by_cases h1 : op = 1 ∨ op = 2
   ·rw [if_pos h1] at hg
    obtain ⟨s1, hs1⟩ : ∃ z, z = sz + 1 := ⟨_, rfl⟩
    rw [← hs1] at hg
    have hw1 : IntKind.i64.wrap ((sz : Int) + 1) = (s1 : Int) := by rw [IntWalk.i64_in _ ⟨by omega, by omega⟩]; omega
    have hw2 : (sz : Int) + 1 = (s1 : Int) := by omega
    have hs1k : s1 ≤ k + 1 := by omega
    clear hs1
    rcases h1 with rfl | rfl
    ·rcases Nat.lt_trichotomy mx s1 with hm | hm | hm
     ·have hq : max mx s1 = s1 := by omega
      rw [hq] at hg
      have HG2 := zh hg
      have hmi : (mx : Int) < (s1 : Int) := by omega
      clear hg hq
      go_wp2_with fail
      go_roundw
      case rel => exact ⟨k + 1, s1, s1, by omega, by omega, by omega, by go_num, by go_num, by go_num, HG2, HBW2⟩
      case measure => simp [intOf]; omega
     ·have hq : max mx s1 = s1 := by omega
      rw [hq] at hg
      have HG2 := zh hg
      subst hm
      clear hg hq
      go_wp2_with fail
      go_roundw
      case rel => exact ⟨k + 1, mx, mx, by omega, by omega, by omega, by go_num, by go_num, by go_num, HG2, HBW2⟩
      case measure => simp [intOf]; omega
     ·have hq : max mx s1 = mx := by omega
      rw [hq] at hg
      have HG2 := zh hg
      have hmi : (s1 : Int) < (mx : Int) := by omega
      have hmj : ¬ (mx : Int) < (s1 : Int) := by omega
      clear hg hq
      go_wp2_with fail
      go_roundw
      case rel => exact ⟨k + 1, s1, mx, by omega, by omega, by omega, by go_num, by go_num, by go_num, HG2, HBW2⟩
      case measure => simp [intOf]; omega
    ·rcases Nat.lt_trichotomy mx s1 with hm | hm | hm
     ·have hq : max mx s1 = s1 := by omega
      rw [hq] at hg
      have HG2 := zh hg
      have hmi : (mx : Int) < (s1 : Int) := by omega
      clear hg hq
      go_wp2_with fail
      go_roundw
      case rel => exact ⟨k + 1, s1, s1, by omega, by omega, by omega, by go_num, by go_num, by go_num, HG2, HBW2⟩
      case measure => simp [intOf]; omega
     ·have hq : max mx s1 = s1 := by omega
      rw [hq] at hg
      have HG2 := zh hg
      subst hm
      clear hg hq
      go_wp2_with fail
      go_roundw
      case rel => exact ⟨k + 1, mx, mx, by omega, by omega, by omega, by go_num, by go_num, by go_num, HG2, HBW2⟩
      case measure => simp [intOf]; omega
     ·have hq : max mx s1 = mx := by omega
      rw [hq] at hg
      have HG2 := zh hg
      have hmi : (s1 : Int) < (mx : Int) := by omega
      have hmj : ¬ (mx : Int) < (s1 : Int) := by omega
      clear hg hq
      go_wp2_with fail
      go_roundw
      case rel => exact ⟨k + 1, s1, mx, by omega, by omega, by omega, by go_num, by go_num, by go_num, HG2, HBW2⟩
      case measure => simp [intOf]; omega
   ·rw [if_neg h1] at hg
    have n1 : (op == 1) = false := by simp; omega
    have n2 : (op == 2) = false := by simp; omega
    by_cases h3 : op = 3 ∨ op = 4
    ·rw [if_pos h3] at hg
     clear h1
     by_cases hb : nn < 1 ∨ (sz : Int) < nn
     ·rw [if_pos hb] at hg
      rw [← hg] at HQ
      have HQ2 := zh HQ.out
      clear hg
      rcases h3 with rfl | rfl
      all_goals
           by_cases hb1 : nn < 1
           ·have q1 : decide (nn < 1) = true := zE hb1
            go_wp2_with fail
            exact HQ.out _ _ ⟨rfl, HBW2.out⟩
           ·have q1 : decide (nn < 1) = false := zF hb1
            have hb2 : (sz : Int) < nn := by omega
            have q2 : decide ((sz : Int) < nn) = true := zE hb2
            go_wp2_with fail
            exact HQ.out _ _ ⟨rfl, HBW2.out⟩
     ·rw [if_neg hb] at hg
      have hb1 : ¬ nn < 1 := fun h => hb (.inl h)
      have hb2 : ¬ (sz : Int) < nn := fun h => hb (.inr h)
      obtain ⟨s1, hs1⟩ : ∃ z, z = sz + 1 - nn.toNat := ⟨_, rfl⟩
      rw [← hs1] at hg
      have hw1 : IntKind.i64.wrap (nn - 1) = nn - 1 := IntWalk.i64_in _ ⟨by omega, by omega⟩
      have hw2 : IntKind.i64.wrap ((sz : Int) - (nn - 1)) = (s1 : Int) := by rw [IntWalk.i64_in _ ⟨by omega, by omega⟩]; omega
      have hw3 : (sz : Int) - (nn - 1) = (s1 : Int) := by omega
      have hs1k : s1 ≤ k + 1 := by omega
      have q1 : decide (nn < 1) = false := zF hb1
      have q2 : decide ((sz : Int) < nn) = false := zF hb2
      clear hs1 hb
      rcases h3 with rfl | rfl
      ·rcases Nat.lt_trichotomy mx s1 with hm | hm | hm
       ·have hq : max mx s1 = s1 := by omega
        rw [hq] at hg
        have HG2 := zh hg
        have hmi : (mx : Int) < (s1 : Int) := by omega
        clear hg hq
        go_wp2_with fail
        go_roundw
        case rel => exact ⟨k + 1, s1, s1, by omega, by omega, by omega, by go_num, by go_num, by go_num, HG2, HBW2⟩
        case measure => simp [intOf]; omega
       ·have hq : max mx s1 = s1 := by omega
        rw [hq] at hg
        have HG2 := zh hg
        subst hm
        clear hg hq
        go_wp2_with fail
        go_roundw
        case rel => exact ⟨k + 1, mx, mx, by omega, by omega, by omega, by go_num, by go_num, by go_num, HG2, HBW2⟩
        case measure => simp [intOf]; omega
       ·have hq : max mx s1 = mx := by omega
        rw [hq] at hg
        have HG2 := zh hg
        have hmi : (s1 : Int) < (mx : Int) := by omega
        have hmj : ¬ (mx : Int) < (s1 : Int) := by omega
        clear hg hq
        go_wp2_with fail
        go_roundw
        case rel => exact ⟨k + 1, s1, mx, by omega, by omega, by omega, by go_num, by go_num, by go_num, HG2, HBW2⟩
        case measure => simp [intOf]; omega
      ·rcases Nat.lt_trichotomy mx s1 with hm | hm | hm
       ·have hq : max mx s1 = s1 := by omega
        rw [hq] at hg
        have HG2 := zh hg
        have hmi : (mx : Int) < (s1 : Int) := by omega
        clear hg hq
        go_wp2_with fail
        go_roundw
        case rel => exact ⟨k + 1, s1, s1, by omega, by omega, by omega, by go_num, by go_num, by go_num, HG2, HBW2⟩
        case measure => simp [intOf]; omega
       ·have hq : max mx s1 = s1 := by omega
        rw [hq] at hg
        have HG2 := zh hg
        subst hm
        clear hg hq
        go_wp2_with fail
        go_roundw
        case rel => exact ⟨k + 1, mx, mx, by omega, by omega, by omega, by go_num, by go_num, by go_num, HG2, HBW2⟩
        case measure => simp [intOf]; omega
       ·have hq : max mx s1 = mx := by omega
        rw [hq] at hg
        have HG2 := zh hg
        have hmi : (s1 : Int) < (mx : Int) := by omega
        have hmj : ¬ (mx : Int) < (s1 : Int) := by omega
        clear hg hq
        go_wp2_with fail
        go_roundw
        case rel => exact ⟨k + 1, s1, mx, by omega, by omega, by omega, by go_num, by go_num, by go_num, HG2, HBW2⟩
        case measure => simp [intOf]; omega
    ·rw [if_neg h3] at hg
     have n3 : (op == 3) = false := by simp; omega
     have n4 : (op == 4) = false := by simp; omega
     rw [← hg] at HQ
     clear hg h1 h3
     go_wp2_with fail
     exact HQ.out _ _ ⟨rfl, HBW2.out⟩
  ·obtain rfl : k = n := by omega
   have hg := HG.out
   rw [← HN.out, List.drop_eq_nil_of_le (zL _)] at hg
   have hg2 : some (mx, sz) = R := hg
   rw [← hg2] at HQ
   clear hg hg2
   have HQ2 : Hid (∀ W, Below w.heap.size w W → Q' (.returned (.tuple #[.int .i64 (mx : Int), .bool (sz == 1)])) W) := zh fun W hW => HQ.out _ _ ⟨rfl, hW⟩
   clear HQ
   by_cases h1 : sz = 1
   ·have hz : ((sz : Int) == 1) = true := by simp [h1]
    have hz2 : (sz == 1) = true := by simp [h1]
    rw [hz2] at HQ2
    clear h1 hz2
    go_wp2_with fail
    exact HQ2.out _ HB.out
   ·have hz : ((sz : Int) == 1) = false := by simp; omega
    have hz2 : (sz == 1) = false := by simp [h1]
    rw [hz2] at HQ2
    clear h1 hz2
    go_wp2_with fail
    exact HQ2.out _ HB.out
end
section
open Go.RowKit RM
theorem ret2 {P : Program} {fn : Func} {q r : Tmp} {ty : TypeId} (h : fn.results = #[.cell q ty, .tmp r]) (tmps : Array Value) (w : World) (g : Nat) (t : TypeId) (cs : Array Value) (fr : Nat × Nat) (d : TypeDesc) (v : Value)
 (hp : tmps.getD q undef = .pointer (some ⟨g, 0, none⟩)) (hv : tmps.getD r undef = v) (hg : w.heap[g]? = some (.cells cs t fr))
 (hu : P.underlying ty = some d) (hd : (match d with | .struct _ | .array _ _ => true | _ => false) = true) (hi : (P.info? ty).map (·.size) = some cs.size) :
 (results fn tmps).run P w = .ok (.tuple #[.agg cs, v]) w := by
 have hp' : tmps[q]?.getD undef = .pointer (some ⟨g, 0, none⟩) := by simpa using hp
 have hv' : tmps[r]?.getD undef = v := by simpa using hv
 simp [results, h, hp', hv', asAddr, run_loadVar_row w g t ty cs fr d hg hu hd hi]
theorem evJoin_any (t : Bool) (A : Option Addr) (c : Nat) (fs : List Fac) (a b : List Nat) (ha : EW a) (hb : EW b) (g3 : Nat) (w : World) (hT : Tab w) (hF : Facs w A fs) (hr : RowAt w g3 24 (sv t A fs.length c)) :
 Calls Tryz.prog 36 #[.agg (uv a), .agg (uv b), .pointer (some ⟨g3, 0, none⟩)] w fun e w' => e = .returned (.agg (uv (joinE fs a b))) ∧ Below w.heap.size w w' := by
 obtain ⟨ra, rb, rz, hbl⟩ := three_rows w (uv a) (uv b) (uv (List.replicate 8 0)) 40 40 40
 refine cHid fun Q' hQ => ?_
 have HQ := zh hQ; clear hQ
 rw [← zero_elem] at rz hbl ra rb
 go_enter Tryz.func36, Tryz.ntmps36
 go_upto_region 1 with fail
 rw [zero_elem] at rz hbl ra rb ⊢
 change Code.wp _ _ _ _ (((w.alloc (.cells (uv a) 40)).alloc (.cells (uv b) 40)).alloc (.cells (uv (List.replicate 8 0)) 40))
 generalize ((w.alloc (.cells (uv a) 40)).alloc (.cells (uv b) 40)).alloc (.cells (uv (List.replicate 8 0)) 40) = w1 at *
 have HRS := zh (hr.below hbl hr.lt)
 have HRA := zh ra
 have HRB := zh rb
 have HRZ := zh rz
 have HB := zh hbl
 have HSZ := zh hbl.size
 have HJ := zh (sjoin_any t A c fs a b ha hb w1 (hT.below hbl) (hF.below hbl))
 have HEA := zh ha
 have HEB := zh hb
 have HEJ := zh (joinE_ew fs ha hb)
 clear hr hbl ra rb rz hT hF ha hb
 generalize joinE fs a b = j at *
 go_wp2_with (first
  | (refine wpList_loadS (by rfl) _ _ rfl g3 rfl _ _ _ HRS.out Tryz.underlying24 rfl (by kernel_rfl) ?_)
  | (refine wpList_loadS (by rfl) _ _ rfl w.heap.size rfl _ _ _ HRA.out Tryz.underlying40 rfl (einfo2 HEA.out) ?_)
  | (refine wpList_loadS (by rfl) _ _ rfl (w.heap.size + 1) rfl _ _ _ HRB.out Tryz.underlying40 rfl (einfo2 HEB.out) ?_)
  | (go_at_call 37; refine HJ.out.mono ?_; rintro e w2 ⟨rfl, hb2⟩; have HB2 := zh hb2; have HRZ2 := zh (HRZ.out.below hb2 HRZ.out.lt); clear hb2)
  | (refine wpList_stRow (by rfl) _ _ _ rfl (w.heap.size + 1 + 1) (uv j) rfl rfl _ _ HRZ2.out (einfo2 HEJ.out) (by rw [uv8_size EW.zeros, uv8_size HEJ.out]) (uv8_one _) ?_; intro w3 r3 he; have HR3 := zh r3; have HE3 := zh he; clear r3 he))
 have hz := HRZ.out.lt
 exact bodyPost_ret (retRow rfl _ _ (w.heap.size + 1 + 1) _ _ (0, 0) _ rfl HR3.out Tryz.underlying40 rfl (einfo2 HEJ.out)) rfl (HQ.out _ _ ⟨rfl, (HB.out.trans (HB2.out.mono HSZ.out)).trans (HE3.out.below (by omega))⟩)
end
end Go.Proofs.YtdahllhbpdbknaaGreatDoor
