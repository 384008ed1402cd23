/- Texts that all the claims need. Conditions: those that each states. -/
import Derived.Deep.CutRange
import Derived.LoopN
import Derived.Test.YtppcjocmjpbmmaaGreatDoorCk2
import Derived.Test.YtppcjocmjpbmmaaGreatDoorCk3
set_option linter.unusedSimpArgs false
set_option linter.unusedVariables false
set_option maxRecDepth 100000
set_option maxHeartbeats 40000000
namespace Go.Proofs.YtppcjocmjpbmmaaGreatDoor
section
open Go.RowKit
theorem cHid {P : Program} {F : FuncId} {a : Array Value} {w : World} {Q : Ending → World → Prop} (h : ∀ Q' : Ending → World → Prop, (∀ e w, Q e w → Q' e w) → Calls P F a w Q') : Calls P F a w Q := h Q fun _ _ h => h
theorem rw2 {w : World} {g : Nat} {t : TypeId} {a b : Value} (h : RowAt w g t #[a, b]) : w.cell? ⟨g, 0, none⟩ = some a ∧ w.cell? ⟨g, 1, none⟩ = some b ∧ w.frozen? ⟨g, 0, none⟩ = false ∧ w.frozen? ⟨g, 1, none⟩ = false :=
 ⟨(h.cell 0).trans rfl, (h.cell 1).trans rfl, h.free 0, h.free 1⟩
theorem rw3 {w : World} {g : Nat} {t : TypeId} {a b c : Value} (h : RowAt w g t #[a, b, c]) : w.cell? ⟨g, 0, none⟩ = some a ∧ w.cell? ⟨g, 1, none⟩ = some b ∧ w.cell? ⟨g, 2, none⟩ = some c ∧ w.frozen? ⟨g, 0, none⟩ = false ∧ w.frozen? ⟨g, 1, none⟩ = false ∧ w.frozen? ⟨g, 2, none⟩ = false :=
 ⟨(h.cell 0).trans rfl, (h.cell 1).trans rfl, (h.cell 2).trans rfl, h.free 0, h.free 1, h.free 2⟩
theorem take_row {P : Program} {S : World → Prop} {o : Oper} {a : Act} (ty : TypeId) (x : Operand) (ho : o.op = .load ty x) (g : Nat) (hx : a.eval x = .pointer (some ⟨g, 0, none⟩)) (t : TypeId) (cs : Array Value) (d : TypeDesc) (hS : ∀ w, S w → RowAt w g t cs)
 (hu : P.underlying ty = some d) (hd : (match d with | .struct _ | .array _ _ => true | _ => false) = true) (hi : (P.info? ty).map (·.size) = some cs.size) : ∀ w, S w → (execOp a.eval o).run P w = .ok (.value (.agg cs)) w := fun w hw => by
 unfold execOp
 simp only [ho, hx, Instr.loadAt, Instr.sureAddr, Sem.run_bind, Sem.run_pure, Result.andThen_ok, run_loadVar_row w g t ty cs (0, 0) d (hS w hw) hu hd hi]
theorem wpList_loadS {P : Program} {ops : Array Oper} {rest : List Oper} {o : Oper} {a : Act} {w : World} {Q : Exit → Act → World → Prop} (hgd : Region.wanted o (yielded ops a.tmps) = true) (ty : TypeId) (x : Operand) (ho : o.op = .load ty x)
 (g : Nat) (hx : a.eval x = .pointer (some ⟨g, 0, none⟩)) (t : TypeId) (cs : Array Value) (d : TypeDesc) (hg : RowAt w g t cs)
 (hu : P.underlying ty = some d) (hd : (match d with | .struct _ | .array _ _ => true | _ => false) = true) (hi : (P.info? ty).map (·.size) = some cs.size)
 (h : wpList P ops Q rest (a.put o.dst (.agg cs)) w) : wpList P ops Q (o :: rest) a w :=
 wpList_step fun _ hK => by rw [if_pos hgd]; exact wp_load_row ty x ho g hx t cs (0, 0) d hg hu hd hi (hK _ _ h)
theorem ownCap {w : World} {base size n c : Nat} {e : TypeId} {A : Option Addr} {cs : List Value} (h : w.ownsRow base e size (.slice A n c) n cs) : n ≤ c := by
 obtain ⟨A', c', hv, hc, _⟩ := own_form h
 injection hv with _ _ h3
 omega
theorem own_same {w w' : World} {base size n : Nat} {e : TypeId} {v : Value} {cs : List Value} (h : w.ownsRow base e size v n cs) (hb : ∀ b, b < w.heap.size → v.ownBlock = some b → w'.heap[b]? = w.heap[b]?) : w'.ownsRow base e size v n cs := by
 refine ⟨h.1, ?_⟩
 rcases h.2 with hn | ⟨g, cap, cur, rfl, hg, hh, rest⟩
 ·exact .inl hn
 ·exact .inr ⟨g, cap, cur, rfl, hg, (hb g (Array.getElem?_eq_some_iff.1 hh).1 rfl).trans hh, rest⟩
theorem wpList_moreS {P : Program} (w : World) {ops : Array Oper} {rest : List Oper} {o : Oper} {a : Act} {Q : Exit → Act → World → Prop} (hgd : o.guard = none) (s x : Operand) (t : TypeId)
 (ho : o.op = .call { callee := .builtin .append, args := #[s, x], argTypes := #[t, t] })
 (e : TypeId) (z : Value) (size bytes : Nat) (ht : P.underlying t = some (.slice e))
 (hinf : (P.info? e).map (fun i => (i.zero, i.size, i.bytes)) = some (some z, size, bytes)) (hzs : z.cells.size = size) (hsz : 0 < size)
 (base : Nat) (A : Option Addr) (n c : Nat) (cs : List Value) (hs : a.eval s = .slice A n c) (hown : w.ownsRow base e size (.slice A n c) n cs)
 (g : Nat) (news : List Value) (hx : a.eval x = .slice (some ⟨g, 0, none⟩) 1 1) (hl : news.length = size)
 (hnews : ∀ j u, news[j]? = some u → w.cell? ⟨g, j, none⟩ = some u) (h1 : ∀ u ∈ news, u.oneCell' = true)
 (hn : n + 1 ≤ maxLen) (hb2 : (n + 1) * bytes ≤ 140737488355328) (hbase : base ≤ w.heap.size)
 (h : ∀ A' c' w', w'.ownsRow base e size (.slice A' (n + 1) c') (n + 1) (cs ++ news) → Below base w w' → w.grownBy w' (Value.slice A n c).ownBlock → ((Value.slice A' (n + 1) c').ownBlock = (Value.slice A n c).ownBlock ∨ (Value.slice A' (n + 1) c').ownBlock = some w.heap.size) → wpList P ops Q rest (a.put o.dst (.slice A' (n + 1) c')) w') :
 wpList P ops Q (o :: rest) a w := by
 obtain ⟨i, hi, hz, hi1, hi2⟩ := info_parts hinf
 have hadd : ∀ j, (⟨g, 0, none⟩ : Addr).add j = ⟨g, j, none⟩ := fun j => by unfold Addr.add; split <;> simp_all
 refine wpList_plain hgd fun _ hK => ?_
 obtain ⟨v', w', hr, hown', hg, _, hat⟩ := run_append_own_at (P := P) w base t o.type e i z size bytes ht hi hz hi1 hi2 hzs hsz (.slice A n c) n cs hown ⟨g, 0, none⟩ 1 1 news (by rw [hl, Nat.one_mul])
  (fun j u hu => by rw [hadd]; exact hnews j u hu) h1 hn hb2 hbase
 obtain ⟨A', c', rfl, _, _⟩ := own_form hown'
 unfold Oper.wp execOp
 simp only [ho, resolve, invoke, builtin, Sem.run_bind, Sem.run_pure, Result.andThen_ok, List.map_toArray, List.map_cons, List.map_nil, hs, hx, hr]
 exact hK _ _ (h A' c' w' hown' ((zB base w).grown hg hbase (fun k hk => (hown.lt k hk).1)) hg hat)
section
variable {P : Program} {ops : Array Oper} {rest : List Oper} {o : Oper} {a : Act} {w : World} {Q : Exit → Act → World → Prop}
theorem wpList_ldIn (hgd : Region.wanted o (yielded ops a.tmps) = true) (ty : TypeId) (x : Operand) (ho : o.op = .load ty x) (b k : Nat) (hx : a.eval x = .pointer (some ⟨b, k, none⟩)) (cs : List Value) (d : TypeDesc)
 (hc : w.rangeAt b k cs) (hu : P.underlying ty = some d) (hd : d.isRow = true) (hi : (P.info? ty).map (·.size) = some cs.length) (h : wpList P ops Q rest (a.put o.dst (.agg cs.toArray)) w) : wpList P ops Q (o :: rest) a w :=
 wpList_step fun _ hK => by rw [if_pos hgd]; exact wp_load_mid ty x ho b k hx cs d hc hu hd hi (hK _ _ h)
theorem wpList_stRow (hgd : Region.wanted o (yielded ops a.tmps) = true) (ty : TypeId) (x y : Operand) (ho : o.op = .store ty x y) (g : Nat) (cells : Array Value) (hx : a.eval x = .pointer (some ⟨g, 0, none⟩)) (hy : a.eval y = .agg cells)
 (t : TypeId) (old : Array Value) (hg : RowAt w g t old) (hi : (P.info? ty).map (·.size) = some cells.size) (hold : old.size = cells.size) (h1 : cells.all (·.oneCell') = true)
 (h : ∀ w', RowAt w' g t cells → Else g w w' → wpList P ops Q rest (a.put o.dst undef) w') : wpList P ops Q (o :: rest) a w :=
 wpList_step fun _ hK => by rw [if_pos hgd]; exact wp_store_row ty x y ho g cells hx hy t old hg hi hold h1 (hK _ _ (h _ (hg.setRow cells) (Else.setRow w g _)))
end
theorem retRow {P : Program} {fn : Func} {q : Tmp} {ty : TypeId} (h : fn.results = #[.cell q ty]) (tmps : Array Value) (w : World) (g : Nat) (t : TypeId) (cs : Array Value) (fr : Nat × Nat) (d : TypeDesc)
 (hp : tmps.getD q undef = .pointer (some ⟨g, 0, none⟩)) (hg : w.heap[g]? = some (.cells cs t fr))
 (hu : P.underlying ty = some d) (hd : (match d with | .struct _ | .array _ _ => true | _ => false) = true) (hi : (P.info? ty).map (·.size) = some cs.size) :
 (results fn tmps).run P w = .ok (.agg cs) w := by
 have hp' : tmps[q]?.getD undef = .pointer (some ⟨g, 0, none⟩) := by simpa using hp
 simp [results, h, hp', asAddr, run_loadVar_row w g t ty cs fr d hg hu hd hi]
end
section
open Go.RowKit
def wdC (x : ByteArray × Int) : List Value := [.string x.1, .int .i64 x.2]
def pwC (x : (ByteArray × Int) × (ByteArray × Int)) : List Value := [.string x.1.1, .int .i64 x.1.2, .string x.2.1, .int .i64 x.2.2]
def varC (x : ByteArray × Int × Int) : List Value := [.string x.1, .int .i64 x.2.1, .int .i64 x.2.2]
end
section
open Go.RowKit
structure Nt where
 k : Int
 p : Int
 s : ByteArray
 A : Option Addr
 n : Nat
 c : Nat
 B : Option Addr
 m : Nat
 d : Nat
def ntC (x : Nt) : List Value := [.int .i64 x.k, .int .i64 x.p, .string x.s, .slice x.A x.n x.c, .slice x.B x.m x.d]
def nt0 : Nt := ⟨0, 0, ⟨#[]⟩, none, 0, 0, none, 0, 0⟩
end
section
open Go.RowKit RM
def leafN (k : Int) (s : ByteArray) : Nt := ⟨k, 0, s, none, 0, 0, none, 0, 0⟩
def kidsN (k : Int) (B : Option Addr) (m : Nat) : Nt := ⟨k, 0, ⟨#[]⟩, none, 0, 0, B, m, m⟩
theorem nt_row {w : World} {g : Nat} {x : Nt} (h : RowAt w g 56 (ntC x).toArray) : w.cell? ⟨g, 0, none⟩ = some (.int .i64 x.k) ∧ w.cell? ⟨g, 1, none⟩ = some (.int .i64 x.p) ∧ w.cell? ⟨g, 2, none⟩ = some (.string x.s) ∧ w.cell? ⟨g, 3, none⟩ = some (.slice x.A x.n x.c) ∧ w.cell? ⟨g, 4, none⟩ = some (.slice x.B x.m x.d) :=
 ⟨(h.cell 0).trans rfl, (h.cell 1).trans rfl, (h.cell 2).trans rfl, (h.cell 3).trans rfl, (h.cell 4).trans rfl⟩
theorem leaf_yes (k : Int) (s : ByteArray) (hs : NM.right s = true) (w : World) :
 Calls Tryz.prog 58 #[.agg (ntC (leafN k s)).toArray] w fun e w' => e = .returned (.bool true) ∧ Below w.heap.size w w' := by
 have r0 := RowAt.new w 56 (ntC (leafN k s)).toArray
 have hb : Below w.heap.size w (w.alloc (.cells (ntC (leafN k s)).toArray 56)) := (zB _ _).alloc (zL _) _
 refine cHid fun Q' hQ => ?_
 have HQ := zh hQ; clear hQ
 go_enter Tryz.func58, Tryz.ntmps58
 go_upto_region 1 with fail
 change Code.wp _ _ _ _ (w.alloc (.cells (ntC (leafN k s)).toArray 56))
 generalize w.alloc (.cells (ntC (leafN k s)).toArray 56) = w1 at *
 have HB := zh hb
 have HR := zh r0
 have HC := zh (right_any s w1)
 rw [hs] at HC
 obtain ⟨_, _, c2, _, _⟩ := nt_row r0
 unfold leafN at c2
 dsimp only at c2
 clear hb hs r0
 go_wp2_with (go_at_call 80; refine HC.out.mono ?_; rintro e w2 ⟨rfl, hb2⟩; obtain ⟨_, _, _, c3, c4⟩ := nt_row (HR.out.below hb2 HR.out.lt); unfold leafN at c3 c4; dsimp only at c3 c4; have HB2 := zh hb2; clear hb2)
 exact HQ.out _ _ ⟨rfl, HB.out.trans (HB2.out.mono HB.out.size)⟩
theorem branch_yes (k : Int) (B : Option Addr) (m : Nat) (w : World) :
 Calls Tryz.prog 32 #[.agg (ntC (kidsN k B m)).toArray] w fun e w' => e = .returned (.bool true) ∧ Below w.heap.size w w' := by
 have r0 := RowAt.new w 56 (ntC (kidsN k B m)).toArray
 have hb : Below w.heap.size w (w.alloc (.cells (ntC (kidsN k B m)).toArray 56)) := (zB _ _).alloc (zL _) _
 refine cHid fun Q' hQ => ?_
 have HQ := zh hQ; clear hQ
 go_enter Tryz.func32, Tryz.ntmps32
 go_upto_region 1 with fail
 change Code.wp _ _ _ _ (w.alloc (.cells (ntC (kidsN k B m)).toArray 56))
 generalize w.alloc (.cells (ntC (kidsN k B m)).toArray 56) = w1 at *
 have HB := zh hb
 obtain ⟨_, _, c2, c3, _⟩ := nt_row r0
 unfold kidsN at c2 c3
 dsimp only at c2 c3
 clear hb r0
 go_wp2_with fail
 exact HQ.out _ _ ⟨rfl, HB.out⟩
theorem const_point (s : ByteArray) (hs : NM.right s = true) (w : World) :
 Calls Tryz.prog 59 #[.agg (ntC (leafN 2 s)).toArray] w fun e w' => e = .returned (.bool true) ∧ Below w.heap.size w w' := by
 have r0 := RowAt.new w 56 (ntC (leafN 2 s)).toArray
 have hb : Below w.heap.size w (w.alloc (.cells (ntC (leafN 2 s)).toArray 56)) := (zB _ _).alloc (zL _) _
 refine cHid fun Q' hQ => ?_
 have HQ := zh hQ; clear hQ
 go_enter Tryz.func59, Tryz.ntmps59
 go_upto_region 1 with fail
 change Code.wp _ _ _ _ (w.alloc (.cells (ntC (leafN 2 s)).toArray 56))
 generalize w.alloc (.cells (ntC (leafN 2 s)).toArray 56) = w1 at *
 have HB := zh hb
 have HR := zh r0
 have HC := zh (leaf_yes 2 s hs w1)
 obtain ⟨c0, _, _, _, _⟩ := nt_row r0
 unfold leafN at c0
 dsimp only at c0
 clear hb r0
 go_wp2_with (first
  | (refine wpList_loadS (by rfl) _ _ rfl w.heap.size rfl _ _ _ HR.out Tryz.underlying56 rfl (by kernel_rfl) ?_)
  | (go_at_call 58; refine HC.out.mono ?_; rintro e w2 ⟨rfl, hb2⟩; have HB2 := zh hb2; clear hb2))
 exact HQ.out _ _ ⟨rfl, HB.out.trans (HB2.out.mono HB.out.size)⟩
theorem atom_var (s : ByteArray) (hs : NM.right s = true) (w : World) :
 Calls Tryz.prog 34 #[.agg (ntC (leafN 1 s)).toArray] w fun e w' => e = .returned (.bool true) ∧ Below w.heap.size w w' := by
 have r0 := RowAt.new w 56 (ntC (leafN 1 s)).toArray
 have hb : Below w.heap.size w (w.alloc (.cells (ntC (leafN 1 s)).toArray 56)) := (zB _ _).alloc (zL _) _
 refine cHid fun Q' hQ => ?_
 have HQ := zh hQ; clear hQ
 go_enter Tryz.func34, Tryz.ntmps34
 go_upto_region 1 with fail
 change Code.wp _ _ _ _ (w.alloc (.cells (ntC (leafN 1 s)).toArray 56))
 generalize w.alloc (.cells (ntC (leafN 1 s)).toArray 56) = w1 at *
 have HB := zh hb
 have HR := zh r0
 have HC := zh (leaf_yes 1 s hs w1)
 obtain ⟨c0, _, _, _, _⟩ := nt_row r0
 unfold leafN at c0
 dsimp only at c0
 clear hb r0
 go_wp2_with (first
  | (refine wpList_loadS (by rfl) _ _ rfl w.heap.size rfl _ _ _ HR.out Tryz.underlying56 rfl (by kernel_rfl) ?_)
  | (go_at_call 58; refine HC.out.mono ?_; rintro e w2 ⟨rfl, hb2⟩; have HB2 := zh hb2; clear hb2))
 exact HQ.out _ _ ⟨rfl, HB.out.trans (HB2.out.mono HB.out.size)⟩
theorem label_var (s : ByteArray) (hs : NM.right s = true) (w : World) :
 Calls Tryz.prog 24 #[.agg (ntC (leafN 1 s)).toArray] w fun e w' => e = .returned (.bool true) ∧ Below w.heap.size w w' := by
 have r0 := RowAt.new w 56 (ntC (leafN 1 s)).toArray
 have hb : Below w.heap.size w (w.alloc (.cells (ntC (leafN 1 s)).toArray 56)) := (zB _ _).alloc (zL _) _
 refine cHid fun Q' hQ => ?_
 have HQ := zh hQ; clear hQ
 go_enter Tryz.func24, Tryz.ntmps24
 go_upto_region 1 with fail
 change Code.wp _ _ _ _ (w.alloc (.cells (ntC (leafN 1 s)).toArray 56))
 generalize w.alloc (.cells (ntC (leafN 1 s)).toArray 56) = w1 at *
 have HB := zh hb
 have HR := zh r0
 have HC := zh (atom_var s hs w1)
 obtain ⟨c0, _, _, _, _⟩ := nt_row r0
 unfold leafN at c0
 dsimp only at c0
 clear hb r0
 go_wp2_with (first
  | (refine wpList_loadS (by rfl) _ _ rfl w.heap.size rfl _ _ _ HR.out Tryz.underlying56 rfl (by kernel_rfl) ?_)
  | (go_at_call 34; refine HC.out.mono ?_; rintro e w2 ⟨rfl, hb2⟩; have HB2 := zh hb2; clear hb2))
 exact HQ.out _ _ ⟨rfl, HB.out.trans (HB2.out.mono HB.out.size)⟩
theorem atom_const (b : Nat) (y : Nt) (w : World) (hlt : b < w.heap.size) (hy : w.rangeAt b 0 (ntC y)) (HY : ∀ W, Below w.heap.size w W → Calls Tryz.prog 59 #[.agg (ntC y).toArray] W fun e w' => e = .returned (.bool true) ∧ Below W.heap.size W w') :
 Calls Tryz.prog 34 #[.agg (ntC (kidsN 7 (some ⟨b, 0, none⟩) 1)).toArray] w fun e w' => e = .returned (.bool true) ∧ Below w.heap.size w w' := by
 have r0 := RowAt.new w 56 (ntC (kidsN 7 (some ⟨b, 0, none⟩) 1)).toArray
 have hb : Below w.heap.size w (w.alloc (.cells (ntC (kidsN 7 (some ⟨b, 0, none⟩) 1)).toArray 56)) := (zB _ _).alloc (zL _) _
 refine cHid fun Q' hQ => ?_
 have HQ := zh hQ; clear hQ
 go_enter Tryz.func34, Tryz.ntmps34
 go_upto_region 1 with fail
 change Code.wp _ _ _ _ (w.alloc (.cells (ntC (kidsN 7 (some ⟨b, 0, none⟩) 1)).toArray 56))
 generalize w.alloc (.cells (ntC (kidsN 7 (some ⟨b, 0, none⟩) 1)).toArray 56) = w1 at *
 have HB := zh hb
 have HR := zh r0
 have HC := zh (branch_yes 7 (some ⟨b, 0, none⟩) 1 w1)
 have HYf := zh HY
 have HYR : Hid (∀ W, Below w.heap.size w W → W.rangeAt b 0 (ntC y)) := zh fun W hW j u hu => (hW.cell (p := ⟨b, 0 + j, none⟩) hlt).trans (hy j u hu)
 obtain ⟨c0, _, _, _, _⟩ := nt_row r0
 unfold kidsN at c0
 dsimp only at c0
 clear hb r0 HY hy
 go_wp2_with (first
  | (refine wpList_loadS (by rfl) _ _ rfl w.heap.size rfl _ _ _ HR.out Tryz.underlying56 rfl (by kernel_rfl) ?_)
  | (go_at_call 32; refine HC.out.mono ?_; rintro e w2 ⟨rfl, hb2⟩; obtain ⟨_, _, _, _, c4⟩ := nt_row (HR.out.below hb2 HR.out.lt); unfold kidsN at c4; dsimp only at c4; have HB2 := zh (HB.out.trans (hb2.mono HB.out.size)); have HYR2 := zh (HYR.out w2 HB2.out); have HY2 := zh (HYf.out w2 HB2.out); clear hb2)
  | (refine wpList_ldIn (by first | rfl | kernel_rfl) _ _ rfl b 0 rfl _ _ HYR2.out Tryz.underlying56 rfl (by kernel_rfl) ?_)
  | (go_at_call 59; refine HY2.out.mono ?_; rintro e w3 ⟨rfl, hb3⟩; have HB3 := zh (HB2.out.trans (hb3.mono HB2.out.size)); clear hb3))
 exact HQ.out _ _ ⟨rfl, HB3.out⟩
theorem label_const (b : Nat) (y : Nt) (w : World) (hlt : b < w.heap.size) (hy : w.rangeAt b 0 (ntC y)) (HY : ∀ W, Below w.heap.size w W → Calls Tryz.prog 59 #[.agg (ntC y).toArray] W fun e w' => e = .returned (.bool true) ∧ Below W.heap.size W w') :
 Calls Tryz.prog 24 #[.agg (ntC (kidsN 7 (some ⟨b, 0, none⟩) 1)).toArray] w fun e w' => e = .returned (.bool true) ∧ Below w.heap.size w w' := by
 have r0 := RowAt.new w 56 (ntC (kidsN 7 (some ⟨b, 0, none⟩) 1)).toArray
 have hb : Below w.heap.size w (w.alloc (.cells (ntC (kidsN 7 (some ⟨b, 0, none⟩) 1)).toArray 56)) := (zB _ _).alloc (zL _) _
 refine cHid fun Q' hQ => ?_
 have HQ := zh hQ; clear hQ
 go_enter Tryz.func24, Tryz.ntmps24
 go_upto_region 1 with fail
 change Code.wp _ _ _ _ (w.alloc (.cells (ntC (kidsN 7 (some ⟨b, 0, none⟩) 1)).toArray 56))
 generalize w.alloc (.cells (ntC (kidsN 7 (some ⟨b, 0, none⟩) 1)).toArray 56) = w1 at *
 have HB := zh hb
 have HR := zh r0
 have hyl : ∀ W, Below w.heap.size w W → W.rangeAt b 0 (ntC y) := fun W hW j u hu => (hW.cell (p := ⟨b, 0 + j, none⟩) hlt).trans (hy j u hu)
 have HC := zh (atom_const b y w1 (zT hlt hb.size) (hyl w1 hb) fun W hW => HY W (hb.trans (hW.mono hb.size)))
 obtain ⟨c0, _, _, _, _⟩ := nt_row r0
 unfold kidsN at c0
 dsimp only at c0
 clear hb r0 HY hy hyl
 go_wp2_with (first
  | (refine wpList_loadS (by rfl) _ _ rfl w.heap.size rfl _ _ _ HR.out Tryz.underlying56 rfl (by kernel_rfl) ?_)
  | (go_at_call 34; refine HC.out.mono ?_; rintro e w2 ⟨rfl, hb2⟩; have HB2 := zh hb2; clear hb2))
 exact HQ.out _ _ ⟨rfl, HB.out.trans (HB2.out.mono HB.out.size)⟩
theorem indexNode_none (A : Option Addr) (c : Nat) (xs : List Nt) (F : FuncId) (cap : Array Value) (w : World) (hl : xs.length ≤ 4294967296) (hA : Ls ntC w A xs)
 (hf : ∀ args w, (callFunc F args).run Tryz.prog w = .ok (.enter F args) w)
 (H : ∀ j W, j < xs.length → Below w.heap.size w W → Calls Tryz.prog F (#[.agg (ntC (xs.getD j nt0)).toArray] ++ cap) W fun e W' => e = .returned (.bool false) ∧ Below W.heap.size W W') :
 Calls Tryz.prog 79 #[.slice A xs.length c, .func (.func F) #[] cap] w fun e w' => e = .returned (.int .i64 (-1)) ∧ Below w.heap.size w w' := by
 have HH := zh H; clear H
 have HA := zh hA; clear hA
 generalize hn : xs.length = n at *
 have HN := zh hn; clear hn
 have HB0 : Hid (Below w.heap.size w w) := zB _ _
 go_enter Tryz.func79, Tryz.ntmps79
 go_wp2
 go_loopw [8] (fun iv wr => ∃ i : Nat, i ≤ n ∧ iv = .int .i64 i ∧ Hid (Below w.heap.size w wr)) (fun iv _ => n - (intOf iv).toNat)
 case atStart => exact ⟨0, by omega, rfl, HB0⟩
 case round =>
  clear HB0
  obtain ⟨i, hi, rfl, HB⟩ := hrel
  by_cases hlt : i < n
  ·obtain ⟨b, o, rfl, _, hc⟩ := (HA.out.below HB.out).at 5 (fun _ => rfl) (by omega) nt0 (i := i) (by rw [HN.out]; exact hlt)
   have HR := zh (hc i (by rw [HN.out]; exact hlt))
   clear hc
   have HC := zh (HH.out i wr hlt HB.out)
   generalize xs.getD i nt0 = x at *
   go_wp2_with (refine wpList_ldIn (by rfl) _ _ rfl b (o + i * 5) rfl _ _ HR.out Tryz.underlying56 rfl (by kernel_rfl) ?_)
   refine HC.out.mono ?_
   rintro e W ⟨rfl, hb⟩
   have HBW : Hid (Below w.heap.size w W) := zh (HB.out.trans (hb.mono HB.out.size))
   clear hb
   go_wp2
   go_roundw
   case rel => exact ⟨i + 1, by omega, by go_num, HBW⟩
   case measure => simp [intOf]; omega
  ·obtain rfl : i = n := by omega
   go_wp2
   go_ret
   exact ⟨rfl, HB.out⟩
theorem all1_yes (g : Nat) (F : FuncId) (x : Nt) (w : World) (hg : RowAt w g 69 #[.func (.func F) #[] #[]]) (hf : ∀ args w, (callFunc F args).run Tryz.prog w = .ok (.enter F args) w)
 (H : ∀ W, Below w.heap.size w W → Calls Tryz.prog F #[.agg (ntC x).toArray] W fun e W' => e = .returned (.bool true) ∧ Below W.heap.size W W') :
 Calls Tryz.prog 57 #[.agg (ntC x).toArray, .pointer (some ⟨g, 0, none⟩)] w fun e w' => e = .returned (.bool false) ∧ Below w.heap.size w w' := by
 have r0 := RowAt.new w 56 (ntC (x)).toArray
 have hb : Below w.heap.size w (w.alloc (.cells (ntC (x)).toArray 56)) := (zB _ _).alloc (zL _) _
 refine cHid fun Q' hQ => ?_
 have HQ := zh hQ; clear hQ
 go_enter Tryz.func57, Tryz.ntmps57
 go_upto_region 1 with fail
 change Code.wp _ _ _ _ (w.alloc (.cells (ntC (x)).toArray 56))
 generalize w.alloc (.cells (ntC (x)).toArray 56) = w1 at *
 have HB := zh hb
 have HR := zh r0
 have HC := zh (H w1 hb)
 have hc := ((hg.below hb hg.lt).cell 0).trans (show (#[Value.func (.func F) #[] #[]] : Array Value)[0]? = some (.func (.func F) #[] #[]) from rfl)
 clear hb r0 H hg
 go_wp2_with (refine wpList_loadS (by rfl) _ _ rfl w.heap.size rfl _ _ _ HR.out Tryz.underlying56 rfl (by kernel_rfl) ?_)
 refine HC.out.mono ?_
 rintro e w2 ⟨rfl, hb2⟩
 have HB2 := zh hb2; clear hb2
 go_wp2_with fail
 exact HQ.out _ _ ⟨rfl, HB.out.trans (HB2.out.mono HB.out.size)⟩
theorem all_yes (A : Option Addr) (c : Nat) (xs : List Nt) (F : FuncId) (w : World) (hl : xs.length ≤ 4294967296) (hA : Ls ntC w A xs) (hf : ∀ args w, (callFunc F args).run Tryz.prog w = .ok (.enter F args) w)
 (H : ∀ j W, j < xs.length → Below w.heap.size w W → Calls Tryz.prog F #[.agg (ntC (xs.getD j nt0)).toArray] W fun e W' => e = .returned (.bool true) ∧ Below W.heap.size W W') :
 Calls Tryz.prog 33 #[.slice A xs.length c, .func (.func F) #[] #[]] w fun e w' => e = .returned (.bool true) ∧ Below w.heap.size w w' := by
 have r0 := RowAt.new w 69 #[.func (.func F) #[] #[]]
 have hb : Below w.heap.size w (w.alloc (.cells #[.func (.func F) #[] #[]] 69)) := (zB _ _).alloc (zL _) _
 refine cHid fun Q' hQ => ?_
 have HQ := zh hQ; clear hQ
 go_enter Tryz.func33, Tryz.ntmps33
 go_upto_region 1 with fail
 change Code.wp _ _ _ _ (w.alloc (.cells #[.func (.func F) #[] #[]] 69))
 generalize w.alloc (.cells #[.func (.func F) #[] #[]] 69) = w1 at *
 have HB := zh hb
 have HI := zh (indexNode_none A c xs 57 #[.pointer (some ⟨w.heap.size, 0, none⟩)] w1 hl (hA.below hb) (fun _ _ => by kernel_rfl) fun j W hj hW => all1_yes w.heap.size F _ W (r0.below hW r0.lt) hf fun V hV => H j V hj (hb.trans ((hW.trans (hV.mono hW.size)).mono hb.size)))
 clear hb r0 H hA
 generalize xs.length = n at *
 go_wp2_with fail
 have HCN : Hid (Calls Tryz.prog 56 #[.slice A n c, .func (.func 57) #[] #[.pointer (some ⟨w.heap.size, 0, none⟩)]] w1 fun e w' => e = .returned (.bool false) ∧ Below w1.heap.size w1 w') := zh (by
  go_enter Tryz.func56, Tryz.ntmps56
  go_wp2_with (go_at_call 79; refine HI.out.mono ?_; rintro e w2 ⟨rfl, hb2⟩; have HB2 := zh hb2; clear hb2)
  go_ret
  exact ⟨rfl, HB2.out⟩)
 refine HCN.out.mono ?_
 rintro e w2 ⟨rfl, hb2⟩
 have HB2 := zh hb2; clear hb2
 go_wp2_with fail
 exact HQ.out _ _ ⟨rfl, HB.out.trans (HB2.out.mono HB.out.size)⟩
theorem label_join (B : Option Addr) (x y : Nt) (w : World) (hA : Ls ntC w B [x, y])
 (HX : ∀ W, Below w.heap.size w W → Calls Tryz.prog 24 #[.agg (ntC x).toArray] W fun e W' => e = .returned (.bool true) ∧ Below W.heap.size W W')
 (HY : ∀ W, Below w.heap.size w W → Calls Tryz.prog 24 #[.agg (ntC y).toArray] W fun e W' => e = .returned (.bool true) ∧ Below W.heap.size W W') :
 Calls Tryz.prog 24 #[.agg (ntC (kidsN 8 B 2)).toArray] w fun e w' => e = .returned (.bool true) ∧ Below w.heap.size w w' := by
 have r0 := RowAt.new w 56 (ntC (kidsN 8 B 2)).toArray
 have hb : Below w.heap.size w (w.alloc (.cells (ntC (kidsN 8 B 2)).toArray 56)) := (zB _ _).alloc (zL _) _
 refine cHid fun Q' hQ => ?_
 have HQ := zh hQ; clear hQ
 go_enter Tryz.func24, Tryz.ntmps24
 go_upto_region 1 with fail
 change Code.wp _ _ _ _ (w.alloc (.cells (ntC (kidsN 8 B 2)).toArray 56))
 generalize w.alloc (.cells (ntC (kidsN 8 B 2)).toArray 56) = w1 at *
 have HB := zh hb
 have HR := zh r0
 have HC := zh (branch_yes 8 B 2 w1)
 have HAL := zh fun W (hW : Below w.heap.size w W) => all_yes B 2 [x, y] 24 W (by simp) (hA.below hW) (fun _ _ => by kernel_rfl) fun j V hj hV => by
  match j, hj with
  | 0, _ => exact HX V (hW.trans (hV.mono hW.size))
  | 1, _ => exact HY V (hW.trans (hV.mono hW.size))
 obtain ⟨c0, _, _, _, _⟩ := nt_row r0
 unfold kidsN at c0
 dsimp only at c0
 clear hb r0 HX HY hA
 go_wp2_with (first
  | (refine wpList_loadS (by rfl) _ _ rfl w.heap.size rfl _ _ _ HR.out Tryz.underlying56 rfl (by kernel_rfl) ?_)
  | (go_at_call 32; refine HC.out.mono ?_; rintro e w2 ⟨rfl, hb2⟩; obtain ⟨_, _, _, _, c4⟩ := nt_row (HR.out.below hb2 HR.out.lt); unfold kidsN at c4; dsimp only at c4; have HB2 := zh (HB.out.trans (hb2.mono HB.out.size)); have HA2 := zh (HAL.out w2 HB2.out); clear hb2)
  | (go_at_call 33; refine HA2.out.mono ?_; rintro e w3 ⟨rfl, hb3⟩; have HB3 := zh (HB2.out.trans (hb3.mono HB2.out.size)); clear hb3))
 exact HQ.out _ _ ⟨rfl, HB3.out⟩
end
end Go.Proofs.YtppcjocmjpbmmaaGreatDoor
