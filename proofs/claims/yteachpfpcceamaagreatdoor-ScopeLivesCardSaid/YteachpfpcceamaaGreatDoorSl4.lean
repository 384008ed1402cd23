/- Texts that all the claims need. Conditions: those that each states. -/
import Derived.Deep.CutRange
import Derived.LoopN
import Derived.Test.YteachpfpcceamaaGreatDoorSl2
import Derived.Test.YteachpfpcceamaaGreatDoorSl3
set_option linter.unusedSimpArgs false
set_option linter.unusedVariables false
set_option maxRecDepth 100000
set_option maxHeartbeats 40000000
namespace Go.Proofs.YteachpfpcceamaaGreatDoor
section
open Go.RowKit
theorem cHid {P : Program} {F : FuncId} {a : Array Value} {w : World} {Q : Ending → World → Prop} (h : ∀ Q' : Ending → World → Prop, (∀ e w, Q e w → Q' e w) → Calls P F a w Q') : Calls P F a w Q := h Q fun _ _ h => h
theorem rw2 {w : World} {g : Nat} {t : TypeId} {a b : Value} (h : RowAt w g t #[a, b]) : w.cell? ⟨g, 0, none⟩ = some a ∧ w.cell? ⟨g, 1, none⟩ = some b ∧ w.frozen? ⟨g, 0, none⟩ = false ∧ w.frozen? ⟨g, 1, none⟩ = false :=
 ⟨(h.cell 0).trans rfl, (h.cell 1).trans rfl, h.free 0, h.free 1⟩
theorem rw3 {w : World} {g : Nat} {t : TypeId} {a b c : Value} (h : RowAt w g t #[a, b, c]) : w.cell? ⟨g, 0, none⟩ = some a ∧ w.cell? ⟨g, 1, none⟩ = some b ∧ w.cell? ⟨g, 2, none⟩ = some c ∧ w.frozen? ⟨g, 0, none⟩ = false ∧ w.frozen? ⟨g, 1, none⟩ = false ∧ w.frozen? ⟨g, 2, none⟩ = false :=
 ⟨(h.cell 0).trans rfl, (h.cell 1).trans rfl, (h.cell 2).trans rfl, h.free 0, h.free 1, h.free 2⟩
theorem take_row {P : Program} {S : World → Prop} {o : Oper} {a : Act} (ty : TypeId) (x : Operand) (ho : o.op = .load ty x) (g : Nat) (hx : a.eval x = .pointer (some ⟨g, 0, none⟩)) (t : TypeId) (cs : Array Value) (d : TypeDesc) (hS : ∀ w, S w → RowAt w g t cs)
 (hu : P.underlying ty = some d) (hd : (match d with | .struct _ | .array _ _ => true | _ => false) = true) (hi : (P.info? ty).map (·.size) = some cs.size) : ∀ w, S w → (execOp a.eval o).run P w = .ok (.value (.agg cs)) w := fun w hw => by
 unfold execOp
 simp only [ho, hx, Instr.loadAt, Instr.sureAddr, Sem.run_bind, Sem.run_pure, Result.andThen_ok, run_loadVar_row w g t ty cs (0, 0) d (hS w hw) hu hd hi]
theorem wpList_loadS {P : Program} {ops : Array Oper} {rest : List Oper} {o : Oper} {a : Act} {w : World} {Q : Exit → Act → World → Prop} (hgd : Region.wanted o (yielded ops a.tmps) = true) (ty : TypeId) (x : Operand) (ho : o.op = .load ty x)
 (g : Nat) (hx : a.eval x = .pointer (some ⟨g, 0, none⟩)) (t : TypeId) (cs : Array Value) (d : TypeDesc) (hg : RowAt w g t cs)
 (hu : P.underlying ty = some d) (hd : (match d with | .struct _ | .array _ _ => true | _ => false) = true) (hi : (P.info? ty).map (·.size) = some cs.size)
 (h : wpList P ops Q rest (a.put o.dst (.agg cs)) w) : wpList P ops Q (o :: rest) a w :=
 wpList_step fun _ hK => by rw [if_pos hgd]; exact wp_load_row ty x ho g hx t cs (0, 0) d hg hu hd hi (hK _ _ h)
theorem own_same {w w' : World} {base size n : Nat} {e : TypeId} {v : Value} {cs : List Value} (h : w.ownsRow base e size v n cs) (hb : ∀ b, b < w.heap.size → v.ownBlock = some b → w'.heap[b]? = w.heap[b]?) : w'.ownsRow base e size v n cs := by
 refine ⟨h.1, ?_⟩
 rcases h.2 with hn | ⟨g, cap, cur, rfl, hg, hh, rest⟩
 ·exact .inl hn
 ·exact .inr ⟨g, cap, cur, rfl, hg, (hb g (Array.getElem?_eq_some_iff.1 hh).1 rfl).trans hh, rest⟩
theorem wpList_moreS {P : Program} (w : World) {ops : Array Oper} {rest : List Oper} {o : Oper} {a : Act} {Q : Exit → Act → World → Prop} (hgd : o.guard = none) (s x : Operand) (t : TypeId)
 (ho : o.op = .call { callee := .builtin .append, args := #[s, x], argTypes := #[t, t] })
 (e : TypeId) (z : Value) (size bytes : Nat) (ht : P.underlying t = some (.slice e))
 (hinf : (P.info? e).map (fun i => (i.zero, i.size, i.bytes)) = some (some z, size, bytes)) (hzs : z.cells.size = size) (hsz : 0 < size)
 (base : Nat) (A : Option Addr) (n c : Nat) (cs : List Value) (hs : a.eval s = .slice A n c) (hown : w.ownsRow base e size (.slice A n c) n cs)
 (g : Nat) (news : List Value) (hx : a.eval x = .slice (some ⟨g, 0, none⟩) 1 1) (hl : news.length = size)
 (hnews : ∀ j u, news[j]? = some u → w.cell? ⟨g, j, none⟩ = some u) (h1 : ∀ u ∈ news, u.oneCell' = true)
 (hn : n + 1 ≤ maxLen) (hb2 : (n + 1) * bytes ≤ 140737488355328) (hbase : base ≤ w.heap.size)
 (h : ∀ A' c' w', w'.ownsRow base e size (.slice A' (n + 1) c') (n + 1) (cs ++ news) → Below base w w' → w.grownBy w' (Value.slice A n c).ownBlock → ((Value.slice A' (n + 1) c').ownBlock = (Value.slice A n c).ownBlock ∨ (Value.slice A' (n + 1) c').ownBlock = some w.heap.size) → wpList P ops Q rest (a.put o.dst (.slice A' (n + 1) c')) w') :
 wpList P ops Q (o :: rest) a w := by
 obtain ⟨i, hi, hz, hi1, hi2⟩ := info_parts hinf
 have hadd : ∀ j, (⟨g, 0, none⟩ : Addr).add j = ⟨g, j, none⟩ := fun j => by unfold Addr.add; split <;> simp_all
 refine wpList_plain hgd fun _ hK => ?_
 obtain ⟨v', w', hr, hown', hg, _, hat⟩ := run_append_own_at (P := P) w base t o.type e i z size bytes ht hi hz hi1 hi2 hzs hsz (.slice A n c) n cs hown ⟨g, 0, none⟩ 1 1 news (by rw [hl, Nat.one_mul])
  (fun j u hu => by rw [hadd]; exact hnews j u hu) h1 hn hb2 hbase
 obtain ⟨A', c', rfl, _, _⟩ := own_form hown'
 unfold Oper.wp execOp
 simp only [ho, resolve, invoke, builtin, Sem.run_bind, Sem.run_pure, Result.andThen_ok, List.map_toArray, List.map_cons, List.map_nil, hs, hx, hr]
 exact hK _ _ (h A' c' w' hown' ((zB base w).grown hg hbase (fun k hk => (hown.lt k hk).1)) hg hat)
section
variable {P : Program} {ops : Array Oper} {rest : List Oper} {o : Oper} {a : Act} {w : World} {Q : Exit → Act → World → Prop}
theorem wpList_ldIn (hgd : Region.wanted o (yielded ops a.tmps) = true) (ty : TypeId) (x : Operand) (ho : o.op = .load ty x) (b k : Nat) (hx : a.eval x = .pointer (some ⟨b, k, none⟩)) (cs : List Value) (d : TypeDesc)
 (hc : w.rangeAt b k cs) (hu : P.underlying ty = some d) (hd : d.isRow = true) (hi : (P.info? ty).map (·.size) = some cs.length) (h : wpList P ops Q rest (a.put o.dst (.agg cs.toArray)) w) : wpList P ops Q (o :: rest) a w :=
 wpList_step fun _ hK => by rw [if_pos hgd]; exact wp_load_mid ty x ho b k hx cs d hc hu hd hi (hK _ _ h)
theorem wpList_stRow (hgd : Region.wanted o (yielded ops a.tmps) = true) (ty : TypeId) (x y : Operand) (ho : o.op = .store ty x y) (g : Nat) (cells : Array Value) (hx : a.eval x = .pointer (some ⟨g, 0, none⟩)) (hy : a.eval y = .agg cells)
 (t : TypeId) (old : Array Value) (hg : RowAt w g t old) (hi : (P.info? ty).map (·.size) = some cells.size) (hold : old.size = cells.size) (h1 : cells.all (·.oneCell') = true)
 (h : ∀ w', RowAt w' g t cells → Else g w w' → wpList P ops Q rest (a.put o.dst undef) w') : wpList P ops Q (o :: rest) a w :=
 wpList_step fun _ hK => by rw [if_pos hgd]; exact wp_store_row ty x y ho g cells hx hy t old hg hi hold h1 (hK _ _ (h _ (hg.setRow cells) (Else.setRow w g _)))
end
theorem retRow {P : Program} {fn : Func} {q : Tmp} {ty : TypeId} (h : fn.results = #[.cell q ty]) (tmps : Array Value) (w : World) (g : Nat) (t : TypeId) (cs : Array Value) (fr : Nat × Nat) (d : TypeDesc)
 (hp : tmps.getD q undef = .pointer (some ⟨g, 0, none⟩)) (hg : w.heap[g]? = some (.cells cs t fr))
 (hu : P.underlying ty = some d) (hd : (match d with | .struct _ | .array _ _ => true | _ => false) = true) (hi : (P.info? ty).map (·.size) = some cs.size) :
 (results fn tmps).run P w = .ok (.agg cs) w := by
 have hp' : tmps[q]?.getD undef = .pointer (some ⟨g, 0, none⟩) := by simpa using hp
 simp [results, h, hp', asAddr, run_loadVar_row w g t ty cs fr d hg hu hd hi]
theorem infoStrT : (Tryz.prog.info? 9).map (fun i => (i.zero, i.size, i.bytes)) = some (some (.string ⟨#[]⟩), 1, 16) := by kernel_rfl
theorem scs_app (a b : List ByteArray) : scells (a ++ b) = scells a ++ scells b := by simp [scells]
end
section
open Go.RowKit
def wdC (x : ByteArray × Int) : List Value := [.string x.1, .int .i64 x.2]
def pwC (x : (ByteArray × Int) × (ByteArray × Int)) : List Value := [.string x.1.1, .int .i64 x.1.2, .string x.2.1, .int .i64 x.2.2]
def ftC (x : Int × Int) : List Value := [.int .i64 x.1, .int .i64 x.2]
def ftv (x : Int × Int) : Array Value := #[.int .i64 x.1, .int .i64 x.2]
def varC (x : ByteArray × Int × Int) : List Value := [.string x.1, .int .i64 x.2.1, .int .i64 x.2.2]
def sgn3 (x y : Int) : Int := if x < y then -1 else if y < x then 1 else 0
def cmpF (a b : Int × Int) : Int := if sgn3 a.1 b.1 = 0 then sgn3 a.2 b.2 else sgn3 a.1 b.1
def stepF (b f : Int × Int) : Int × Int := if f.1 = 0 then b else if b.1 = 0 then f else if cmpF f b < 0 then f else b
def lstF (l : List (Int × Int)) : Int × Int := l.foldl stepF (0, 0)
theorem lstF_take (l : List (Int × Int)) (k : Nat) (hk : k < l.length) : lstF (l.take (k + 1)) = stepF (lstF (l.take k)) (l.getD k (0, 0)) := by
 unfold lstF
 rw [List.take_succ_eq_append_getElem hk, List.foldl_append, List.getD_eq_getElem?_getD, List.getElem?_eq_getElem hk]
 rfl
theorem isNaNi_any (x : Int) (w : World) : Calls Tryz.prog 171 #[.int .i64 x] w fun e w' => e = .returned (.bool false) ∧ w = w' := by
 go_enter Tryz.func171, Tryz.ntmps171
 go_wp2
 go_ret
 exact ⟨ret_eq (bool_eq (by simp)), rfl⟩
theorem cmp3_any (x y : Int) (w : World) : Calls Tryz.prog 132 #[.int .i64 x, .int .i64 y] w fun e w' => e = .returned (.int .i64 (sgn3 x y)) ∧ w = w' := by
 have HX := zh (isNaNi_any x)
 have HY := zh (isNaNi_any y)
 unfold sgn3
 by_cases h1 : x < y
 ·rw [if_pos h1]
  go_enter Tryz.func132, Tryz.ntmps132
  go_wp2_with (go_at_call 171; first | (refine (HX.out _).mono ?_; rintro e n ⟨rfl, rfl⟩) | (refine (HY.out _).mono ?_; rintro e n ⟨rfl, rfl⟩))
  go_ret
  exact ⟨rfl, rfl⟩
 ·rw [if_neg h1]
  by_cases h2 : y < x
  ·rw [if_pos h2]
   go_enter Tryz.func132, Tryz.ntmps132
   go_wp2_with (go_at_call 171; first | (refine (HX.out _).mono ?_; rintro e n ⟨rfl, rfl⟩) | (refine (HY.out _).mono ?_; rintro e n ⟨rfl, rfl⟩))
   go_ret
   exact ⟨rfl, rfl⟩
  ·rw [if_neg h2]
   go_enter Tryz.func132, Tryz.ntmps132
   go_wp2_with (go_at_call 171; first | (refine (HX.out _).mono ?_; rintro e n ⟨rfl, rfl⟩) | (refine (HY.out _).mono ?_; rintro e n ⟨rfl, rfl⟩))
   go_ret
   exact ⟨rfl, rfl⟩
theorem or2_any (g c : Nat) (x y : Int) (w : World) (h0 : w.cell? ⟨g, 0, none⟩ = some (.int .i64 x)) (h1 : w.cell? ⟨g, 1, none⟩ = some (.int .i64 y)) :
 Calls Tryz.prog 131 #[.slice (some ⟨g, 0, none⟩) 2 c] w fun e w' => e = .returned (.int .i64 (if x = 0 then y else x)) ∧ w = w' := by
 by_cases hx : x = 0
 ·subst hx
  rw [if_pos rfl]
  by_cases hy : y = 0
  ·subst hy
   go_enter Tryz.func131, Tryz.ntmps131
   go_wp2
   refine wp_loop_rounds 3 ?_
   rw [rounds_succ]
   go_wp2
   rw [rounds_succ]
   go_wp2
   rw [rounds_succ]
   go_wp2
   go_ret
   exact ⟨rfl, rfl⟩
  ·go_enter Tryz.func131, Tryz.ntmps131
   go_wp2
   refine wp_loop_rounds 3 ?_
   rw [rounds_succ]
   go_wp2
   rw [rounds_succ]
   go_wp2
   go_ret
   exact ⟨rfl, rfl⟩
 ·rw [if_neg hx]
  go_enter Tryz.func131, Tryz.ntmps131
  go_wp2
  refine wp_loop_rounds 3 ?_
  rw [rounds_succ]
  go_wp2
  go_ret
  exact ⟨rfl, rfl⟩
theorem compare_any (a b : Int × Int) (w : World) :
 Calls Tryz.prog 104 #[.agg (ftv a), .agg (ftv b)] w fun e w' => e = .returned (.int .i64 (cmpF a b)) ∧ Below w.heap.size w w' := by
 have r0 : RowAt ((w.alloc (.cells (ftv a) 41)).alloc (.cells (ftv b) 41)) w.heap.size 41 (ftv a) := (RowAt.new w _ _).alloc _
 have q0 : RowAt ((w.alloc (.cells (ftv a) 41)).alloc (.cells (ftv b) 41)) (w.heap.size + 1) 41 (ftv b) := by
  have := RowAt.new (w.alloc (.cells (ftv a) 41)) 41 (ftv b)
  simpa using this
 have HB1 : Hid (Below w.heap.size w ((w.alloc (.cells (ftv a) 41)).alloc (.cells (ftv b) 41))) := ((zB _ _).alloc (zL _) _).alloc (by simp) _
 go_enter Tryz.func104, Tryz.ntmps104
 go_upto_region 1 with fail
 change Code.wp _ _ _ _ ((w.alloc (.cells (ftv a) 41)).alloc (.cells (ftv b) 41))
 have hlt := q0.lt
 generalize (w.alloc (.cells (ftv a) 41)).alloc (.cells (ftv b) 41) = w1 at *
 have C0 : ∀ W, Below w1.heap.size w1 W → W.cell? ⟨w.heap.size, 0, none⟩ = some (.int .i64 a.1) := fun W hW => (hW.cell (p := ⟨w.heap.size, 0, none⟩) r0.lt).trans (r0.cell 0)
 have C1 : ∀ W, Below w1.heap.size w1 W → W.cell? ⟨w.heap.size, 1, none⟩ = some (.int .i64 a.2) := fun W hW => (hW.cell (p := ⟨w.heap.size, 1, none⟩) r0.lt).trans (r0.cell 1)
 have C2 : ∀ W, Below w1.heap.size w1 W → W.cell? ⟨w.heap.size + 1, 0, none⟩ = some (.int .i64 b.1) := fun W hW => (hW.cell (p := ⟨w.heap.size + 1, 0, none⟩) q0.lt).trans (q0.cell 0)
 have C3 : ∀ W, Below w1.heap.size w1 W → W.cell? ⟨w.heap.size + 1, 1, none⟩ = some (.int .i64 b.2) := fun W hW => (hW.cell (p := ⟨w.heap.size + 1, 1, none⟩) q0.lt).trans (q0.cell 1)
 clear r0 q0
 have HSv0 : Hid (Below w1.heap.size w1 w1.drew) := zh (zB _ _).drew
 refine wp_region_ou (fun w' => Below w1.heap.size w1 w') ((.take 0 (.take 1 (.take 2 (.take 3 (.take 5 (.take 6 (.take 7 (.take 8 (.solo 4 (.solo 9 (.solo 10 (.solo 11 (.take 12 .nil)))))))))))))) (by kernel_rfl) (by kernel_rfl) rfl (by kernel_rfl) HSv0.out ?_
 generalize w1.drew = v0 at HSv0 ⊢
 iterate 8
  (refine wpOU_step (zO rfl) ?_)
  (first
        | (refine wpOU_skip (by rfl) ?_)
        | (refine wpOU_take (v := ?_) (by rfl) ?_ ?_; rotate_left 1; (intro wx hSx; have hc_0 := C0 wx hSx; have hc_1 := C1 wx hSx; have hc_2 := C2 wx hSx; have hc_3 := C3 wx hSx; go_simp; try with_reducible rfl)))
  (try simp only [Act.put, zA4, zA5, zA6])
 (refine wpOU_solo (zO rfl) ?_)
 intro K hK
 go_simp
 go_at_call 132
 refine (cmp3_any a.1 b.1 v0).mono ?_
 rintro e n ⟨rfl, rfl⟩
 refine hK.out _ _ HSv0.out ?_
 clear hK K
 (try simp only [Act.put, zA4, zA5, zA6])
 (refine wpOU_solo (zO rfl) ?_)
 intro K hK
 go_simp
 go_at_call 132
 refine (cmp3_any a.2 b.2 v0).mono ?_
 rintro e n ⟨rfl, rfl⟩
 refine hK.out _ _ HSv0.out ?_
 clear hK K
 (try simp only [Act.put, zA4, zA5, zA6])
 (refine wpOU_solo (zO rfl) ?_)
 intro K hK
 go_simp
 have HSv9 : Hid (Below w1.heap.size w1 (v0.alloc (.cells #[.int .i64 (sgn3 a.1 b.1), .int .i64 (sgn3 a.2 b.2)] 3))) := zh (HSv0.out.alloc HSv0.out.size _)
 have hrow := RowAt.new v0 3 #[.int .i64 (sgn3 a.1 b.1), .int .i64 (sgn3 a.2 b.2)]
 have HOR : Hid (Calls Tryz.prog 131 #[.slice (some ⟨v0.heap.size, 0, none⟩) 2 2] (v0.alloc (.cells #[.int .i64 (sgn3 a.1 b.1), .int .i64 (sgn3 a.2 b.2)] 3)) fun e w' => e = .returned (.int .i64 (cmpF a b)) ∧ (v0.alloc (.cells #[.int .i64 (sgn3 a.1 b.1), .int .i64 (sgn3 a.2 b.2)] 3)) = w') := zh (or2_any v0.heap.size 2 (sgn3 a.1 b.1) (sgn3 a.2 b.2) (v0.alloc (.cells #[.int .i64 (sgn3 a.1 b.1), .int .i64 (sgn3 a.2 b.2)] 3)) (hrow.cell 0) (hrow.cell 1))
 clear hrow
 refine hK.out _ _ HSv9.out ?_
 clear hK K
 (try simp only [Act.put, zA4, zA5, zA6])
 generalize hgb : v0.heap.size = g9 at *
 generalize (v0.alloc (.cells #[.int .i64 (sgn3 a.1 b.1), .int .i64 (sgn3 a.2 b.2)] 3)) = v9 at *
 clear hgb
 (refine wpOU_solo (zO rfl) ?_)
 intro K hK
 go_simp
 go_at_call 131
 refine HOR.out.mono ?_
 rintro e n ⟨rfl, rfl⟩
 refine hK.out _ _ HSv9.out ?_
 clear hK K
 (try simp only [Act.put, zA4, zA5, zA6])
 iterate 1
  (refine wpOU_step (zO rfl) ?_)
  (first
        | (refine wpOU_skip (by rfl) ?_)
        | (refine wpOU_take (v := ?_) (by rfl) ?_ ?_; rotate_left 1; (intro wx hSx; have hc_0 := C0 wx hSx; have hc_1 := C1 wx hSx; have hc_2 := C2 wx hSx; have hc_3 := C3 wx hSx; go_simp; try with_reducible rfl)))
  (try simp only [Act.put, zA4, zA5, zA6])
 refine wpOU_done ?_
 go_wp2_with fail
 go_ret
 exact ⟨rfl, HB1.out.trans (HSv9.out.mono HB1.out.size)⟩
theorem least_any (A : Option Addr) (c : Nat) (l : List (Int × Int)) (w : World) (hl : l.length ≤ 4294967296) (hA : Ls ftC w A l) :
 Calls Tryz.prog 52 #[.slice A l.length c] w fun e w' => e = .returned (.agg (ftv (lstF l))) ∧ Below w.heap.size w w' := by
 have HA := zh hA; clear hA
 have HT : Hid (∀ k, k < l.length → lstF (l.take (k + 1)) = stepF (lstF (l.take k)) (l.getD k (0, 0))) := lstF_take l
 have HE : Hid (lstF (l.take l.length) = lstF l) := by rw [List.take_length]; exact rfl
 generalize hn : l.length = n at *
 have HN := zh hn; clear hn
 go_enter Tryz.func52, Tryz.ntmps52
 go_wp2_with fail
 have z1 : RowAt ((w.alloc (.cells (ftv (0, 0)) 41)).alloc (.cells (ftv (0, 0)) 41)) w.heap.size 41 (ftv (0, 0)) := (RowAt.new w _ _).alloc _
 have p1 : RowAt ((w.alloc (.cells (ftv (0, 0)) 41)).alloc (.cells (ftv (0, 0)) 41)) (w.heap.size + 1) 41 (ftv (lstF (l.take 0))) := by
  have h := RowAt.new (w.alloc (.cells (ftv (0, 0)) 41)) 41 (ftv (0, 0))
  rw [show (w.alloc (.cells (ftv (0, 0)) 41)).heap.size = w.heap.size + 1 by simp] at h
  exact h
 have HB1 : Hid (Below w.heap.size w ((w.alloc (.cells (ftv (0, 0)) 41)).alloc (.cells (ftv (0, 0)) 41))) := ((zB _ w).alloc (zL _) _).alloc (by simp) _
 go_loopw [5, 8] (fun _ kv wr => ∃ k : Nat, k ≤ n ∧ kv = .int .i64 k ∧ RowAt wr w.heap.size 41 (ftv (0, 0)) ∧ RowAt wr (w.heap.size + 1) 41 (ftv (lstF (l.take k))) ∧ Hid (Below w.heap.size w wr)) (fun _ kv _ => n - (intOf kv).toNat)
 case atStart => exact ⟨0, by omega, rfl, z1, p1, HB1⟩
 case round =>
  clear z1 p1 HB1
  obtain ⟨k, hk, rfl, z1, p1, HB1⟩ := hrel
  by_cases hlt : k < n
  ·obtain ⟨b, o, rfl, _, hc⟩ := (HA.out.below HB1.out).at 2 (fun _ => rfl) (by omega) (0, 0) (i := k) (by rw [HN.out]; exact hlt)
   have hr := hc k (by rw [HN.out]; exact hlt)
   have c0 := hr 0 _ rfl
   have c1 := hr 1 _ rfl
   rw [Nat.add_zero] at c0
   have hT := HT.out k hlt
   have HTK := zh hT
   clear hT hc hr
   have hbx0 : Below wr.heap.size wr (wr.alloc (.cells (ftv (l.getD k (0, 0))) 41)) := (zB _ _).alloc (zL _) _
   have HBx : Hid (Below w.heap.size w (wr.alloc (.cells (ftv (l.getD k (0, 0))) 41))) := zh (HB1.out.alloc HB1.out.size _)
   have Hz := zh (z1.alloc (.cells (ftv (l.getD k (0, 0))) 41))
   have Hp := zh (p1.alloc (.cells (ftv (l.getD k (0, 0))) 41))
   have Hx := zh (RowAt.new wr 41 (ftv (l.getD k (0, 0))))
   have hne : w.heap.size + 1 < wr.heap.size := p1.lt
   have HNE := zh hne
   clear hbx0 z1 p1 hne
   generalize l.getD k (0, 0) = f at *
   generalize lstF (l.take k) = m at *
   go_upto_region 5 with fail
   change Code.wp _ _ _ _ (wr.alloc (.cells (ftv f) 41))
   generalize wr.alloc (.cells (ftv f) 41) = wc at *
   generalize hgx : wr.heap.size = gx at *
   clear c0 c1 hgx
   obtain ⟨a0, a1, _, _⟩ := rw2 Hx.out
   obtain ⟨b0, b1, _, _⟩ := rw2 Hp.out
   have HGX := zh Hx.out.lt
   have HGP := zh Hp.out.lt
   by_cases hf : f.1 = 0
   ·have HS : Hid (stepF m f = m) := zh (by unfold stepF; rw [if_pos hf])
    have qf : (f.1 != 0) = false := by simp [hf]
    have HFF := zh hf; clear hf
    go_wp2_with fail
    go_roundw
    case rel =>
     refine ⟨k + 1, by omega, by go_num, Hz.out, ?_, HBx⟩
     rw [HTK.out, HS.out]; exact Hp.out
    case measure => simp [intOf]; omega
   ·have qf : (f.1 != 0) = true := by simp [hf]
    by_cases hm : m.1 = 0
    ·have HS : Hid (stepF m f = f) := zh (by unfold stepF; rw [if_neg hf, if_pos hm])
     have qm : (m.1 == 0) = true := by simp [hm]
     have HFF := zh hf; have HFM := zh hm; clear hf hm
     go_wp2_with (first
      | (refine wpList_loadS (by rfl) _ _ rfl gx rfl _ _ _ Hx.out Tryz.underlying41 rfl (by kernel_rfl) ?_)
      | (refine wpList_stRow (by rfl) _ _ _ rfl (w.heap.size + 1) (ftv f) rfl rfl _ _ Hp.out (by kernel_rfl) rfl (by simp [ftv, Value.oneCell']) ?_; intro w2 r2 he))
     have hb2 := zB w.heap.size w
     go_roundw
     case rel =>
      refine ⟨k + 1, by omega, by go_num, Hz.out.other he (by omega), ?_, HBx.out.trans (he.below (by omega))⟩
      rw [HTK.out, HS.out]; exact r2
     case measure => simp [intOf]; omega
    ·have qm : (m.1 == 0) = false := by simp [hm]
     have HC := zh (compare_any f m)
     by_cases hd : cmpF f m < 0
     all_goals
      have HS : Hid (stepF m f = if cmpF f m < 0 then f else m) := zh (by unfold stepF; rw [if_neg hf, if_neg hm])
      have HFF := zh hf; have HFM := zh hm; clear hf hm
      have HD := zh hd
      generalize hcf : cmpF f m = cf at *
      go_wp2_with (first
           | (refine wpList_loadS (by rfl) _ _ rfl gx rfl _ _ _ Hx.out Tryz.underlying41 rfl (by kernel_rfl) ?_)
           | (refine wpList_loadS (by rfl) _ _ rfl (w.heap.size + 1) rfl _ _ _ Hp.out Tryz.underlying41 rfl (by kernel_rfl) ?_)
           | (go_at_call 104; refine (HC.out wc).mono ?_; rintro e wd ⟨rfl, hb⟩; have Hxd := zh (Hx.out.below hb Hx.out.lt); have Hpd := zh (Hp.out.below hb Hp.out.lt); have Hzd := zh (Hz.out.below hb Hz.out.lt); have HBd := zh (HBx.out.trans (hb.mono HBx.out.size)); clear hb)
           | (refine wpList_loadS (by rfl) _ _ rfl gx rfl _ _ _ Hxd.out Tryz.underlying41 rfl (by kernel_rfl) ?_)
           | (refine wpList_stRow (by rfl) _ _ _ rfl (w.heap.size + 1) (ftv f) rfl rfl _ _ Hpd.out (by kernel_rfl) rfl (by simp [ftv, Value.oneCell']) ?_; intro w2 r2 he))
     ·go_roundw
      case rel =>
           refine ⟨k + 1, by omega, by go_num, Hzd.out.other he (by omega), ?_, HBd.out.trans (he.below (by omega))⟩
           rw [HTK.out, HS.out, if_pos HD.out]; exact r2
      case measure => simp [intOf]; omega
     ·go_roundw
      case rel =>
           refine ⟨k + 1, by omega, by go_num, Hzd.out, ?_, HBd⟩
           rw [HTK.out, HS.out, if_neg (by have := HD.out; omega)]; exact Hpd.out
      case measure => simp [intOf]; omega
  ·obtain rfl : k = n := by omega
   rw [HE.out] at p1
   go_wp2_with (first
        | (refine wpList_loadS (by rfl) _ _ rfl (w.heap.size + 1) rfl _ _ _ p1 Tryz.underlying41 rfl (by kernel_rfl) ?_)
        | (refine wpList_stRow (by rfl) _ _ _ rfl w.heap.size (ftv (lstF l)) rfl rfl _ _ z1 (by kernel_rfl) rfl (by simp [ftv, Value.oneCell']) ?_; intro w2 r2 he))
   exact bodyPost_ret (retRow rfl _ _ w.heap.size _ _ (0, 0) _ rfl r2 Tryz.underlying41 rfl (by kernel_rfl)) rfl ⟨rfl, HB1.out.trans (he.below (by omega))⟩
end
section
open Go.RowKit
structure Up (g : Nat) (v v' : Value) (w w' : World) : Prop where
 low : Below g w w'
 blk : ∀ k, k < w.heap.size → k ≠ g → v.ownBlock ≠ some k → w'.heap[k]? = w.heap[k]?
 row : v'.ownBlock = v.ownBlock ∨ ∃ b, v'.ownBlock = some b ∧ w.heap.size ≤ b
section
variable {g : Nat} {v v1 v2 : Value} {w w1 w2 : World}
theorem Up.refl (g : Nat) (v : Value) (w : World) : Up g v v w w := ⟨zB _ _, fun _ _ _ _ => rfl, .inl rfl⟩
theorem Up.ne (h : Up g v v1 w w1) {k : Nat} (hk : k < w.heap.size) (hv : v.ownBlock ≠ some k) : v1.ownBlock ≠ some k := by
 rcases h.row with e | ⟨b, e, hb⟩
 ·rw [e]; exact hv
 ·rw [e]; intro e2; cases e2; omega
theorem Up.trans (h : Up g v v1 w w1) (h2 : Up g v1 v2 w1 w2) : Up g v v2 w w2 := by
 refine ⟨h.low.trans h2.low, fun k hk hne hv => ?_, ?_⟩
 ·exact (h2.blk k (zT hk h.low.size) hne (h.ne hk hv)).trans (h.blk k hk hne hv)
 ·rcases h2.row with e | ⟨b, e, hb⟩
  ·rcases h.row with e2 | ⟨b, e2, hb⟩
   ·exact .inl (e.trans e2)
   ·exact .inr ⟨b, e.trans e2, hb⟩
  ·exact .inr ⟨b, e, zM h.low.size hb⟩
theorem Up.below (hg : g ≤ w.heap.size) (h : Below w.heap.size w w1) : Up g v v w w1 := ⟨h.mono hg, fun k hk _ _ => h.block k hk, .inl rfl⟩
theorem Up.size (h : Up g v v1 w w1) : w.heap.size ≤ w1.heap.size := h.low.size
theorem RowAt.up {q : Nat} {t : TypeId} {cs : Array Value} (h : RowAt w q t cs) (hu : Up g v v1 w w1) (hq : q ≠ g) (hv : v.ownBlock ≠ some q) : RowAt w1 q t cs := (hu.blk q h.lt hq hv).trans h
theorem FMap.up {B n : Nat} {f : ByteArray → Int} (h : FMap w B n f) (hu : Up g v v1 w w1) (hq : B ≠ g) (hv : v.ownBlock ≠ some B) : FMap w1 B n f := h.same (hu.blk B h.lt hq hv)
end
structure Rp (w : World) (g b0 : Nat) (L : List (Int × Int)) (v : Value) : Prop where
 box : Box w g 81 v
 own : w.ownsRow b0 41 2 v L.length (L.flatMap ftC)
 lt : g < b0
 le : b0 ≤ w.heap.size
theorem Rp.below {w w' : World} {g b0 : Nat} {L : List (Int × Int)} {v : Value} (h : Rp w g b0 L v) (hb : Below w.heap.size w w') : Rp w' g b0 L v :=
 ⟨h.box.below hb h.box.lt, own_below h.own hb (zL _), h.lt, zM h.le hb.size⟩
theorem Rp.blk {w : World} {g b0 : Nat} {L : List (Int × Int)} {v : Value} (h : Rp w g b0 L v) {k : Nat} (hk : w.heap.size ≤ k) : v.ownBlock ≠ some k := fun e => by
 have := (h.own.lt k e).2
 omega
theorem Rp.lo {w : World} {g b0 : Nat} {L : List (Int × Int)} {v : Value} (h : Rp w g b0 L v) {k : Nat} (hk : k < b0) : v.ownBlock ≠ some k := fun e => by
 have := (h.own.lt k e).1
 omega
theorem infoFtS : (Tryz.prog.info? 41).map (fun i => (i.zero, i.size, i.bytes)) = some (some (.agg #[.int .i64 0, .int .i64 0]), 2, 16) := by kernel_rfl
theorem report_any (cl at_ : Int) (w : World) (g b0 : Nat) (L : List (Int × Int)) (v : Value) (h : Rp w g b0 L v) (hl : L.length ≤ 4294967296) :
 Calls Tryz.prog 44 #[.int .i64 cl, .int .i64 at_, .pointer (some ⟨g, 0, none⟩)] w fun e w' => ∃ v', e = .returned (.tuple #[]) ∧ Rp w' g b0 (L ++ [(cl, at_)]) v' ∧ Up g v v' w w' := by
 obtain ⟨A, c, rfl, hc, _⟩ := own_form h.own
 have HO := zh h.own
 have HBX := zh h.box
 have hglt := h.lt
 have hble := h.le
 have c0 := h.box.cell
 have hfr := h.box.free
 clear h
 have HFM : Hid ((L ++ [(cl, at_)]).flatMap ftC = L.flatMap ftC ++ [.int .i64 cl, .int .i64 at_]) := zh (by simp [ftC])
 have HLN : Hid ((L ++ [(cl, at_)]).length = L.length + 1) := zh (by simp)
 generalize L.flatMap ftC = cs at *
 generalize hLL : (L ++ [(cl, at_)]) = L2 at *
 clear hLL
 generalize L.length = n at *
 refine cHid fun Q' hQ => ?_
 have HQ := zh hQ; clear hQ
 have HB1 : Hid (Below w.heap.size w (w.alloc (.cells #[.int .i64 cl, .int .i64 at_] 41))) := zh ((zB _ _).alloc (zL _) _)
 have HR1 := zh (RowAt.new w 41 #[.int .i64 cl, .int .i64 at_])
 have hz : (w.alloc (.cells #[.int .i64 cl, .int .i64 at_] 41)).heap.size = w.heap.size + 1 := by simp
 have HZ := zh hz; clear hz
 have HTN : Hid (41 ≠ 81) := zh (by show (41 : Nat) ≠ 81; decide)
 go_enter Tryz.func44, Tryz.ntmps44
 go_wp2_with (at_builtin; refine wpList_moreS _ rfl _ _ 81 rfl 41 (.agg #[.int .i64 0, .int .i64 0]) 2 16 Tryz.underlying81 infoFtS rfl (by decide) b0 A n c cs rfl ?c1 w.heap.size [.int .i64 cl, .int .i64 at_] rfl rfl ?c2 (by intro u hu; simp at hu; rcases hu with rfl | rfl <;> rfl) ?c3 ?c4 ?c5 ?_)
 case c1 => exact own_below HO.out HB1.out (zL _)
 case c2 =>
  intro j u hu
  match j, hu with
  | 0, hu => exact (HR1.out.cell 0).trans hu
  | 1, hu => exact (HR1.out.cell 1).trans hu
  | j + 2, hu => simp at hu
 case c3 => simp only [maxLen]; omega
 case c4 => omega
 case c5 => rw [HZ.out]; omega
 intro A6 d6 w6 hown6 hb6 hg6 hat6
 have hne : (Value.slice A n c).ownBlock ≠ some g := own_ne HO.out HBX.out HTN.out
 have hbx6 := (HBX.out.below HB1.out HBX.out.lt).grown hg6 hne
 have HX6 := zh hbx6
 have c6 := hbx6.cell
 have f6 := hbx6.free
 have HO6 := zh hown6
 have HB6 := zh hb6
 have HG6 := zh hg6
 have HA6 := zh hat6
 clear hown6 hb6 hg6 hat6 hbx6 c0 hfr
 go_wp2_with fail
 have hUp : Up g (.slice A n c) (.slice A6 (n + 1) d6) w (w6.setCell ⟨g, 0, none⟩ (.slice A6 (n + 1) d6)) := by
  refine ⟨?_, fun k hk hkg hv => ?_, ?_⟩
  ·have hlo : Below g w w6 := (HB1.out.mono (by have := HBX.out.lt; omega)).trans (HB6.out.mono (by omega))
   exact hlo.setCell (p := ⟨g, 0, none⟩) (zL _) _
  ·simp only [World.setCell, Array.getElem?_modify]
   rw [if_neg (by omega)]
   exact (HG6.out.block k (by simp; omega) (fun e => hv e.symm)).trans (HB1.out.block k hk)
  ·rcases HA6.out with e | e
   ·exact .inl e
   ·exact .inr ⟨_, e, by simp⟩
 have hRp : Rp (w6.setCell ⟨g, 0, none⟩ (.slice A6 (n + 1) d6)) g b0 L2 (.slice A6 (n + 1) d6) := by
  refine ⟨HX6.out.put _, ?_, hglt, ?_⟩
  ·rw [HFM.out, HLN.out]
   exact own_put HO6.out HX6.out HTN.out _
  ·have h1 := hUp.low.size
   omega
 have HRP := zh hRp
 have HUP := zh hUp
 clear hRp hUp
 exact bodyPost_ret (results_none rfl _ _ _) rfl (HQ.out _ _ ⟨_, rfl, HRP.out, HUP.out⟩)
end
section
open Go.RowKit
def kindN (op : Int) : Int := if op = 6 then 1 else if op = 7 then 2 else 0
def dLat (op : Int) : Bool := decide (1 ≤ op ∧ op ≤ 5)
def dVar (op : Int) : Bool := decide (op = 6 ∨ op = 7)
theorem kindOf_any (op : Int) (w : World) : Calls Tryz.prog 42 #[.int .i64 op] w fun e w' => e = .returned (.int .i64 (kindN op)) ∧ w = w' := by
 unfold kindN
 by_cases h6 : op = 6
 ·subst h6
  go_enter Tryz.func42, Tryz.ntmps42
  go_wp2
  go_ret
  exact ⟨rfl, rfl⟩
 ·rw [if_neg h6]
  by_cases h7 : op = 7
  ·subst h7
   go_enter Tryz.func42, Tryz.ntmps42
   go_wp2
   go_ret
   exact ⟨rfl, rfl⟩
  ·rw [if_neg h7]
   go_enter Tryz.func42, Tryz.ntmps42
   go_wp2
   go_ret
   exact ⟨rfl, rfl⟩
theorem declVars_any (op : Int) (w : World) : Calls Tryz.prog 41 #[.int .i64 op] w fun e w' => e = .returned (.bool (dVar op)) ∧ w = w' := by
 have HK := zh (kindOf_any op w)
 have hE : (kindN op != 0) = dVar op := by
  unfold kindN dVar
  split
  ·rename_i h; subst h; rfl
  ·split
   ·rename_i h; subst h; rfl
   ·rename_i h h'; simp [h, h']
 go_enter Tryz.func41, Tryz.ntmps41
 go_wp2_with (go_at_call 42; refine HK.out.mono ?_; rintro e w1 ⟨rfl, rfl⟩)
 go_ret
 exact ⟨rfl, rfl⟩
theorem declLat_any (op : Int) (w : World) : Calls Tryz.prog 40 #[.int .i64 op] w fun e w' => e = .returned (.bool (dLat op)) ∧ w = w' := by
 by_cases h : op = 1 ∨ op = 2 ∨ op = 3 ∨ op = 4 ∨ op = 5
 ·rcases h with rfl | rfl | rfl | rfl | rfl
  all_goals
   go_enter Tryz.func40, Tryz.ntmps40
   go_wp2
   go_ret
   exact ⟨rfl, rfl⟩
 ·have hE : dLat op = false := by unfold dLat; rw [decide_eq_false_iff_not]; omega
  rw [hE]
  have h1 : (op == 1) = false := by simp; omega
  have h2 : (op == 2) = false := by simp; omega
  have h3 : (op == 3) = false := by simp; omega
  have h4 : (op == 4) = false := by simp; omega
  have h5 : (op == 5) = false := by simp; omega
  clear h hE
  go_enter Tryz.func40, Tryz.ntmps40
  go_wp2
  go_ret
  exact ⟨rfl, rfl⟩
structure Cd where
 op : Int
 p : Int
 n : ByteArray × Int
 A : Option Addr
 c : Nat
 ws : List (ByteArray × Int)
 B : Option Addr
 d : Nat
 ps : List ((ByteArray × Int) × (ByteArray × Int))
 pp : Int
 rest : List Value
def cdv (x : Cd) : Array Value := (.int .i64 x.op :: .int .i64 x.p :: .string x.n.1 :: .int .i64 x.n.2 :: .slice x.A x.ws.length x.c :: .slice x.B x.ps.length x.d :: .int .i64 x.pp :: x.rest).toArray
def Cd.txt (x : Cd) : List ByteArray := x.ws.map Prod.fst
structure CdOk (w : World) (K : Nat) (x : Cd) : Prop where
 ws : Sl w K x.A (x.ws.flatMap wdC)
 ps : Sl w K x.B (x.ps.flatMap pwC)
 rest : x.rest.length = 10
 wfew : x.ws.length ≤ 65536
 pfew : x.ps.length ≤ 65536
 nn : x.n.1.size ≤ maxLen
 wn : ∀ t ∈ x.txt, t.size ≤ maxLen
 pn : ∀ p ∈ x.ps, p.1.1.size ≤ maxLen ∧ p.2.1.size ≤ maxLen
theorem CdOk.below {w w' : World} {K : Nat} {x : Cd} (h : CdOk w K x) (hb : Below K w w') : CdOk w' K x := ⟨Sl.below h.ws hb, Sl.below h.ps hb, h.rest, h.wfew, h.pfew, h.nn, h.wn, h.pn⟩
theorem CdOk.mono {w : World} {K K' : Nat} {x : Cd} (h : CdOk w K x) (hb : K ≤ K') : CdOk w K' x := ⟨h.ws.mono hb, h.ps.mono hb, h.rest, h.wfew, h.pfew, h.nn, h.wn, h.pn⟩
theorem cdv_size {w : World} {K : Nat} {x : Cd} (h : CdOk w K x) : (cdv x).size = 17 := by simp [cdv, h.rest]
theorem cdinfo {w : World} {K : Nat} {x : Cd} (h : CdOk w K x) : (Tryz.prog.info? 34).map (·.size) = some (cdv x).size := by rw [cdv_size h]; kernel_rfl
theorem cd_cells {w : World} {g : Nat} {x : Cd} (h : RowAt w g 34 (cdv x)) : w.cell? ⟨g, 0, none⟩ = some (.int .i64 x.op) ∧ w.cell? ⟨g, 1, none⟩ = some (.int .i64 x.p) ∧ w.cell? ⟨g, 2, none⟩ = some (.string x.n.1) ∧ w.cell? ⟨g, 3, none⟩ = some (.int .i64 x.n.2) ∧
 w.cell? ⟨g, 4, none⟩ = some (.slice x.A x.ws.length x.c) ∧ w.cell? ⟨g, 5, none⟩ = some (.slice x.B x.ps.length x.d) ∧ w.cell? ⟨g, 6, none⟩ = some (.int .i64 x.pp) :=
 ⟨(h.cell 0).trans rfl, (h.cell 1).trans rfl, (h.cell 2).trans rfl, (h.cell 3).trans rfl, (h.cell 4).trans rfl, (h.cell 5).trans rfl, (h.cell 6).trans rfl⟩
def LiveOk (w : World) (fL fV : ByteArray → Int) (B1 B2 : Nat) : Prop := ∃ n1 n2, FMap w B1 n1 fL ∧ FMap w B2 n2 fV
section
variable {w w' : World} {fL fV : ByteArray → Int} {B1 B2 : Nat}
theorem LiveOk.below (h : LiveOk w fL fV B1 B2) (hb : Below w.heap.size w w') : LiveOk w' fL fV B1 B2 := by
 obtain ⟨n1, n2, h1, h2⟩ := h
 exact ⟨n1, n2, h1.below hb h1.lt, h2.below hb h2.lt⟩
theorem LiveOk.lo {K : Nat} (h : LiveOk w fL fV B1 B2) (hb : Below K w w') (h1 : B1 < K) (h2 : B2 < K) : LiveOk w' fL fV B1 B2 := by
 obtain ⟨n1, n2, h3, h4⟩ := h
 exact ⟨n1, n2, h3.below hb h1, h4.below hb h2⟩
theorem LiveOk.lt (h : LiveOk w fL fV B1 B2) : B1 < w.heap.size ∧ B2 < w.heap.size := by
 obtain ⟨n1, n2, h1, h2⟩ := h
 exact ⟨h1.lt, h2.lt⟩
end
def clsF (fL fV : ByteArray → Int) (t : ByteArray) : Int := if 0 ≤ fL t then 0 else if 0 ≤ fV t then 4 else 3
def lvv (B1 B2 : Nat) : Array Value := #[.map (some B1), .map (some B2)]
theorem llattice_any (fL fV : ByteArray → Int) (B1 B2 : Nat) (t : ByteArray) (w : World) (h : LiveOk w fL fV B1 B2) (ht : t.size ≤ maxLen) :
 Calls Tryz.prog 94 #[.agg (lvv B1 B2), .string t] w fun e w' => e = .returned (.int .i64 (clsF fL fV t)) ∧ Below w.heap.size w w' := by
 have r0 := RowAt.new w 85 (lvv B1 B2)
 have HB : Hid (Below w.heap.size w (w.alloc (.cells (lvv B1 B2) 85))) := (zB _ _).alloc (zL _) _
 obtain ⟨n1, n2, h1, h2⟩ := h.below HB.out
 obtain ⟨c0, c1, _, _⟩ := rw2 r0
 have k1 := h1.ok ht
 have k2 := h2.ok ht
 clear h h1 h2 r0
 unfold clsF
 generalize fL t = a at *
 generalize fV t = b at *
 by_cases ha : 0 ≤ a
 ·rw [if_pos ha, zE ha] at k1
  rw [if_pos ha]
  have HA := zh ha; clear ha k2
  go_enter Tryz.func94, Tryz.ntmps94
  go_upto_region 1 with fail
  change Code.wp _ _ _ _ (w.alloc (.cells (lvv B1 B2) 85))
  generalize w.alloc (.cells (lvv B1 B2) 85) = w1 at *
  go_wp2
  go_ret
  exact ⟨rfl, HB.out⟩
 ·rw [if_neg ha, zF ha] at k1
  rw [if_neg ha]
  clear ha
  by_cases hb : 0 ≤ b
  ·rw [if_pos hb, zE hb] at k2
   rw [if_pos hb]
   have HBB := zh hb; clear hb
   go_enter Tryz.func94, Tryz.ntmps94
   go_upto_region 1 with fail
   change Code.wp _ _ _ _ (w.alloc (.cells (lvv B1 B2) 85))
   generalize w.alloc (.cells (lvv B1 B2) 85) = w1 at *
   go_wp2
   go_ret
   exact ⟨rfl, HB.out⟩
  ·rw [if_neg hb, zF hb] at k2
   rw [if_neg hb]
   clear hb
   go_enter Tryz.func94, Tryz.ntmps94
   go_upto_region 1 with fail
   change Code.wp _ _ _ _ (w.alloc (.cells (lvv B1 B2) 85))
   generalize w.alloc (.cells (lvv B1 B2) 85) = w1 at *
   go_wp2
   go_ret
   exact ⟨rfl, HB.out⟩
theorem lhas_any (fL fV : ByteArray → Int) (B1 B2 : Nat) (t : ByteArray) (w : World) (h : LiveOk w fL fV B1 B2) (ht : t.size ≤ maxLen) :
 Calls Tryz.prog 95 #[.agg (lvv B1 B2), .string t] w fun e w' => e = .returned (.bool (clsF fL fV t != 3)) ∧ Below w.heap.size w w' := by
 have r0 := RowAt.new w 85 (lvv B1 B2)
 have HB : Hid (Below w.heap.size w (w.alloc (.cells (lvv B1 B2) 85))) := (zB _ _).alloc (zL _) _
 have HC := zh (llattice_any fL fV B1 B2 t _ (h.below HB.out) ht)
 have HR := zh r0
 clear h r0
 go_enter Tryz.func95, Tryz.ntmps95
 go_upto_region 1 with fail
 change Code.wp _ _ _ _ (w.alloc (.cells (lvv B1 B2) 85))
 generalize w.alloc (.cells (lvv B1 B2) 85) = w1 at *
 have HBO := HB.out
 go_wp2_with (first
  | (refine wpList_loadS (by rfl) _ _ rfl w.heap.size rfl _ _ _ HR.out Tryz.underlying85 rfl (by kernel_rfl) ?_)
  | (go_at_call 94; refine HC.out.mono ?_; rintro e w2 ⟨rfl, hb⟩; have HB2 := zh hb; clear hb))
 go_ret
 exact ⟨rfl, HBO.trans (HB2.out.mono (by have := HR.out.lt; omega))⟩
end
section
open Go.RowKit
def nameF (fL fV : ByteArray → Int) (x : Cd) : List (Int × Int) := if dVar x.op = true then [(clsF fL fV x.n.1, x.n.2)] else if (clsF fL fV x.n.1 != 3) = true then [(3, x.n.2)] else []
theorem two_rows (w : World) (cs ds : Array Value) (t u : TypeId) : RowAt ((w.alloc (.cells cs t)).alloc (.cells ds u)) w.heap.size t cs ∧ RowAt ((w.alloc (.cells cs t)).alloc (.cells ds u)) (w.heap.size + 1) u ds ∧ Below w.heap.size w ((w.alloc (.cells cs t)).alloc (.cells ds u)) := by
 refine ⟨(RowAt.new w _ _).alloc _, ?_, ((zB _ _).alloc (zL _) _).alloc (by simp) _⟩
 have h := RowAt.new (w.alloc (.cells cs t)) u ds
 rw [show (w.alloc (.cells cs t)).heap.size = w.heap.size + 1 by simp] at h
 exact h
theorem checkName_any (fL fV : ByteArray → Int) (B1 B2 : Nat) (x : Cd) (K : Nat) (w : World) (g b0 : Nat) (L : List (Int × Int)) (v : Value) (hL : LiveOk w fL fV B1 B2) (hx : CdOk w K x) (hr : Rp w g b0 L v) (hl : L.length ≤ 4294967290) :
 Calls Tryz.prog 46 #[.agg (lvv B1 B2), .agg (cdv x), .func (.func 44) #[] #[.pointer (some ⟨g, 0, none⟩)]] w fun e w' => ∃ v', e = .returned (.tuple #[]) ∧ Rp w' g b0 (L ++ nameF fL fV x) v' ∧ Up g v v' w w' := by
 obtain ⟨r0, q0, hb⟩ := two_rows w (lvv B1 B2) (cdv x) 85 34
 refine cHid fun Q' hQ => ?_
 have HQ := zh hQ; clear hQ
 have hglt := hr.box.lt
 have hnv : ∀ k, w.heap.size ≤ k → v.ownBlock ≠ some k := fun k hk => hr.blk hk
 go_enter Tryz.func46, Tryz.ntmps46
 go_upto_region 1 with fail
 change Code.wp _ _ _ _ ((w.alloc (.cells (lvv B1 B2) 85)).alloc (.cells (cdv x) 34))
 generalize (w.alloc (.cells (lvv B1 B2) 85)).alloc (.cells (cdv x) 34) = w1 at *
 have HLV1 := zh (hL.below hb)
 have HRPw := zh (hr.below hb)
 have HU1w : Hid (Up g v v w w1) := zh (Up.below (by omega) hb)
 have HNN := zh hx.nn
 obtain ⟨d0, d1, d2, d3, _, _, _⟩ := cd_cells q0
 have C0 : ∀ W, (∃ v', Up g v v' w1 W) → W.cell? ⟨w.heap.size, 0, none⟩ = some (.map (some B1)) := fun W ⟨v', hu⟩ => ((r0.up hu (by omega) (hnv _ (by omega))).cell 0).trans rfl
 have C1 : ∀ W, (∃ v', Up g v v' w1 W) → W.cell? ⟨w.heap.size, 1, none⟩ = some (.map (some B2)) := fun W ⟨v', hu⟩ => ((r0.up hu (by omega) (hnv _ (by omega))).cell 1).trans rfl
 have C2 : ∀ W, (∃ v', Up g v v' w1 W) → W.cell? ⟨w.heap.size + 1, 2, none⟩ = some (.string x.n.1) := fun W ⟨v', hu⟩ => ((q0.up hu (by omega) (hnv _ (by omega))).cell 2).trans rfl
 have C3 : ∀ W, (∃ v', Up g v v' w1 W) → W.cell? ⟨w.heap.size + 1, 3, none⟩ = some (.int .i64 x.n.2) := fun W ⟨v', hu⟩ => ((q0.up hu (by omega) (hnv _ (by omega))).cell 3).trans rfl
 have HRL := zh r0
 have HLT := zh q0.lt
 have HN : Hid (nameF fL fV x = if dVar x.op = true then [(clsF fL fV x.n.1, x.n.2)] else if (clsF fL fV x.n.1 != 3) = true then [(3, x.n.2)] else []) := zh rfl
 generalize nameF fL fV x = NF at *
 clear r0 q0 hb hL hx hr
 have HDV := zh (declVars_any x.op w1)
 cases hdv : dVar x.op with
 | true =>
   rw [hdv] at HDV HN
   rw [if_pos rfl] at HN
   go_upto_region 2 with (go_at_call 41; refine HDV.out.mono ?_; rintro e w2 ⟨rfl, rfl⟩)
   rw [HN.out] at HQ
   clear d0 d1 d2 d3 HN hdv
   have HSv0 : Hid (∃ v', Up g v v' w1 w1.drew) := zh ⟨v, Up.below (by have := HLT.out; omega) (zB _ _).drew⟩
   have HU0 : Hid (Up g v v w1 w1.drew) := zh (Up.below (by have := HLT.out; omega) (zB _ _).drew)
   have HRP0 := zh (HRPw.out.below (zB _ _).drew)
   have HLV := zh (HLV1.out.below (zB _ _).drew)
   refine wp_region_ou (fun w' => ∃ v', Up g v v' w1 w') ((.take 0 (.take 1 (.take 2 (.take 3 (.take 4 (.take 6 (.take 7 (.take 8 (.solo 5 (.solo 9 .nil))))))))))) (by kernel_rfl) (by kernel_rfl) rfl (by kernel_rfl) HSv0.out ?_
   generalize w1.drew = v0 at *
   have hgv0 : g ≤ v0.heap.size := by have := HU0.out.size; have := HLT.out; omega
   iterate 8
    (refine wpOU_step (zO rfl) ?_)
    (first
     | (refine wpOU_skip (by rfl) ?_)
     | (refine wpOU_take (v := ?_) (by rfl) ?_ ?_; rotate_left 1; (intro wx hSx; have hc_0 := C0 wx hSx; have hc_1 := C1 wx hSx; have hc_2 := C2 wx hSx; have hc_3 := C3 wx hSx; go_simp; try with_reducible rfl)))
    (try simp only [Act.put, zA4, zA5, zA6])
   (refine wpOU_solo (zO rfl) ?_)
   intro K hK
   go_simp
   go_at_call 94
   refine (llattice_any fL fV B1 B2 x.n.1 v0 HLV.out HNN.out).mono ?_
   rintro e v1 ⟨rfl, hb⟩
   have HRP1 := zh (HRP0.out.below hb)
   have HU1 := zh (HU0.out.trans (Up.below (by have := HU0.out.size; omega) hb))
   have HSv1 : Hid (∃ v', Up g v v' w1 v1) := zh ⟨_, HU1.out⟩
   clear hb
   refine hK.out _ _ HSv1.out ?_
   clear hK K
   (try simp only [Act.put, zA4, zA5, zA6])
   (refine wpOU_solo (zO rfl) ?_)
   intro K hK
   go_simp
   refine (report_any _ _ v1 g b0 L v HRP1.out (by omega)).mono ?_
   rintro e v2 ⟨v', rfl, hr2, hu2⟩
   have HRP2 := zh hr2
   have HU2 := zh (HU1.out.trans hu2)
   have HSv2 : Hid (∃ v', Up g v v' w1 v2) := zh ⟨_, HU2.out⟩
   clear hr2 hu2
   refine hK.out _ _ HSv2.out ?_
   clear hK K
   (try simp only [Act.put, zA4, zA5, zA6])
   refine wpOU_done ?_
   go_wp2_with fail
   exact bodyPost_ret (results_none rfl _ _ _) rfl (HQ.out _ _ ⟨v', rfl, HRP2.out, HU1w.out.trans HU2.out⟩)
 | false =>
   rw [hdv] at HDV HN
   rw [if_neg (by simp)] at HN
   have HC := zh (lhas_any fL fV B1 B2 x.n.1 w1 HLV1.out HNN.out)
   have hd3 : ∀ W, Below w1.heap.size w1 W → W.cell? ⟨w.heap.size + 1, 3, none⟩ = some (.int .i64 x.n.2) := fun W hW => C3 W ⟨v, Up.below (by have := HLT.out; omega) hW⟩
   clear C0 C1 C2 C3
   cases hc : clsF fL fV x.n.1 != 3
   all_goals
    rw [hc] at HC HN
    go_wp2_with (first
        | (go_at_call 41; refine HDV.out.mono ?_; rintro e w2 ⟨rfl, rfl⟩)
        | (refine wpList_loadS (by rfl) _ _ rfl w.heap.size rfl _ _ _ HRL.out Tryz.underlying85 rfl (by kernel_rfl) ?_)
        | (go_at_call 95; refine HC.out.mono ?_; rintro e w3 ⟨rfl, hb⟩; have c3 := hd3 _ hb; have HRP3 := zh (HRPw.out.below hb); have HU3 := zh (HU1w.out.trans (Up.below (by have := HLT.out; omega) hb)); clear hb d0 d1 d2 d3))
   ·rw [HN.out, if_neg (by simp)] at HQ
    exact bodyPost_ret (results_none rfl _ _ _) rfl (HQ.out _ _ ⟨v, rfl, by rw [List.append_nil]; exact HRP3.out, HU3.out⟩)
   ·have hnf : NF = [(3, x.n.2)] := by rw [HN.out]; simp
    rw [hnf] at HQ
    refine (report_any _ _ w3 g b0 L v HRP3.out (by omega)).mono ?_
    rintro e w4 ⟨v', rfl, hr2, hu2⟩
    have HRP4 := zh hr2
    have HU4 := zh (HU3.out.trans hu2)
    clear hr2 hu2
    go_wp2_with fail
    exact bodyPost_ret (results_none rfl _ _ _) rfl (HQ.out _ _ ⟨v', rfl, HRP4.out, HU4.out⟩)
end
end Go.Proofs.YteachpfpcceamaaGreatDoor
