/- Texts that all the claims need. Conditions: those that each states. -/
import Derived.Laws.EntriesVeiled
import Derived.Test.YtdahllhbpdbknaaGreatDoorTc6
import Derived.Test.YtdahllhbpdbknaaGreatDoorTc19
set_option linter.unusedSimpArgs false
set_option linter.unusedVariables false
set_option maxRecDepth 100000
set_option maxHeartbeats 40000000
namespace Go.Proofs.YtdahllhbpdbknaaGreatDoor
section
open Go.RowKit RM Go.Maps
theorem joinE_core (fs : List Fac) (a b : List Nat) : joinE (fs.map core) a b = joinE fs a b := by
 unfold joinE
 refine List.map_congr_left fun i _ => ?_
 unfold joinS
 rw [List.length_map, getD_core]
 rfl
theorem joinE_same {fs gs : List Fac} (h : gs.map core = fs.map core) : joinE gs = joinE fs := by
 funext a b
 rw [← joinE_core gs, h, joinE_core]
theorem evG_same {fs gs : List Fac} (h : gs.map core = fs.map core) (v : List (List Nat)) (l : List In) : evG gs v l = evG fs v l := by
 unfold evG
 rw [joinE_same h]
theorem joining_any (t : Bool) (A : Option Addr) (n c : Nat) (w : World) :
 Calls Tryz.prog 22 #[.agg (sv t A n c)] w fun e w' => e = .returned (.func (.func 43) #[] #[.pointer (some ⟨w.heap.size + 1, 0, none⟩), .pointer (some ⟨w.heap.size + 3, 0, none⟩), .pointer (some ⟨w.heap.size + 2, 0, none⟩), .pointer (some ⟨w.heap.size, 0, none⟩)]) ∧
  RowAt w' w.heap.size 24 (sv t A n c) ∧ RowAt w' (w.heap.size + 1) 97 (onceC 0 0) ∧ RowAt w' (w.heap.size + 2) 98 #[.slice none 0 0] ∧
  RowAt w' (w.heap.size + 3) 1 #[.func (.func 41) #[] #[.pointer (some ⟨w.heap.size, 0, none⟩), .pointer (some ⟨w.heap.size + 2, 0, none⟩)]] ∧ w'.heap.size = w.heap.size + 4 ∧ Below w.heap.size w w' := by
 have hmf : ∀ (fn : Fn) (first cap : Array Value) (w : World), (Instr.makeFunc fn first cap).run Tryz.prog w = .ok (.func fn first cap) w := fun _ _ _ _ => rfl
 obtain ⟨r0, r1, r2, r3, hb⟩ := four_rows w (sv t A n c) (onceC 0 0) #[.slice none 0 0] #[.func (.func 41) #[] #[.pointer (some ⟨w.heap.size, 0, none⟩), .pointer (some ⟨w.heap.size + 2, 0, none⟩)]] 24 97 98 1
 refine cHid fun Q' hQ => ?_
 have HQ := zh hQ; clear hQ
 go_enter Tryz.func22, Tryz.ntmps22
 go_wp2_with fail
 exact HQ.out _ _ ⟨rfl, r0, r1, r2, r3, by simp, hb⟩
theorem eqlF1 (F : FuncId) (a : Array Value) (w : World) : (binOp .eql 29 (.func (.func F) #[] a) .nilFunc).run Tryz.prog w = .ok (.bool false) w := by kernel_rfl
theorem neqF1 (F : FuncId) (a : Array Value) (w : World) : (binOp .neq 29 (.func (.func F) #[] a) .nilFunc).run Tryz.prog w = .ok (.bool true) w := by kernel_rfl
theorem eqlF2 (F : FuncId) (a : Array Value) (w : World) : (binOp .eql 30 (.func (.func F) #[] a) .nilFunc).run Tryz.prog w = .ok (.bool false) w := by kernel_rfl
theorem neqF2 (F : FuncId) (a : Array Value) (w : World) : (binOp .neq 30 (.func (.func F) #[] a) .nilFunc).run Tryz.prog w = .ok (.bool true) w := by kernel_rfl
theorem eqlF3 (F : FuncId) (a : Array Value) (w : World) : (binOp .eql 31 (.func (.func F) #[] a) .nilFunc).run Tryz.prog w = .ok (.bool false) w := by kernel_rfl
theorem neqF3 (F : FuncId) (a : Array Value) (w : World) : (binOp .neq 31 (.func (.func F) #[] a) .nilFunc).run Tryz.prog w = .ok (.bool true) w := by kernel_rfl
theorem whole_any (F G H : FuncId) (a b c : Array Value) (w : World) : Calls Tryz.prog 26 #[.agg #[.func (.func F) #[] a, .func (.func G) #[] b, .func (.func H) #[] c]] w fun e w' => e = .returned (.agg #[.func (.func F) #[] a, .func (.func G) #[] b, .func (.func H) #[] c]) ∧ Below w.heap.size w w' := by
 have e1 := eqlF1 F a
 have e2 := eqlF2 G b
 have e3 := eqlF3 H c
 obtain ⟨r0, r1, hb⟩ := two_rows w #[.func (.func F) #[] a, .func (.func G) #[] b, .func (.func H) #[] c] #[.func (.func F) #[] a, .func (.func G) #[] b, .func (.func H) #[] c] 33 33
 refine cHid fun Q' hQ => ?_
 have HQ := zh hQ; clear hQ
 go_enter Tryz.func26, Tryz.ntmps26
 go_wp2_with fail
 exact bodyPost_ret (retRow rfl _ _ (w.heap.size + 1) _ _ (0, 0) _ rfl r1 Tryz.underlying33 rfl (by kernel_rfl)) rfl (HQ.out _ _ ⟨rfl, hb⟩)
theorem lwhole_any (F G H : FuncId) (a b c : Array Value) (w : World) : Calls Tryz.prog 10 #[.agg #[.func (.func F) #[] a, .func (.func G) #[] b, .func (.func H) #[] c]] w fun e w' => e = .returned (.bool true) ∧ Below w.heap.size w w' := by
 have e1 := neqF1 F a
 have e2 := neqF2 G b
 have e3 := neqF3 H c
 have hb : Below w.heap.size w (w.alloc (.cells #[.func (.func F) #[] a, .func (.func G) #[] b, .func (.func H) #[] c] 33)) := (zB _ _).alloc (zL _) _
 refine cHid fun Q' hQ => ?_
 have HQ := zh hQ; clear hQ
 go_enter Tryz.func10, Tryz.ntmps10
 go_wp2_with fail
 exact HQ.out _ _ ⟨rfl, hb⟩
theorem infoShp2 : (Tryz.prog.info? 24).map (fun i => (i.zero.isSome, i.size)) = some (true, 2) := by kernel_rfl
theorem wp_oneQ {ty et : TypeId} {sz : Nat} (hsz : 0 < sz ∧ sz ≤ 100) (hinf : (Tryz.prog.info? et).map (fun i => (i.zero.isSome, i.size)) = some (true, sz)) (hund : Tryz.prog.underlying ty = some (.slice et)) {o : Oper} {a : Act} {w : World} {K : Act → World → Prop} {Q : Exit → Act → World → Prop} (x : Operand) (ho : o.op = .buildSlice ty 1 #[(0, x)])
 (cs : Array Value) (hc : cs.size = sz) (hx : a.eval x = .agg cs)
 (h : K (a.put o.dst (.slice (some ⟨w.heap.size, 0, none⟩) 1 1)) (w.alloc (.cells cs et))) : o.wp Tryz.prog a w K Q := by
 cases hi : Tryz.prog.info? et with
 | none => have h0 := hinf; rw [hi] at h0; cases h0
 | some i =>
   have h2 := hinf
   rw [hi] at h2
   simp only [Option.map_some, Option.some.injEq, Prod.mk.injEq] at h2
   obtain ⟨z, hz⟩ := Option.isSome_iff_exists.1 h2.1
   have hs := h2.2
   refine wp_buildSlice ty et 1 _ ho cs i z hund hi hz (by rw [hs]; omega) (by rw [hs]; omega) ?_ h
   rw [show (#[(0, x)].map fun (p : Nat × Operand) => (p.1, a.eval p.2)).toList = ([Value.agg cs].zipIdx 0).map fun x => (x.2, x.1) by simp [hx], hs]
   have := Great.fill_whole (s := sz) hsz.1 [Value.agg cs] ((Array.range (1 * sz)).map (z.cells[· % z.cells.size]!)) (by
    intro v hv
    rw [List.mem_singleton] at hv
    subst hv
    exact hc) (by simp)
   rw [this]
   simp [Value.cells]
theorem wpList_oneQ {ty et : TypeId} {sz : Nat} (hsz : 0 < sz ∧ sz ≤ 100) (hinf : (Tryz.prog.info? et).map (fun i => (i.zero.isSome, i.size)) = some (true, sz)) (hund : Tryz.prog.underlying ty = some (.slice et)) {ops : Array Oper} {rest : List Oper} {o : Oper} {a : Act} {w : World} {Q : Exit → Act → World → Prop} (hgd : o.guard = none) (x : Operand) (ho : o.op = .buildSlice ty 1 #[(0, x)])
 (cs : Array Value) (hc : cs.size = sz) (hx : a.eval x = .agg cs)
 (h : ∀ w', RowAt w' w.heap.size et cs → Below w.heap.size w w' → wpList Tryz.prog ops Q rest (a.put o.dst (.slice (some ⟨w.heap.size, 0, none⟩) 1 1)) w') : wpList Tryz.prog ops Q (o :: rest) a w :=
 wpList_plain hgd fun _ hK => wp_oneQ hsz hinf hund x ho cs hc hx (hK _ _ (h _ (RowAt.new _ _ _) ((zB _ _).alloc (zL _) _)))
structure OfAt (W : World) (b0 gow gs go gt gp b1 : Nat) (t : Bool) (A : Option Addr) (c : Nat) (gf : List Fac) : Prop where
 own : RowAt W gow 24 (sv t A gf.length c)
 shp : RowAt W gs 24 (sv t A gf.length c)
 once : RowAt W go 97 (onceC 0 0)
 tabs : RowAt W gt 98 #[.slice none 0 0]
 prep : RowAt W gp 1 #[.func (.func 41) #[] #[.pointer (some ⟨gs, 0, none⟩), .pointer (some ⟨gt, 0, none⟩)]]
 le : b0 ≤ b1 ∧ b1 ≤ gow ∧ b1 ≤ gs ∧ b1 ≤ go ∧ b1 ≤ gt ∧ b1 ≤ gp
 ne : gs ≠ go ∧ gs ≠ gt ∧ gp ≠ go ∧ gp ≠ gt ∧ gow ≠ go ∧ gow ≠ gt
 facs : ∀ W', b1 ≤ W'.heap.size → (∀ k, b0 ≤ k → k < b1 → W'.heap[k]? = W.heap[k]?) → Facs W' A gf
theorem of17_any (t : Bool) (A : Option Addr) (c : Nat) (fs : List Fac) (w : World) (hF : Facs w A fs) (hnil : A = none → c = 0) (hfew : fs.length ≤ 65536) (hnm : ∀ f ∈ fs, f.names.length ≤ 65536) :
 Calls Tryz.prog 9 #[.agg (sv t A fs.length c)] w fun e w' => ∃ gow gs go gt gp b1 A' c' gf, e = .returned (.agg #[.func (.func 19) #[] #[.pointer (some ⟨gow, 0, none⟩)], .func (.func 21) #[] #[],
  .func (.func 43) #[] #[.pointer (some ⟨go, 0, none⟩), .pointer (some ⟨gp, 0, none⟩), .pointer (some ⟨gt, 0, none⟩), .pointer (some ⟨gs, 0, none⟩)]]) ∧ OfAt w' w.heap.size gow gs go gt gp b1 t A' c' gf ∧ gf.map core = fs.map core ∧ Below w.heap.size w w' := by
 have hmf : ∀ (fn : Fn) (first cap : Array Value) (w : World), (Instr.makeFunc fn first cap).run Tryz.prog w = .ok (.func fn first cap) w := fun _ _ _ _ => rfl
 obtain ⟨r0, r1, hb⟩ := two_rows w (sv t A fs.length c) #[.nilFunc, .nilFunc, .nilFunc] 24 33
 have hF1 := hF.below hb
 refine cHid fun Q' hQ => ?_
 have HQ := zh hQ; clear hQ
 go_enter Tryz.func9, Tryz.ntmps9
 go_upto_region 1 with fail
 change Code.wp _ _ _ _ ((w.alloc (.cells (sv t A fs.length c) 24)).alloc (.cells #[.nilFunc, .nilFunc, .nilFunc] 33))
 generalize ((w.alloc (.cells (sv t A fs.length c) 24)).alloc (.cells #[.nilFunc, .nilFunc, .nilFunc] 33)) = w1 at *
 have HR0 := zh r0
 have HR1 := zh r1
 have HB1 := zh hb
 have hsz1 : sv t A fs.length c = #[.bool t, .slice A fs.length c] := rfl
 obtain ⟨c0, c1⟩ := shape_cells r0
 have HFC := zh hF1
 have HFL : Hid ((flat [(⟨t, A, c, fs⟩ : Shp)]) = fs) := zh (by unfold flat; simp)
 have HPR : Hid (∀ W g, RowAt W g 24 (sv t A fs.length c) → Below w1.heap.size w1 W → Calls Tryz.prog 18 #[.slice (some ⟨g, 0, none⟩) 1 1] W fun e w' => ∃ A' c' gs, e = .returned (.agg #[.bool true, .slice A' gs.length c']) ∧ w'.ownsRow W.heap.size 61 67 (.slice A' gs.length c') gs.length (fscells gs) ∧
  (∀ g ∈ gs, FacO w' W.heap.size g) ∧ gs.map core = fs.map core ∧ Below W.heap.size W w') := zh fun W g hg hbW => by
  have := product_any (some ⟨g, 0, none⟩) 1 [⟨t, A, c, fs⟩] W (fun _ => ⟨g, 0, rfl, hg.lt, fun j u hu => by
   rw [Nat.zero_add, hg.cell j]
   simpa [shcells, shc, sv] using hu⟩) (fun s hs => by
   rw [List.mem_singleton] at hs
   subst hs
   exact ⟨hF1.below hbW, hnil, hfew, hnm⟩) (by simp) (by rw [HFL.out]; exact hfew)
  rw [HFL.out] at this
  exact this
 clear hF hF1 r0 r1 hb HFC
 generalize fs.length = n at *
 go_upto_region 2 with (first
  | (refine wpList_loadShape (by rfl) _ rfl w.heap.size rfl _ _ _ _ HR0.out ?_)
  | (refine wpList_oneQ (by decide) infoShp2 Tryz.underlying80 rfl _ rfl (sv t A n c) rfl rfl ?_; intro w2 r2 hb2; have HB2 := zh hb2; have HP2 := zh (HPR.out w2 _ r2 hb2); clear r2 hb2)
  | (go_at_call 18; refine HP2.out.mono ?_; rintro e w3 ⟨A', c', gf, rfl, hown, hfo, hcore, hb3⟩; have HOW := zh hown; have HFO := zh hfo; have HCR := zh hcore; have HB3 := zh hb3; clear hown hfo hcore hb3))
 change Code.wp _ _ _ _ (w3.alloc (.cells (sv true A' gf.length c') 24))
 have HB13 : Hid (Below w1.heap.size w1 w3) := zh (HB2.out.trans (HB3.out.mono HB2.out.size))
 have HRA : Hid (RowAt (w3.alloc (.cells (sv true A' gf.length c') 24)) w.heap.size 24 (sv t A n c)) := zh ((HR0.out.below HB13.out HR0.out.lt).alloc _)
 have HRB : Hid (RowAt (w3.alloc (.cells (sv true A' gf.length c') 24)) (w.heap.size + 1) 33 #[.nilFunc, .nilFunc, .nilFunc]) := zh ((HR1.out.below HB13.out HR1.out.lt).alloc _)
 have HRO : Hid (RowAt (w3.alloc (.cells (sv true A' gf.length c') 24)) w3.heap.size 24 (sv true A' gf.length c')) := zh (RowAt.new _ _ _)
 have HB04 : Hid (Below w.heap.size w (w3.alloc (.cells (sv true A' gf.length c') 24))) := zh ((HB1.out.trans (HB13.out.mono HB1.out.size)).alloc (zM HB1.out.size HB13.out.size) _)
 have HF3 : Hid (∀ W', w3.heap.size ≤ W'.heap.size → (∀ k, w2.heap.size ≤ k → k < w3.heap.size → W'.heap[k]? = w3.heap[k]?) → Facs W' A' gf) := zh fun W' hs h =>
  ⟨(Sl.of_own (own_same HOW.out fun b hb hob => h b (HOW.out.lt b hob).1 hb)), fun f hf => (⟨own_same (HFO.out f hf).own fun b hb hob => h b ((HFO.out f hf).own.lt b hob).1 hb, (HFO.out f hf).rows⟩ : FacO W' w2.heap.size f).ok⟩
 have H12 : Hid (w.heap.size + 1 < w2.heap.size) := zh (zT HR1.out.lt HB2.out.size)
 have HB34 : Hid (Below w3.heap.size w3 (w3.alloc (.cells (sv true A' gf.length c') 24))) := zh ((zB _ _).alloc (zL _) _)
 have h03 : w.heap.size + 1 < w3.heap.size := zT HR1.out.lt HB13.out.size
 have h4s : (w3.alloc (.cells (sv true A' gf.length c') 24)).heap.size = w3.heap.size + 1 := by simp
 have HJO : Hid (∀ W, Calls Tryz.prog 22 #[.agg #[.bool t, .slice A' gf.length c']] W fun e w' => e = .returned (.func (.func 43) #[] #[.pointer (some ⟨W.heap.size + 1, 0, none⟩), .pointer (some ⟨W.heap.size + 3, 0, none⟩), .pointer (some ⟨W.heap.size + 2, 0, none⟩), .pointer (some ⟨W.heap.size, 0, none⟩)]) ∧
  RowAt w' W.heap.size 24 (sv t A' gf.length c') ∧ RowAt w' (W.heap.size + 1) 97 (onceC 0 0) ∧ RowAt w' (W.heap.size + 2) 98 #[.slice none 0 0] ∧
  RowAt w' (W.heap.size + 3) 1 #[.func (.func 41) #[] #[.pointer (some ⟨W.heap.size, 0, none⟩), .pointer (some ⟨W.heap.size + 2, 0, none⟩)]] ∧ w'.heap.size = W.heap.size + 4 ∧ Below W.heap.size W w') := zh fun W => joining_any t A' gf.length c' W
 generalize (w3.alloc (.cells (sv true A' gf.length c') 24)) = w4 at *
 obtain ⟨a0, _⟩ := shape_cells HRA.out
 obtain ⟨o0, o1⟩ := shape_cells HRO.out
 have hof := HRO.out.free 0
 have H4S := zh h4s
 have H03 := zh h03
 clear HR0 HR1 HB13 HB1 HB2 HB3 HOW HFO HPR HFL h4s h03 c0 c1 hsz1 HP2
 obtain ⟨g3, hg3⟩ : ∃ g3, g3 = w3.heap.size := ⟨_, rfl⟩
 have HG3 := zh hg3
 rw [← hg3] at o0 o1 hof HRO ⊢
 clear hg3
 go_upto_region 3 with fail
 have HRO5 : Hid (RowAt (w4.setCell ⟨g3, 0, none⟩ (.bool t)) g3 24 (sv t A' gf.length c')) := zh (HRO.out.put 0 (.bool t))
 have HRB5 : Hid (RowAt (w4.setCell ⟨g3, 0, none⟩ (.bool t)) (w.heap.size + 1) 33 #[.nilFunc, .nilFunc, .nilFunc]) := zh (HRB.out.far (p := ⟨g3, 0, none⟩) (by show g3 ≠ _; have := HG3.out; have := H03.out; omega) _)
 have HB05 : Hid (Below w.heap.size w (w4.setCell ⟨g3, 0, none⟩ (.bool t))) := zh (HB04.out.setCell (p := ⟨g3, 0, none⟩) (by show _ ≤ g3; have := HG3.out; have := H03.out; omega) _)
 have HB35 : Hid (Below w3.heap.size w3 (w4.setCell ⟨g3, 0, none⟩ (.bool t))) := zh (HB34.out.setCell (p := ⟨g3, 0, none⟩) (by show _ ≤ g3; have := HG3.out; omega) _)
 have H5S : Hid ((w4.setCell ⟨g3, 0, none⟩ (.bool t)).heap.size = w3.heap.size + 1) := zh (by rw [← H4S.out]; simp [World.setCell])
 generalize (w4.setCell ⟨g3, 0, none⟩ (.bool t)) = w5 at *
 clear HRO HRB HB04 HB34 HRA H4S a0 o0 o1 hof
 obtain ⟨o0, o1⟩ := shape_cells HRO5.out
 go_wp2_with (go_at_call 22; refine (HJO.out w5).mono ?_; rintro e w6 ⟨rfl, q0, q1, q2, q3, hs6, hb6⟩; have HQ0 := zh q0; have HQ1 := zh q1; have HQ2 := zh q2; have HQ3 := zh q3; have HS6 := zh hs6; have HB6 := zh hb6; clear q0 q1 q2 q3 hs6 hb6; have HRB6 := zh (HRB5.out.below HB6.out HRB5.out.lt); obtain ⟨p0, p1, p2, z0, z1, z2⟩ := rw3 HRB6.out)
 have HE : Hid (RowAt (((w6.setCell ⟨w.heap.size + 1, 0, none⟩ (.func (.func 19) #[] #[.pointer (some ⟨g3, 0, none⟩)])).setCell ⟨w.heap.size + 1, 1, none⟩ (.func (.func 21) #[] #[])).setCell ⟨w.heap.size + 1, 2, none⟩
  (.func (.func 43) #[] #[.pointer (some ⟨w5.heap.size + 1, 0, none⟩), .pointer (some ⟨w5.heap.size + 3, 0, none⟩), .pointer (some ⟨w5.heap.size + 2, 0, none⟩), .pointer (some ⟨w5.heap.size, 0, none⟩)])) (w.heap.size + 1) 33
  #[.func (.func 19) #[] #[.pointer (some ⟨g3, 0, none⟩)], .func (.func 21) #[] #[], .func (.func 43) #[] #[.pointer (some ⟨w5.heap.size + 1, 0, none⟩), .pointer (some ⟨w5.heap.size + 3, 0, none⟩), .pointer (some ⟨w5.heap.size + 2, 0, none⟩), .pointer (some ⟨w5.heap.size, 0, none⟩)]]) :=
  zh (((HRB6.out.put 0 _).put 1 _).put 2 _)
 have HM : Hid (Mut (w.heap.size + 1) w6 (((w6.setCell ⟨w.heap.size + 1, 0, none⟩ (.func (.func 19) #[] #[.pointer (some ⟨g3, 0, none⟩)])).setCell ⟨w.heap.size + 1, 1, none⟩ (.func (.func 21) #[] #[])).setCell ⟨w.heap.size + 1, 2, none⟩
  (.func (.func 43) #[] #[.pointer (some ⟨w5.heap.size + 1, 0, none⟩), .pointer (some ⟨w5.heap.size + 3, 0, none⟩), .pointer (some ⟨w5.heap.size + 2, 0, none⟩), .pointer (some ⟨w5.heap.size, 0, none⟩)]))) :=
  zh (((Mut.of_set w6 (w.heap.size + 1) _ _).trans (Mut.of_set _ (w.heap.size + 1) _ _)).trans (Mut.of_set _ (w.heap.size + 1) _ _))
 clear p0 p1 p2 z0 z1 z2 o0 o1
 have h5s := H5S.out
 have hg3 := HG3.out
 have h03 := H03.out
 have h0 := HB05.out.size
 have hb36 := HB35.out.trans (HB6.out.mono HB35.out.size)
 refine bodyPost_ret (retRow rfl _ _ (w.heap.size + 1) _ _ (0, 0) _ rfl HE.out Tryz.underlying33 rfl (by kernel_rfl)) rfl (HQ.out _ _ ⟨g3, w5.heap.size, w5.heap.size + 1, w5.heap.size + 2, w5.heap.size + 3, w3.heap.size, A', c', gf, rfl, ?_, HCR.out, (HB05.out.trans (HB6.out.mono h0)).trans (HM.out.below (by omega) (zM h0 HB6.out.size))⟩)
 refine ⟨(HRO5.out.below HB6.out HRO5.out.lt).mut HM.out (by omega), HQ0.out.mut HM.out (by omega), HQ1.out.mut HM.out (by omega), HQ2.out.mut HM.out (by omega), HQ3.out.mut HM.out (by omega), by omega, by omega, fun W' hsW hW => ?_⟩
 have h12 := H12.out
 have hs6 := HB6.out.size
 refine HF3.out W' hsW fun k h1 h2 => ?_
 rw [hW k (by omega) h2, HM.out.block k (by omega) (by omega)]
 exact hb36.block k h2
end
section
open Go.RowKit RM Go.Maps
def cntC (e l j : Int) : Array Value := #[.int .i64 e, .int .i64 l, .int .i64 j]
def MetAt (W : World) (gm gc : Nat) : Prop := RowAt W gm 76 #[.pointer (some ⟨gc, 0, none⟩)]
theorem new17_any (w : World) : Calls Tryz.prog 13 #[] w fun e w' => e = .returned (.pointer (some ⟨w.heap.size + 1, 0, none⟩)) ∧ MetAt w' (w.heap.size + 1) w.heap.size ∧ RowAt w' w.heap.size 74 (cntC 0 0 0) ∧ Below w.heap.size w w' := by
 obtain ⟨r0, r1, hb⟩ := two_rows w (cntC 0 0 0) #[.pointer (some ⟨w.heap.size, 0, none⟩)] 74 76
 refine cHid fun Q' hQ => ?_
 have HQ := zh hQ; clear hQ
 go_enter Tryz.func13, Tryz.ntmps13
 go_wp2_with fail
 exact HQ.out _ _ ⟨rfl, r1, r0, hb⟩
theorem active_any (gm gc : Nat) (w : World) (h : MetAt w gm gc) : Calls Tryz.prog 27 #[.pointer (some ⟨gm, 0, none⟩)] w fun e w' => e = .returned (.bool true) ∧ w = w' := by
 have c0 := (RowAt.cell h 0).trans (rfl : _ = some (Value.pointer (some ⟨gc, 0, none⟩)))
 clear h
 go_enter Tryz.func27, Tryz.ntmps27
 go_wp2_with fail
 go_ret
 exact ⟨rfl, rfl⟩
theorem wrap_any (gm gc : Nat) (F G H : FuncId) (a b c : Array Value) (w : World) (h : MetAt w gm gc) :
 Calls Tryz.prog 14 #[.pointer (some ⟨gm, 0, none⟩), .agg #[.func (.func F) #[] a, .func (.func G) #[] b, .func (.func H) #[] c]] w fun e w' => ∃ go gp, e = .returned (.agg #[.func (.func 28) #[] #[.pointer (some ⟨gp, 0, none⟩), .pointer (some ⟨go, 0, none⟩)], .func (.func 30) #[] #[.pointer (some ⟨gp, 0, none⟩), .pointer (some ⟨go, 0, none⟩)], .func (.func 31) #[] #[.pointer (some ⟨gp, 0, none⟩), .pointer (some ⟨go, 0, none⟩)]]) ∧
  RowAt w' go 33 #[.func (.func F) #[] a, .func (.func G) #[] b, .func (.func H) #[] c] ∧ RowAt w' gp 67 #[.pointer (some ⟨gc, 0, none⟩)] ∧ w.heap.size ≤ go ∧ w.heap.size ≤ gp ∧ Below w.heap.size w w' := by
 have hmf : ∀ (fn : Fn) (first cap : Array Value) (w : World), (Instr.makeFunc fn first cap).run Tryz.prog w = .ok (.func fn first cap) w := fun _ _ _ _ => rfl
 have hnot : ∀ (x : Bool) (w : World), (Op.unary .not (.bool x)).run Tryz.prog w = .ok (.bool (!x)) w := fun _ _ => rfl
 obtain ⟨r0, r1, hb⟩ := two_rows w #[.func (.func F) #[] a, .func (.func G) #[] b, .func (.func H) #[] c] #[.nilFunc, .nilFunc, .nilFunc] 33 33
 have HM := zh h
 have HW := zh (whole_any F G H a b c)
 refine cHid fun Q' hQ => ?_
 have HQ := zh hQ; clear hQ
 go_enter Tryz.func14, Tryz.ntmps14
 go_upto_region 1 with fail
 change Code.wp _ _ _ _ ((w.alloc (.cells #[.func (.func F) #[] a, .func (.func G) #[] b, .func (.func H) #[] c] 33)).alloc (.cells #[.nilFunc, .nilFunc, .nilFunc] 33))
 have hs1 : ((w.alloc (.cells #[.func (.func F) #[] a, .func (.func G) #[] b, .func (.func H) #[] c] 33)).alloc (.cells #[.nilFunc, .nilFunc, .nilFunc] 33)).heap.size = w.heap.size + 2 := by simp
 generalize ((w.alloc (.cells #[.func (.func F) #[] a, .func (.func G) #[] b, .func (.func H) #[] c] 33)).alloc (.cells #[.nilFunc, .nilFunc, .nilFunc] 33)) = w1 at *
 have HR0 := zh r0
 have HR1 := zh r1
 have HB1 := zh hb
 have HS1 := zh hs1
 obtain ⟨p0, p1, p2, _, _, _⟩ := rw3 r0
 clear r0 r1 hb hs1 h
 go_upto_region 2 with (go_at_call 26; refine (HW.out w1).mono ?_; rintro e w2 ⟨rfl, hb2⟩; have HB2 := zh hb2; clear hb2; have HR02 := zh (HR0.out.below HB2.out HR0.out.lt); obtain ⟨q0, q1, q2, z0, z1, z2⟩ := rw3 HR02.out)
 have HR03 : Hid (RowAt (((w2.setCell ⟨w.heap.size, 0, none⟩ (.func (.func F) #[] a)).setCell ⟨w.heap.size, 1, none⟩ (.func (.func G) #[] b)).setCell ⟨w.heap.size, 2, none⟩ (.func (.func H) #[] c)) w.heap.size 33 #[.func (.func F) #[] a, .func (.func G) #[] b, .func (.func H) #[] c]) := zh (((HR02.out.put 0 _).put 1 _).put 2 _)
 have HM3 : Hid (Mut w.heap.size w2 (((w2.setCell ⟨w.heap.size, 0, none⟩ (.func (.func F) #[] a)).setCell ⟨w.heap.size, 1, none⟩ (.func (.func G) #[] b)).setCell ⟨w.heap.size, 2, none⟩ (.func (.func H) #[] c))) := zh (((Mut.of_set w2 w.heap.size _ _).trans (Mut.of_set _ w.heap.size _ _)).trans (Mut.of_set _ w.heap.size _ _))
 generalize (((w2.setCell ⟨w.heap.size, 0, none⟩ (.func (.func F) #[] a)).setCell ⟨w.heap.size, 1, none⟩ (.func (.func G) #[] b)).setCell ⟨w.heap.size, 2, none⟩ (.func (.func H) #[] c)) = w3 at *
 have hs1 := HS1.out
 have hs2 := HB2.out.size
 have HB23 : Hid (Below w.heap.size w w2) := zh (HB1.out.trans (HB2.out.mono (by omega)))
 have HB3 : Hid (Below w.heap.size w w3) := zh (HB23.out.trans (HM3.out.below (zL _) HB23.out.size))
 have HR13 := zh ((HR1.out.below HB2.out HR1.out.lt).mut HM3.out (by omega))
 have hM3 : MetAt w3 gm gc := RowAt.below HM.out HB3.out (RowAt.lt HM.out)
 have hc3 := (RowAt.cell hM3 0).trans (rfl : _ = some (Value.pointer (some ⟨gc, 0, none⟩)))
 have HA := zh (active_any gm gc w3 hM3)
 clear q0 q1 q2 z0 z1 z2 p0 p1 p2 HR0 HR1 HR02 hM3 hs1 hs2 HB1 HB2 HM3 HB23
 obtain ⟨p0, p1, p2, z0, z1, z2⟩ := rw3 HR13.out
 have hl3 := HR13.out.lt
 go_wp2_with (go_at_call 27; refine HA.out.mono ?_; rintro e w4 ⟨rfl, rfl⟩)
 have HV1 : Hid (RowAt (((w3.setCell ⟨w.heap.size + 1, 0, none⟩ (.func (.func 28) #[] #[.pointer (some ⟨w3.heap.size, 0, none⟩), .pointer (some ⟨w.heap.size, 0, none⟩)])).setCell ⟨w.heap.size + 1, 1, none⟩ (.func (.func 30) #[] #[.pointer (some ⟨w3.heap.size, 0, none⟩), .pointer (some ⟨w.heap.size, 0, none⟩)])).setCell ⟨w.heap.size + 1, 2, none⟩ (.func (.func 31) #[] #[.pointer (some ⟨w3.heap.size, 0, none⟩), .pointer (some ⟨w.heap.size, 0, none⟩)])) (w.heap.size + 1) 33 #[(.func (.func 28) #[] #[.pointer (some ⟨w3.heap.size, 0, none⟩), .pointer (some ⟨w.heap.size, 0, none⟩)]), (.func (.func 30) #[] #[.pointer (some ⟨w3.heap.size, 0, none⟩), .pointer (some ⟨w.heap.size, 0, none⟩)]), (.func (.func 31) #[] #[.pointer (some ⟨w3.heap.size, 0, none⟩), .pointer (some ⟨w.heap.size, 0, none⟩)])]) := zh (((HR13.out.put 0 _).put 1 _).put 2 _)
 have HVM : Hid (Mut (w.heap.size + 1) w3 (((w3.setCell ⟨w.heap.size + 1, 0, none⟩ (.func (.func 28) #[] #[.pointer (some ⟨w3.heap.size, 0, none⟩), .pointer (some ⟨w.heap.size, 0, none⟩)])).setCell ⟨w.heap.size + 1, 1, none⟩ (.func (.func 30) #[] #[.pointer (some ⟨w3.heap.size, 0, none⟩), .pointer (some ⟨w.heap.size, 0, none⟩)])).setCell ⟨w.heap.size + 1, 2, none⟩ (.func (.func 31) #[] #[.pointer (some ⟨w3.heap.size, 0, none⟩), .pointer (some ⟨w.heap.size, 0, none⟩)]))) := zh (((Mut.of_set w3 (w.heap.size + 1) _ _).trans (Mut.of_set _ (w.heap.size + 1) _ _)).trans (Mut.of_set _ (w.heap.size + 1) _ _))
 have HVS : Hid ((((w3.setCell ⟨w.heap.size + 1, 0, none⟩ (.func (.func 28) #[] #[.pointer (some ⟨w3.heap.size, 0, none⟩), .pointer (some ⟨w.heap.size, 0, none⟩)])).setCell ⟨w.heap.size + 1, 1, none⟩ (.func (.func 30) #[] #[.pointer (some ⟨w3.heap.size, 0, none⟩), .pointer (some ⟨w.heap.size, 0, none⟩)])).setCell ⟨w.heap.size + 1, 2, none⟩ (.func (.func 31) #[] #[.pointer (some ⟨w3.heap.size, 0, none⟩), .pointer (some ⟨w.heap.size, 0, none⟩)])).heap.size = w3.heap.size) := zh (by simp [World.setCell])
 have HRV := zh (RowAt.new (((w3.setCell ⟨w.heap.size + 1, 0, none⟩ (.func (.func 28) #[] #[.pointer (some ⟨w3.heap.size, 0, none⟩), .pointer (some ⟨w.heap.size, 0, none⟩)])).setCell ⟨w.heap.size + 1, 1, none⟩ (.func (.func 30) #[] #[.pointer (some ⟨w3.heap.size, 0, none⟩), .pointer (some ⟨w.heap.size, 0, none⟩)])).setCell ⟨w.heap.size + 1, 2, none⟩ (.func (.func 31) #[] #[.pointer (some ⟨w3.heap.size, 0, none⟩), .pointer (some ⟨w.heap.size, 0, none⟩)])) 67 #[.pointer (some ⟨gc, 0, none⟩)])
 have h3 := HB3.out.size
 rw [HVS.out] at HRV
 clear p0 p1 p2 z0 z1 z2
 generalize (((w3.setCell ⟨w.heap.size + 1, 0, none⟩ (.func (.func 28) #[] #[.pointer (some ⟨w3.heap.size, 0, none⟩), .pointer (some ⟨w.heap.size, 0, none⟩)])).setCell ⟨w.heap.size + 1, 1, none⟩ (.func (.func 30) #[] #[.pointer (some ⟨w3.heap.size, 0, none⟩), .pointer (some ⟨w.heap.size, 0, none⟩)])).setCell ⟨w.heap.size + 1, 2, none⟩ (.func (.func 31) #[] #[.pointer (some ⟨w3.heap.size, 0, none⟩), .pointer (some ⟨w.heap.size, 0, none⟩)])) = v at *
 have hv := HVS.out
 refine bodyPost_ret (retRow rfl _ _ (w.heap.size + 1) _ _ (0, 0) _ rfl (HV1.out.alloc _) Tryz.underlying33 rfl (by kernel_rfl)) rfl (HQ.out _ _ ⟨w.heap.size, w3.heap.size, rfl, (HR03.out.mut HVM.out (by omega)).alloc _, HRV.out, zL _, h3, ?_⟩)
 exact (HB3.out.trans (HVM.out.below (by omega) h3)).alloc (by omega) _
theorem read_any17 (gm gc : Nat) (e l j : Int) (w : World) (h : MetAt w gm gc) (hc : RowAt w gc 74 (cntC e l j)) :
 Calls Tryz.prog 16 #[.pointer (some ⟨gm, 0, none⟩)] w fun x w' => x = .returned (.agg #[.int .i64 e, .int .i64 l, .int .i64 j]) ∧ Below w.heap.size w w' := by
 have hnot : ∀ (x : Bool) (w : World), (Op.unary .not (.bool x)).run Tryz.prog w = .ok (.bool (!x)) w := fun _ _ => rfl
 have r0 := RowAt.new w 52 (cntC 0 0 0)
 have hb : Below w.heap.size w (w.alloc (.cells (cntC 0 0 0) 52)) := (zB _ _).alloc (zL _) _
 have h1 : MetAt (w.alloc (.cells (cntC 0 0 0) 52)) gm gc := RowAt.below h hb (RowAt.lt h)
 have hc1 := hc.below hb hc.lt
 have HA := zh (active_any gm gc _ h1)
 refine cHid fun Q' hQ => ?_
 have HQ := zh hQ; clear hQ
 go_enter Tryz.func16, Tryz.ntmps16
 go_upto_region 1 with fail
 change Code.wp _ _ _ _ (w.alloc (.cells (cntC 0 0 0) 52))
 generalize (w.alloc (.cells (cntC 0 0 0) 52)) = w1 at *
 have hm0 := (RowAt.cell h1 0).trans (rfl : _ = some (Value.pointer (some ⟨gc, 0, none⟩)))
 have k0 := (RowAt.cell hc1 0).trans (rfl : _ = some (Value.int .i64 e))
 have k1 := (RowAt.cell hc1 1).trans (rfl : _ = some (Value.int .i64 l))
 have k2 := (RowAt.cell hc1 2).trans (rfl : _ = some (Value.int .i64 j))
 have HR0 := zh r0
 have HB := zh hb
 clear r0 hb h1 hc1 h hc
 obtain ⟨p0, p1, p2, z0, z1, z2⟩ := rw3 HR0.out
 have hlt := HR0.out.lt
 go_wp2_with (go_at_call 27; refine HA.out.mono ?_; rintro e w4 ⟨rfl, rfl⟩)
 refine wp_region_still_tail 22 (by kernel_rfl) (by kernel_rfl) ?_
 simp only [List.take_succ_cons, List.take_zero, List.drop_succ_cons, List.drop_zero]
 repeat still_step
 still_call (aLoad ⟨gc, 0, none⟩ e w1.drew k0)
 repeat still_step
 still_call (aLoad ⟨gc, 1, none⟩ l w1.drew k1)
 repeat still_step
 still_call (aLoad ⟨gc, 2, none⟩ j w1.drew k2)
 repeat still_step
 refine wpStill_nil ?_
 change wpList _ _ _ _ _ w1.drew
 have HRD : Hid (RowAt w1.drew w.heap.size 52 (cntC 0 0 0)) := HR0
 have HBD : Hid (Below w.heap.size w w1.drew) := zh (bdrewN HB.out 1)
 clear p0 p1 p2 z0 z1 z2 k0 k1 k2 hm0 HR0 HB HA
 generalize w1.drew = w5 at *
 obtain ⟨p0, p1, p2, z0, z1, z2⟩ := rw3 HRD.out
 go_wp2_with fail
 have HE : Hid (RowAt (((w5.setCell ⟨w.heap.size, 0, none⟩ (.int .i64 e)).setCell ⟨w.heap.size, 1, none⟩ (.int .i64 l)).setCell ⟨w.heap.size, 2, none⟩ (.int .i64 j)) w.heap.size 52 #[.int .i64 e, .int .i64 l, .int .i64 j]) := zh (((HRD.out.put 0 _).put 1 _).put 2 _)
 exact bodyPost_ret (retRow rfl _ _ w.heap.size _ _ (0, 0) _ rfl HE.out Tryz.underlying52 rfl (by kernel_rfl)) rfl (HQ.out _ _ ⟨rfl, ((HBD.out.setCell (p := ⟨w.heap.size, 0, none⟩) (zL _) _).setCell (p := ⟨w.heap.size, 1, none⟩) (zL _) _).setCell (p := ⟨w.heap.size, 2, none⟩) (zL _) _⟩)
end
section
open Go.RowKit RM Go.Maps
theorem runG_ew17 {J M : List Nat → List Nat → List Nat} (hJ : ∀ a b, EW a → EW b → EW (J a b)) (hM : ∀ a b, EW a → EW b → EW (M a b)) {v : List (List Nat)} (hv : ∀ e ∈ v, EW e) :
 ∀ (l : List In) (st : List (List Nat)) (sz mx m s : Nat) (st' : List (List Nat)), roomG l sz mx = some (m, s) → st.length = sz → (∀ e ∈ st, EW e) → runG J M v l st = some st' → (∀ e ∈ st', EW e) ∧ st'.length = s
 | [], st, sz, mx, m, s, st', h, hl, he, hr => by
   unfold roomG at h
   unfold runG at hr
   simp only [Option.some.injEq, Prod.mk.injEq] at h hr
   subst hr
   exact ⟨he, by omega⟩
 | i :: l, st, sz, mx, m, s, st', h, hl, he, hr => by
   unfold roomG at h
   unfold runG at hr
   by_cases h1 : i.op = 1
   ·rw [if_pos (.inl h1)] at h
    rw [if_pos h1] at hr
    split at hr
    ·rename_i hn
     refine runG_ew17 hJ hM hv l _ _ _ _ _ _ h (by rw [zA7, hl]; rfl) (fun e hm => ?_) hr
     rcases List.mem_append.1 hm with hm | hm
     ·exact he e hm
     ·rw [List.mem_singleton] at hm
      subst hm
      exact hv _ (eget_mem (by omega))
    ·cases hr
   ·rw [if_neg h1] at hr
    by_cases h2 : i.op = 2
    ·rw [if_pos (.inr h2)] at h
     rw [if_pos h2] at hr
     refine runG_ew17 hJ hM hv l _ _ _ _ _ _ h (by rw [zA7, hl]; rfl) (fun e hm => ?_) hr
     rcases List.mem_append.1 hm with hm | hm
     ·exact he e hm
     ·rw [List.mem_singleton] at hm
      subst hm
      exact i.e.2
    ·rw [if_neg (fun h => by rcases h with h | h <;> contradiction)] at h
     rw [if_neg h2] at hr
     split at h
     ·split at h
      ·cases h
      ·rename_i hn
       have hk : st.length - i.n.toNat + (i.n.toNat - 1) < st.length := by omega
       refine runG_ew17 hJ hM hv l _ _ _ _ _ _ h (by rw [repS_len _ _ (by omega)]; omega) ?_ hr
       split
       ·exact repS_ew hJ he hk
       ·exact repS_ew hM he hk
     ·cases h
theorem evG_ew17 (fs : List Fac) {v : List (List Nat)} (hv : ∀ e ∈ v, EW e) (l : List In) : EW ((evG fs v l).getD z8) := by
 unfold evG
 split
 ·rename_i hr
  cases hg : roomG l 0 0 with
  | none => rw [hg] at hr; cases hr
  | some r =>
    obtain ⟨m, s⟩ := r
    rw [hg] at hr
    have hs : s = 1 := by simpa [rgtB] using hr
    cases hrun : runG (joinE fs) meetE v l [] with
    | none => exact EW.zeros
    | some st =>
      have := runG_ew17 (fun a b ha hb => joinE_ew fs ha hb) (fun a b ha _ => meetE_ew b ha) hv l [] 0 0 m s st hg rfl (by simp) hrun
      exact this.1 _ (eget_mem (by omega))
 ·exact EW.zeros
def bmp (L : List Nat) (k : Nat) (s : Nat → Nat → Nat) : Nat → Nat → Nat := fun g j => s g j + (if j = k then L.count g else 0)
def smallC (L : List Nat) (s : Nat → Nat → Nat) : Prop := ∀ g k, s g k + L.length ≤ 1000000
theorem bmp_nil (k : Nat) (s : Nat → Nat → Nat) : bmp [] k s = s := by
 funext g j
 unfold bmp
 simp
theorem bmp_cons (g : Nat) (L : List Nat) (k : Nat) (s : Nat → Nat → Nat) : bmp (g :: L) k s = bmp L k (bmp [g] k s) := by
 funext h j
 unfold bmp
 by_cases e : j = k
 ·simp only [if_pos e, List.count_cons, List.count_nil]
  omega
 ·simp only [if_neg e]
theorem small_step {g : Nat} {L : List Nat} {k : Nat} {s : Nat → Nat → Nat} (h : smallC (g :: L) s) : smallC L (bmp [g] k s) := fun x j => by
 have := h x j
 rw [zA8] at this
 unfold bmp
 have h2 : (if j = k then List.count x [g] else 0) ≤ 1 := by
  split
  ·exact zM List.count_le_length (by simp)
  ·omega
 omega
structure Cx (W2 : World) (gow gs go gt gp : Nat) (t : Bool) (A : Option Addr) (c : Nat) (gf : List Fac) (Gs : List Nat) : Prop where
 own : RowAt W2 gow 24 (sv t A gf.length c)
 shp : RowAt W2 gs 24 (sv t A gf.length c)
 prep : RowAt W2 gp 1 #[.func (.func 41) #[] #[.pointer (some ⟨gs, 0, none⟩), .pointer (some ⟨gt, 0, none⟩)]]
 lt : go < W2.heap.size ∧ gt < W2.heap.size ∧ ∀ g ∈ Gs, g < W2.heap.size
 ne : ∀ k, (k = gow ∨ k = gs ∨ k = gp) → ¬ (k = go ∨ k = gt ∨ k ∈ Gs)
 apart : go ∉ Gs ∧ gt ∉ Gs ∧ go ≠ gt
 facs : ∀ W, But (fun k => k = go ∨ k = gt ∨ k ∈ Gs) W2 W → Facs W A gf
 tab : ∀ W, But (fun k => k = go ∨ k = gt ∨ k ∈ Gs) W2 W → Tab W
structure Ix (W2 : World) (go gt : Nat) (t : Bool) (gf : List Fac) (Gs : List Nat) (s : Nat → Nat → Nat) (W : World) : Prop where
 but : But (fun k => k = go ∨ k = gt ∨ k ∈ Gs) W2 W
 st : JSt W W2.heap.size go gt t gf
 cnt : ∀ g ∈ Gs, RowAt W g 74 (cntC (s g 0) (s g 1) (s g 2))
structure Opr (I : (Nat → Nat → Nat) → World → Prop) (M : Nat → Prop) (fs : List Fac) (L : List Nat) (F G H : FuncId) (a b c : Array Value) : Prop where
 okF : ∀ args w, (callFunc F args).run Tryz.prog w = .ok (.enter F args) w
 okG : ∀ args w, (callFunc G args).run Tryz.prog w = .ok (.enter G args) w
 okH : ∀ args w, (callFunc H args).run Tryz.prog w = .ok (.enter H args) w
 eval : ∀ s W LA lc (l : List In) VA vc v, I s W → smallC L s → l.length ≤ 1000000 → v.length ≤ 1000000 → (∀ e ∈ v, EW e) → (∀ W', But M W W' → Ls insC W' LA l) → (∀ W', But M W W' → Sl W' W'.heap.size VA (escells v)) →
  Calls Tryz.prog F (#[.slice LA l.length lc, .slice VA v.length vc] ++ a) W fun e W' => e = .returned (retE (evG fs v l)) ∧ I (bmp L 0 s) W' ∧ But M W W'
 leq : ∀ s W x y, I s W → smallC L s → EW x → EW y → Calls Tryz.prog G (#[.agg (uv x), .agg (uv y)] ++ b) W fun e W' => e = .returned (.bool (leqE x y)) ∧ I (bmp L 1 s) W' ∧ But M W W'
 join : ∀ s W x y, I s W → smallC L s → EW x → EW y → Calls Tryz.prog H (#[.agg (uv x), .agg (uv y)] ++ c) W fun e W' => e = .returned (.agg (uv (joinE fs x y))) ∧ I (bmp L 2 s) W' ∧ But M W W'
theorem Ix.kept {W2 : World} {go gt : Nat} {t : Bool} {gf : List Fac} {Gs : List Nat} {s : Nat → Nat → Nat} {W W' : World} (h : Ix W2 go gt t gf Gs s W) (hb : Below W.heap.size W W') : Ix W2 go gt t gf Gs s W' :=
 ⟨h.but.trans (But.of_below hb _), h.st.but (M := fun _ => False) (But.of_below hb _) (fun h => h) (fun h => h) (fun _ h => h.elim), fun g hg => (h.cnt g hg).below hb (h.cnt g hg).lt⟩
theorem cx_of {w0 W W2 : World} {b0 gow gs go gt gp b1 : Nat} {t : Bool} {A : Option Addr} {c : Nat} {gf : List Fac} {Gs : List Nat} (hT : Tab w0) (hA : OfAt W b0 gow gs go gt gp b1 t A c gf) (h0 : Below w0.heap.size w0 W2) (hW : Below W.heap.size W W2) (hb : w0.heap.size ≤ b0) (hG : ∀ g ∈ Gs, w0.heap.size ≤ g ∧ g < b0) :
 Cx W2 gow gs go gt gp t A c gf Gs := by
 have hle := hA.le
 have hne := hA.ne
 have hl1 := hA.once.lt
 have hl2 := hA.tabs.lt
 have hl3 := hA.own.lt
 have hs := hW.size
 refine ⟨hA.own.below hW hA.own.lt, hA.shp.below hW hA.shp.lt, hA.prep.below hW hA.prep.lt, ⟨by omega, by omega, fun g hg => by have := hG g hg; omega⟩, ?_, ⟨fun h => by have := hG _ h; omega, fun h => by have := hG _ h; omega, blk_apart hA.once hA.tabs (by decide)⟩, fun W' hb' => ?_, fun W' hb' => ?_⟩
 ·rintro k hk (h | h | h)
  ·omega
  ·omega
  ·have := hG k h
   omega
 ·refine hA.facs W' (by have := hb'.size; omega) fun k h1 h2 => ?_
  rw [hb'.block k (by omega) ?_, hW.block k (by omega)]
  rintro (h | h | h)
  ·omega
  ·omega
  ·have := hG k h
   omega
 ·refine hT.below (h0.trans (hb'.below ?_ h0.size))
  rintro k (h | h | h)
  ·omega
  ·omega
  ·exact (hG k h).1
theorem ix_start {W W2 : World} {b0 gow gs go gt gp b1 : Nat} {t : Bool} {A : Option Addr} {c : Nat} {gf : List Fac} {Gs : List Nat} {s : Nat → Nat → Nat} (hA : OfAt W b0 gow gs go gt gp b1 t A c gf) (hW : Below W.heap.size W W2) (hc : ∀ g ∈ Gs, RowAt W2 g 74 (cntC (s g 0) (s g 1) (s g 2))) : Ix W2 go gt t gf Gs s W2 :=
 ⟨But.refl _ _, .inl ⟨hA.once.below hW hA.once.lt, hA.tabs.below hW hA.tabs.lt⟩, hc⟩
theorem ofEval_any (t : Bool) (A : Option Addr) (c : Nat) (gf : List Fac) (gow : Nat) (LA : Option Addr) (lc : Nat) (l : List In) (VA : Option Addr) (vc : Nat) (v : List (List Nat)) (w : World) (hT : Tab w) (hF : Facs w A gf) (ho : RowAt w gow 24 (sv t A gf.length c))
 (hl : l.length ≤ 1000000) (hL : Ls insC w LA l) (hvl : v.length ≤ 1000000) (hV : Sl w w.heap.size VA (escells v)) (hE : ∀ e ∈ v, EW e) :
 Calls Tryz.prog 19 #[.slice LA l.length lc, .slice VA v.length vc, .pointer (some ⟨gow, 0, none⟩)] w fun e w' => e = .returned (retE (evG gf v l)) ∧ Below w.heap.size w w' := by
 have r0 := RowAt.new w 40 (uv z8)
 have hb : Below w.heap.size w (w.alloc (.cells (uv z8) 40)) := (zB _ _).alloc (zL _) _
 have hz : (w.alloc (.cells (uv z8) 40)).heap.size = w.heap.size + 1 := by simp
 have HEV := zh (codeEval_any t A c gf LA lc l VA vc v _ (hT.below hb) (hF.below hb) hl (hL.below hb) hvl ((hV.below hb).mono hb.size) hE)
 have HO := zh (ho.below hb ho.lt)
 refine cHid fun Q' hQ => ?_
 have HQ := zh hQ; clear hQ
 rw [← zero_z8] at r0 hb hz HEV HO
 go_enter Tryz.func19, Tryz.ntmps19
 go_upto_region 1 with fail
 rw [zero_z8] at r0 hb hz HEV HO ⊢
 change Code.wp _ _ _ _ (w.alloc (.cells (uv z8) 40))
 generalize w.alloc (.cells (uv z8) 40) = w1 at *
 have HR := zh r0
 have HB := zh hb
 have HEW : Hid (EW ((evG gf v l).getD z8)) := zh (evG_ew17 gf hE l)
 clear r0 hb hT hF ho hL hV hE
 have HS1 := zh hz; clear hz
 have hre : retE (evG gf v l) = .tuple #[.agg (uv ((evG gf v l).getD z8)), .bool (evG gf v l).isSome] := rfl
 rw [hre] at HEV HQ
 clear hre
 generalize (evG gf v l).getD z8 = e8 at *
 generalize (evG gf v l).isSome = bs at *
 generalize gf.length = n at *
 go_wp2_with (first
  | (refine wpList_loadShape (by rfl) _ rfl gow rfl _ _ _ _ HO.out ?_)
  | (go_at_call 20; refine HEV.out.mono ?_; rintro e w2 ⟨rfl, hb2⟩; have HB2 := zh hb2; clear hb2; have HR2 := zh (HR.out.below HB2.out HR.out.lt))
  | (refine wpList_storeElem (by rfl) _ _ rfl w.heap.size rfl e8 HEW.out rfl _ EW.zeros HR2.out ?_; intro w3 r3 he3))
 exact bodyPost_ret (ret2 rfl _ _ w.heap.size _ _ (0, 0) _ (.bool bs) rfl rfl r3 Tryz.underlying40 rfl (einfo HEW.out)) rfl (HQ.out _ _ ⟨rfl, (HB.out.trans (HB2.out.mono HB.out.size)).trans (he3.below (zL _))⟩)
end
section
open Go.RowKit RM Go.Maps
theorem JSt.elem {W W' : World} {lo go gt g : Nat} {t : Bool} {fs : List Fac} {cs : Array Value} {fr : Nat × Nat} {τ : TypeId} (h : JSt W lo go gt t fs) (hm : Mut g W W') (hg : W.heap[g]? = some (.cells cs τ fr)) (hτ : Fr τ) : JSt W' lo go gt t fs := by
 rcases h with ⟨h1, h2⟩ | h
 ·exact .inl ⟨h1.mut hm (blk_apart h1 hg (fun e => hτ.1 e.symm)), h2.mut hm (blk_apart h2 hg (fun e => hτ.2.1 e.symm))⟩
 ·exact .inr (h.elem hm hg hτ)
section
variable {W2 : World} {go gt : Nat} {t : Bool} {gf : List Fac} {Gs : List Nat} {s : Nat → Nat → Nat} {W W' : World}
theorem Ix.elem {g : Nat} {cs : Array Value} {fr : Nat × Nat} {τ : TypeId} (h : Ix W2 go gt t gf Gs s W) (hm : Mut g W W') (hg : W.heap[g]? = some (.cells cs τ fr)) (hτ : Fr τ) (hl : W2.heap.size ≤ g) : Ix W2 go gt t gf Gs s W' :=
 ⟨h.but.mut hm hl, h.st.elem hm hg hτ, fun x hx => (h.cnt x hx).mut hm (blk_apart (h.cnt x hx) hg (fun e => hτ.2.2.2.2.2 e.symm))⟩
theorem cnt_put (e l j : Int) (k : Nat) (x : Int) : (cntC e l j).setIfInBounds k (.int .i64 x) = if k = 0 then cntC x l j else if k = 1 then cntC e x j else if k = 2 then cntC e l x else cntC e l j := by
 match k with
 | 0 => rfl
 | 1 => rfl
 | 2 => rfl
 | k + 3 => rfl
theorem Ix.set (h : Ix W2 go gt t gf Gs s W) (hgo : go ∉ Gs) (hgt : gt ∉ Gs) (hl : ∀ g ∈ Gs, g < W2.heap.size) {gc k : Nat} (hg : gc ∈ Gs) (hk : k < 3) :
 Ix W2 go gt t gf Gs (bmp [gc] k s) (W.setCell ⟨gc, k, none⟩ (.int .i64 ((s gc k + 1 : Nat) : Int))) := by
 have hb : But (fun x => x = gc) W (W.setCell ⟨gc, k, none⟩ (.int .i64 ((s gc k + 1 : Nat) : Int))) := But.set W gc k _ rfl
 refine ⟨h.but.trans (hb.mono fun x hx => .inr (.inr (hx ▸ hg))), h.st.but hb (fun e => hgo (e ▸ hg)) (fun e => hgt (e ▸ hg)) (fun x hx => hx ▸ hl gc hg), fun x hx => ?_⟩
 by_cases e : x = gc
 ·subst e
  have := (h.cnt x hx).put k (.int .i64 ((s x k + 1 : Nat) : Int))
  rw [cnt_put] at this
  have e1 : ∀ j, bmp [x] k s x j = if j = k then s x k + 1 else s x j := fun j => by
   unfold bmp
   by_cases h1 : j = k
   ·subst h1; simp
   ·simp [h1]
  rw [e1, e1, e1]
  match k, hk with
  | 0, _ => simpa using this
  | 1, _ => simpa using this
  | 2, _ => simpa using this
 ·have := (h.cnt x hx).far (p := ⟨gc, k, none⟩) (fun h => e h.symm) (.int .i64 ((s gc k + 1 : Nat) : Int))
  have e1 : ∀ j, bmp [gc] k s x j = s x j := fun j => by
   unfold bmp
   have : List.count x [gc] = 0 := by
        rw [List.count_cons, List.count_nil]
        simp
        exact fun h => e h.symm
   rw [this]
   simp
  rw [e1, e1, e1]
  exact this
end
structure WrAt (W2 : World) (gp go gc : Nat) (F G H : FuncId) (a b c : Array Value) (M : Nat → Prop) : Prop where
 cnt : RowAt W2 gp 67 #[.pointer (some ⟨gc, 0, none⟩)]
 ops : RowAt W2 go 33 #[.func (.func F) #[] a, .func (.func G) #[] b, .func (.func H) #[] c]
 ne : ¬ M gp ∧ ¬ M go
theorem wleq_any {W2 : World} {gow gs go gt gp : Nat} {t : Bool} {A : Option Addr} {c : Nat} {gf fs : List Fac} {Gs L : List Nat} (hC : Cx W2 gow gs go gt gp t A c gf Gs) {F G H : FuncId} {a b d : Array Value} (hO : Opr (Ix W2 go gt t gf Gs) (fun k => k = go ∨ k = gt ∨ k ∈ Gs) fs L F G H a b d)
 {qp qo gc : Nat} (hg : gc ∈ Gs) (hW : WrAt W2 qp qo gc F G H a b d (fun k => k = go ∨ k = gt ∨ k ∈ Gs)) (s : Nat → Nat → Nat) (W : World) (x y : List Nat) (hI : Ix W2 go gt t gf Gs s W) (hs : smallC (gc :: L) s) (hx : EW x) (hy : EW y) :
 Calls Tryz.prog 30 #[.agg (uv x), .agg (uv y), .pointer (some ⟨qp, 0, none⟩), .pointer (some ⟨qo, 0, none⟩)] W fun e W' => e = .returned (.bool (leqE x y)) ∧ Ix W2 go gt t gf Gs (bmp (gc :: L) 1 s) W' ∧ But (fun k => k = go ∨ k = gt ∨ k ∈ Gs) W W' := by
 obtain ⟨r0, r1, hb⟩ := two_rows W (uv x) (uv y) 40 40
 have hlt : gc < W2.heap.size := hC.lt.2.2 gc hg
 have hsz := hI.but.size
 have hI1 := hI.kept hb
 refine cHid fun Q' hQ => ?_
 have HQ := zh hQ; clear hQ
 go_enter Tryz.func30, Tryz.ntmps30
 go_upto_region 1 with fail
 change Code.wp _ _ _ _ ((W.alloc (.cells (uv x) 40)).alloc (.cells (uv y) 40))
 generalize ((W.alloc (.cells (uv x) 40)).alloc (.cells (uv y) 40)) = W1 at *
 have hc1 := ((hW.cnt.but hI1.but hW.ne.1).cell 0).trans (rfl : _ = some (Value.pointer (some ⟨gc, 0, none⟩)))
 have hrc := hI1.cnt gc hg
 obtain ⟨z, hz⟩ : ∃ z : Nat, z = s gc 1 + 1 := ⟨_, rfl⟩
 have HAD := zh (aAdd ⟨gc, 1, none⟩ ((s gc 1 : Nat) : Int) (z : Int) W1 (by have := hs gc 1; rw [IntWalk.i64_in _ ⟨by omega, by omega⟩, hz]; rfl) ((hrc.cell 1).trans rfl) (hrc.free 1))
 have HI2 : Hid (Ix W2 go gt t gf Gs (bmp [gc] 1 s) (W1.setCell ⟨gc, 1, none⟩ (.int .i64 (z : Int)))) := zh (by rw [hz]; exact hI1.set hC.apart.1 hC.apart.2.1 hC.lt.2.2 hg (k := 1) (by omega))
 clear hz
 have HB2 : Hid (But (fun k => k = go ∨ k = gt ∨ k ∈ Gs) W1 (W1.setCell ⟨gc, 1, none⟩ (.int .i64 (z : Int)))) := zh (But.set W1 gc 1 _ (.inr (.inr hg)))
 have HR0 : Hid (RowAt (W1.setCell ⟨gc, 1, none⟩ (.int .i64 (z : Int))) W.heap.size 40 (uv x)) := zh (r0.far (p := ⟨gc, 1, none⟩) (by show gc ≠ _; omega) _)
 have HR1 : Hid (RowAt (W1.setCell ⟨gc, 1, none⟩ (.int .i64 (z : Int))) (W.heap.size + 1) 40 (uv y)) := zh (r1.far (p := ⟨gc, 1, none⟩) (by show gc ≠ _; omega) _)
 have HB1 := zh (But.of_below hb (fun k => k = go ∨ k = gt ∨ k ∈ Gs))
 have HX := zh hx
 have HY := zh hy
 have HS2 := zh (small_step (k := 1) hs)
 have HO := zh hO
 have HW := zh hW
 have hG := hO.okG
 clear hO hW r0 r1 hb hrc hI hI1 hs hx hy hsz hlt
 go_upto_region 2 with (go_at_call 29; refine HAD.out.mono ?_; rintro e w' ⟨rfl, rfl⟩)
 generalize (W1.setCell ⟨gc, 1, none⟩ (.int .i64 (z : Int))) = W3 at *
 have hq := (HW.out.ops.but HI2.out.but HW.out.ne.2).cell
 have q1 := (hq 1).trans (rfl : _ = some (Value.func (.func G) #[] b))
 have HCL := zh (HO.out.leq _ W3 x y HI2.out HS2.out HX.out HY.out)
 clear hq hc1 HAD
 go_wp2_with (first
  | (refine wpList_loadElem (by rfl) _ rfl W.heap.size rfl x HX.out HR0.out ?_)
  | (refine wpList_loadElem (by rfl) _ rfl (W.heap.size + 1) rfl y HY.out HR1.out ?_)
  | (refine HCL.out.mono ?_; rintro e w4 ⟨rfl, hi4, hb4⟩; have HI4 := zh hi4; have HB4 := zh hb4; clear hi4 hb4))
 exact HQ.out _ _ ⟨rfl, by rw [bmp_cons]; exact HI4.out, (HB1.out.trans HB2.out).trans HB4.out⟩
theorem wjoin_any {W2 : World} {gow gs go gt gp : Nat} {t : Bool} {A : Option Addr} {c : Nat} {gf fs : List Fac} {Gs L : List Nat} (hC : Cx W2 gow gs go gt gp t A c gf Gs) {F G H : FuncId} {a b d : Array Value} (hO : Opr (Ix W2 go gt t gf Gs) (fun k => k = go ∨ k = gt ∨ k ∈ Gs) fs L F G H a b d)
 {qp qo gc : Nat} (hg : gc ∈ Gs) (hW : WrAt W2 qp qo gc F G H a b d (fun k => k = go ∨ k = gt ∨ k ∈ Gs)) (s : Nat → Nat → Nat) (W : World) (x y : List Nat) (hI : Ix W2 go gt t gf Gs s W) (hs : smallC (gc :: L) s) (hx : EW x) (hy : EW y) :
 Calls Tryz.prog 31 #[.agg (uv x), .agg (uv y), .pointer (some ⟨qp, 0, none⟩), .pointer (some ⟨qo, 0, none⟩)] W fun e W' => e = .returned (.agg (uv (joinE fs x y))) ∧ Ix W2 go gt t gf Gs (bmp (gc :: L) 2 s) W' ∧ But (fun k => k = go ∨ k = gt ∨ k ∈ Gs) W W' := by
 obtain ⟨r0, r1, r2, hb⟩ := three_rows W (uv x) (uv y) (uv (List.replicate 8 0)) 40 40 40
 have hlt : gc < W2.heap.size := hC.lt.2.2 gc hg
 have hsz := hI.but.size
 have hI1 := hI.kept hb
 refine cHid fun Q' hQ => ?_
 have HQ := zh hQ; clear hQ
 rw [← zero_elem] at r0 r1 r2 hb hI1
 go_enter Tryz.func31, Tryz.ntmps31
 go_upto_region 1 with fail
 rw [zero_elem] at r0 r1 r2 hb hI1 ⊢
 change Code.wp _ _ _ _ (((W.alloc (.cells (uv x) 40)).alloc (.cells (uv y) 40)).alloc (.cells (uv (List.replicate 8 0)) 40))
 generalize (((W.alloc (.cells (uv x) 40)).alloc (.cells (uv y) 40)).alloc (.cells (uv (List.replicate 8 0)) 40)) = W1 at *
 have hc1 := ((hW.cnt.but hI1.but hW.ne.1).cell 0).trans (rfl : _ = some (Value.pointer (some ⟨gc, 0, none⟩)))
 have hrc := hI1.cnt gc hg
 obtain ⟨z, hz⟩ : ∃ z : Nat, z = s gc 2 + 1 := ⟨_, rfl⟩
 have HAD := zh (aAdd ⟨gc, 2, none⟩ ((s gc 2 : Nat) : Int) (z : Int) W1 (by have := hs gc 2; rw [IntWalk.i64_in _ ⟨by omega, by omega⟩, hz]; rfl) ((hrc.cell 2).trans rfl) (hrc.free 2))
 have HI2 : Hid (Ix W2 go gt t gf Gs (bmp [gc] 2 s) (W1.setCell ⟨gc, 2, none⟩ (.int .i64 (z : Int)))) := zh (by rw [hz]; exact hI1.set hC.apart.1 hC.apart.2.1 hC.lt.2.2 hg (k := 2) (by omega))
 clear hz
 have HB2 : Hid (But (fun k => k = go ∨ k = gt ∨ k ∈ Gs) W1 (W1.setCell ⟨gc, 2, none⟩ (.int .i64 (z : Int)))) := zh (But.set W1 gc 2 _ (.inr (.inr hg)))
 have HR0 : Hid (RowAt (W1.setCell ⟨gc, 2, none⟩ (.int .i64 (z : Int))) W.heap.size 40 (uv x)) := zh (r0.far (p := ⟨gc, 2, none⟩) (by show gc ≠ _; omega) _)
 have HR1 : Hid (RowAt (W1.setCell ⟨gc, 2, none⟩ (.int .i64 (z : Int))) (W.heap.size + 1) 40 (uv y)) := zh (r1.far (p := ⟨gc, 2, none⟩) (by show gc ≠ _; omega) _)
 have HR2 : Hid (RowAt (W1.setCell ⟨gc, 2, none⟩ (.int .i64 (z : Int))) (W.heap.size + 2) 40 (uv (List.replicate 8 0))) := zh (r2.far (p := ⟨gc, 2, none⟩) (by show gc ≠ _; omega) _)
 have HEJ := zh (joinE_ew fs hx hy)
 have HM2 : Hid (¬ (W.heap.size + 2 = go ∨ W.heap.size + 2 = gt ∨ W.heap.size + 2 ∈ Gs)) := zh (by
  rintro (h | h | h)
  ·have := hC.lt.1; omega
  ·have := hC.lt.2.1; omega
  ·have := hC.lt.2.2 _ h; omega)
 have HSZ := zh (zM hsz (Nat.le_add_right W.heap.size 2))
 have HB1 := zh (But.of_below hb (fun k => k = go ∨ k = gt ∨ k ∈ Gs))
 have HX := zh hx
 have HY := zh hy
 have HS2 := zh (small_step (k := 2) hs)
 have HO := zh hO
 have HW := zh hW
 have hG := hO.okH
 clear hO hW r0 r1 r2 hb hrc hI hI1 hs hx hy hsz hlt
 go_upto_region 2 with (go_at_call 29; refine HAD.out.mono ?_; rintro e w' ⟨rfl, rfl⟩)
 generalize (W1.setCell ⟨gc, 2, none⟩ (.int .i64 (z : Int))) = W3 at *
 have hq := (HW.out.ops.but HI2.out.but HW.out.ne.2).cell
 have q1 := (hq 2).trans (rfl : _ = some (Value.func (.func H) #[] d))
 have HCL := zh (HO.out.join _ W3 x y HI2.out HS2.out HX.out HY.out)
 clear hq hc1 HAD
 generalize joinE fs x y = jz at *
 go_wp2_with (first
  | (refine wpList_loadElem (by rfl) _ rfl W.heap.size rfl x HX.out HR0.out ?_)
  | (refine wpList_loadElem (by rfl) _ rfl (W.heap.size + 1) rfl y HY.out HR1.out ?_)
  | (refine HCL.out.mono ?_; rintro e w4 ⟨rfl, hi4, hb4⟩; have HI4 := zh hi4; have HB4 := zh hb4; clear hi4 hb4; have HR24 := zh (HR2.out.but HB4.out HM2.out))
  | (refine wpList_storeElem (by rfl) _ _ rfl (W.heap.size + 2) rfl jz HEJ.out rfl _ EW.zeros HR24.out ?_; intro w5 r5 he5))
 have hm5 := Mut.of_else he5
 exact bodyPost_ret (retRow rfl _ _ (W.heap.size + 2) _ _ (0, 0) _ rfl r5 Tryz.underlying40 rfl (einfo HEJ.out)) rfl (HQ.out _ _ ⟨rfl, by rw [bmp_cons]; exact HI4.out.elem hm5 HR24.out Fr.elem HSZ.out, ((HB1.out.trans HB2.out).trans HB4.out).mut hm5 (by omega)⟩)
theorem weval_any {W2 : World} {gow gs go gt gp : Nat} {t : Bool} {A : Option Addr} {c : Nat} {gf fs : List Fac} {Gs L : List Nat} (hC : Cx W2 gow gs go gt gp t A c gf Gs) {F G H : FuncId} {a b d : Array Value} (hO : Opr (Ix W2 go gt t gf Gs) (fun k => k = go ∨ k = gt ∨ k ∈ Gs) fs L F G H a b d)
 {qp qo gc : Nat} (hg : gc ∈ Gs) (hW : WrAt W2 qp qo gc F G H a b d (fun k => k = go ∨ k = gt ∨ k ∈ Gs)) (s : Nat → Nat → Nat) (W : World) (LA : Option Addr) (lc : Nat) (l : List In) (VA : Option Addr) (vc : Nat) (v : List (List Nat)) (hI : Ix W2 go gt t gf Gs s W) (hs : smallC (gc :: L) s) (hl : l.length ≤ 1000000) (hvl : v.length ≤ 1000000) (hE : ∀ e ∈ v, EW e) (hL : ∀ W', But (fun k => k = go ∨ k = gt ∨ k ∈ Gs) W W' → Ls insC W' LA l) (hV : ∀ W', But (fun k => k = go ∨ k = gt ∨ k ∈ Gs) W W' → Sl W' W'.heap.size VA (escells v)) :
 Calls Tryz.prog 28 #[.slice LA l.length lc, .slice VA v.length vc, .pointer (some ⟨qp, 0, none⟩), .pointer (some ⟨qo, 0, none⟩)] W fun e W' => e = .returned (retE (evG fs v l)) ∧ Ix W2 go gt t gf Gs (bmp (gc :: L) 0 s) W' ∧ But (fun k => k = go ∨ k = gt ∨ k ∈ Gs) W W' := by
 have r0 := RowAt.new W 40 (uv z8)
 have hb : Below W.heap.size W (W.alloc (.cells (uv z8) 40)) := (zB _ _).alloc (zL _) _
 have hrz : W.heap.size ≤ W.heap.size := zL _
 have hlt : gc < W2.heap.size := hC.lt.2.2 gc hg
 have hsz := hI.but.size
 have hI1 := hI.kept hb
 refine cHid fun Q' hQ => ?_
 have HQ := zh hQ; clear hQ
 rw [← zero_z8] at r0 hb hI1
 go_enter Tryz.func28, Tryz.ntmps28
 go_upto_region 1 with fail
 rw [zero_z8] at r0 hb hI1 ⊢
 change Code.wp _ _ _ _ (W.alloc (.cells (uv z8) 40))
 generalize W.alloc (.cells (uv z8) 40) = W1 at *
 have hc1 := ((hW.cnt.but hI1.but hW.ne.1).cell 0).trans (rfl : _ = some (Value.pointer (some ⟨gc, 0, none⟩)))
 have hrc := hI1.cnt gc hg
 obtain ⟨z, hz⟩ : ∃ z : Nat, z = s gc 0 + 1 := ⟨_, rfl⟩
 have HAD := zh (aAdd ⟨gc, 0, none⟩ ((s gc 0 : Nat) : Int) (z : Int) W1 (by have := hs gc 0; rw [IntWalk.i64_in _ ⟨by omega, by omega⟩, hz]; rfl) ((hrc.cell 0).trans rfl) (hrc.free 0))
 have HI2 : Hid (Ix W2 go gt t gf Gs (bmp [gc] 0 s) (W1.setCell ⟨gc, 0, none⟩ (.int .i64 (z : Int)))) := zh (by rw [hz]; exact hI1.set hC.apart.1 hC.apart.2.1 hC.lt.2.2 hg (k := 0) (by omega))
 clear hz
 have HB2 : Hid (But (fun k => k = go ∨ k = gt ∨ k ∈ Gs) W1 (W1.setCell ⟨gc, 0, none⟩ (.int .i64 (z : Int)))) := zh (But.set W1 gc 0 _ (.inr (.inr hg)))
 have HR0 : Hid (RowAt (W1.setCell ⟨gc, 0, none⟩ (.int .i64 (z : Int))) W.heap.size 40 (uv z8)) := zh (r0.far (p := ⟨gc, 0, none⟩) (by show gc ≠ _; omega) _)
 have HB1 := zh (But.of_below hb (fun k => k = go ∨ k = gt ∨ k ∈ Gs))
 have HEW := zh (evG_ew17 fs hE l)
 have HLL := zh (And.intro hl hvl)
 have HEE := zh hE
 have HL : Hid (∀ W', But (fun k => k = go ∨ k = gt ∨ k ∈ Gs) W W' → Ls insC W' LA l) := zh hL
 have HV : Hid (∀ W', But (fun k => k = go ∨ k = gt ∨ k ∈ Gs) W W' → Sl W' W'.heap.size VA (escells v)) := zh hV
 have HM0 : Hid (¬ (W.heap.size = go ∨ W.heap.size = gt ∨ W.heap.size ∈ Gs)) := zh (by
  rintro (h | h | h)
  ·have := hC.lt.1; omega
  ·have := hC.lt.2.1; omega
  ·have := hC.lt.2.2 _ h; omega)
 have HSZ := zh hsz
 have HS2 := zh (small_step (k := 0) hs)
 have HO := zh hO
 have HW := zh hW
 have hG := hO.okF
 clear hO hW r0 hb hrc hI hI1 hs hl hvl hE hL hV hsz hlt hrz
 go_upto_region 2 with (go_at_call 29; refine HAD.out.mono ?_; rintro e w' ⟨rfl, rfl⟩)
 generalize (W1.setCell ⟨gc, 0, none⟩ (.int .i64 (z : Int))) = W3 at *
 have hq := (HW.out.ops.but HI2.out.but HW.out.ne.2).cell
 have q1 := (hq 0).trans (rfl : _ = some (Value.func (.func F) #[] a))
 have HB12 := zh (HB1.out.trans HB2.out)
 have hcl := HO.out.eval _ W3 LA lc l VA vc v HI2.out HS2.out HLL.out.1 HLL.out.2 HEE.out (fun W' h => HL.out W' (HB12.out.trans h)) (fun W' h => HV.out W' (HB12.out.trans h))
 have hre : retE (evG fs v l) = .tuple #[.agg (uv ((evG fs v l).getD z8)), .bool (evG fs v l).isSome] := rfl
 rw [hre] at hcl HQ
 have HCL := zh hcl
 clear hre hcl HLL HL HV HEE
 generalize (evG fs v l).getD z8 = e8 at *
 generalize (evG fs v l).isSome = bs at *
 generalize l.length = ln at *
 generalize v.length = vn at *
 clear hq hc1 HAD
 go_wp2_with (first
  | (refine HCL.out.mono ?_; rintro e w4 ⟨rfl, hi4, hb4⟩; have HI4 := zh hi4; have HB4 := zh hb4; clear hi4 hb4; have HR24 := zh (HR0.out.but HB4.out HM0.out))
  | (refine wpList_storeElem (by rfl) _ _ rfl W.heap.size rfl e8 HEW.out rfl _ EW.zeros HR24.out ?_; intro w5 r5 he5))
 have hm5 := Mut.of_else he5
 exact bodyPost_ret (ret2 rfl _ _ W.heap.size _ _ (0, 0) _ (.bool bs) rfl rfl r5 Tryz.underlying40 rfl (einfo HEW.out)) rfl (HQ.out _ _ ⟨rfl, by rw [bmp_cons]; exact HI4.out.elem hm5 HR24.out Fr.elem HSZ.out, (HB12.out.trans HB4.out).mut hm5 (by omega)⟩)
theorem bnd_0 : ∀ g k, (fun _ _ => 0 : Nat → Nat → Nat) g k ≤ 0 := fun _ _ => zL _
theorem bnd_bmp {s : Nat → Nat → Nat} {N : Nat} (h : ∀ g k, s g k ≤ N) (L : List Nat) (k : Nat) : ∀ g j, bmp L k s g j ≤ N + L.length := fun g j => by
 have h1 := h g j
 unfold bmp
 split
 ·have h2 : L.count g ≤ L.length := List.count_le_length
  omega
 ·omega
theorem small_bnd {s : Nat → Nat → Nat} {N : Nat} (h : ∀ g k, s g k ≤ N) {L : List Nat} (hN : N + L.length ≤ 1000000) : smallC L s := fun g k => by
 have := h g k
 omega
theorem opr_wrap {W2 : World} {gow gs go gt gp : Nat} {t : Bool} {A : Option Addr} {c : Nat} {gf fs : List Fac} {Gs L : List Nat} (hC : Cx W2 gow gs go gt gp t A c gf Gs) {F G H : FuncId} {a b d : Array Value} (hO : Opr (Ix W2 go gt t gf Gs) (fun k => k = go ∨ k = gt ∨ k ∈ Gs) fs L F G H a b d)
 {qp qo gc : Nat} (hg : gc ∈ Gs) (hW : WrAt W2 qp qo gc F G H a b d (fun k => k = go ∨ k = gt ∨ k ∈ Gs)) :
 Opr (Ix W2 go gt t gf Gs) (fun k => k = go ∨ k = gt ∨ k ∈ Gs) fs (gc :: L) 28 30 31 #[.pointer (some ⟨qp, 0, none⟩), .pointer (some ⟨qo, 0, none⟩)] #[.pointer (some ⟨qp, 0, none⟩), .pointer (some ⟨qo, 0, none⟩)] #[.pointer (some ⟨qp, 0, none⟩), .pointer (some ⟨qo, 0, none⟩)] where
 okF := fun _ _ => by kernel_rfl
 okG := fun _ _ => by kernel_rfl
 okH := fun _ _ => by kernel_rfl
 eval := fun s W LA lc l VA vc v hI hs hl hvl hE hL hV => weval_any hC hO hg hW s W LA lc l VA vc v hI hs hl hvl hE hL hV
 leq := fun s W x y hI hs hx hy => wleq_any hC hO hg hW s W x y hI hs hx hy
 join := fun s W x y hI hs hx hy => wjoin_any hC hO hg hW s W x y hI hs hx hy
end
section
open Go.RowKit RM Go.Maps
structure OpX where
 kind : Int
 LA : Option Addr
 lc : Nat
 l : List In
 VA : Option Addr
 vc : Nat
 v : List (List Nat)
 a : {l : List Nat // EW l}
 b : {l : List Nat // EW l}
def opxC (x : OpX) : List Value := .int .i64 x.kind :: .slice x.LA x.l.length x.lc :: .slice x.VA x.v.length x.vc :: (ucells x.a.1 ++ ucells x.b.1)
theorem opxC_len (x : OpX) : (opxC x).length = 19 := by
 unfold opxC
 simp [ucells_length, x.a.2.1, x.b.2.1]
def opx0 : OpX := ⟨0, none, 0, [], none, 0, [], ⟨List.replicate 8 0, EW.zeros⟩, ⟨List.replicate 8 0, EW.zeros⟩⟩
structure OpxOk (W : World) (x : OpX) : Prop where
 ins : Ls insC W x.LA x.l
 els : Sl W W.heap.size x.VA (escells x.v)
 ew : ∀ e ∈ x.v, EW e
theorem OpxOk.below {W W' : World} {x : OpX} (h : OpxOk W x) (hb : Below W.heap.size W W') : OpxOk W' x := ⟨h.ins.below hb, (h.els.below hb).mono hb.size, h.ew⟩
def gotC (p : List Nat × Bool) : Array Value := (ucells p.1 ++ [Value.bool p.2]).toArray
theorem gotC_size {p : List Nat × Bool} (h : EW p.1) : (gotC p).size = 9 := by simp [gotC, ucells_length, h.1]
theorem gotC_one (p : List Nat × Bool) : (gotC p).all (·.oneCell') = true := by simp [gotC, ucells, Value.oneCell']
theorem infoGot {p : List Nat × Bool} (h : EW p.1) : (Tryz.prog.info? 44).map (·.size) = some (gotC p).size := by rw [gotC_size h]; kernel_rfl
def ansX (fs : List Fac) (x : OpX) : List Nat × Bool := if x.kind = 1 then (z8, leqE x.a.1 x.b.1) else if x.kind = 2 then (joinE fs x.a.1 x.b.1, false) else ((evG fs x.v x.l).getD z8, (evG fs x.v x.l).isSome)
def knd (x : OpX) : Nat := if x.kind = 1 then 1 else if x.kind = 2 then 2 else 0
theorem ansX_ew (fs : List Fac) (x : OpX) (hv : ∀ e ∈ x.v, EW e) : EW (ansX fs x).1 := by
 unfold ansX
 split
 ·exact EW.zeros
 ·split
  ·exact joinE_ew fs x.a.2 x.b.2
  ·exact evG_ew17 fs hv x.l
theorem opx_cells {w : World} {g : Nat} {x : OpX} (h : RowAt w g 42 (opxC x).toArray) : w.cell? ⟨g, 0, none⟩ = some (.int .i64 x.kind) ∧ w.cell? ⟨g, 1, none⟩ = some (.slice x.LA x.l.length x.lc) ∧ w.cell? ⟨g, 2, none⟩ = some (.slice x.VA x.v.length x.vc) ∧ w.rangeAt g 3 (ucells x.a.1) ∧ w.rangeAt g 11 (ucells x.b.1) := by
 refine ⟨(h.cell 0).trans rfl, (h.cell 1).trans rfl, (h.cell 2).trans rfl, h.range 3 _ fun j u hu => ?_, h.range 11 _ fun j u hu => ?_⟩
 ·have hj : j < (ucells x.a.1).length := (List.getElem?_eq_some_iff.1 hu).1
  unfold opxC
  rw [zA1, show 3 + j = j + 3 by omega]
  simp only [zA2]
  rw [List.getElem?_append_left hj]
  exact hu
 ·have h8 : (ucells x.a.1).length = 8 := by rw [ucells_length]; exact x.a.2.1
  unfold opxC
  rw [zA1, show 11 + j = (8 + j) + 3 by omega]
  simp only [zA2]
  rw [List.getElem?_append_right (by omega), h8, show 8 + j - 8 = j by omega]
  exact hu
theorem ew_lit {e : List Nat} (h : EW e) : ∃ e0 e1 e2 e3 e4 e5 e6 e7, e = [e0, e1, e2, e3, e4, e5, e6, e7] := by
 obtain ⟨hl, _⟩ := h
 match e, hl with
 | [e0, e1, e2, e3, e4, e5, e6, e7], _ => exact ⟨_, _, _, _, _, _, _, _, rfl⟩
theorem Fr.got : Fr 44 := by unfold Fr; decide
theorem do_any {W2 : World} {gow gs go gt gp : Nat} {t : Bool} {A : Option Addr} {c : Nat} {gf fs : List Fac} {Gs L : List Nat} (hC : Cx W2 gow gs go gt gp t A c gf Gs) {F G H : FuncId} {a b d : Array Value} (hO : Opr (Ix W2 go gt t gf Gs) (fun k => k = go ∨ k = gt ∨ k ∈ Gs) fs L F G H a b d)
 (x : OpX) (hl : x.l.length ≤ 1000000) (hvl : x.v.length ≤ 1000000) (s : Nat → Nat → Nat) (W : World) (hI : Ix W2 go gt t gf Gs s W) (hs : smallC L s) (hX : ∀ W', But (fun k => k = go ∨ k = gt ∨ k ∈ Gs) W W' → OpxOk W' x) :
 Calls Tryz.prog 11 #[.agg #[.func (.func F) #[] a, .func (.func G) #[] b, .func (.func H) #[] d], .agg (opxC x).toArray] W fun e W' => e = .returned (.agg (gotC (ansX fs x))) ∧ Ix W2 go gt t gf Gs (bmp L (knd x) s) W' ∧ But (fun k => k = go ∨ k = gt ∨ k ∈ Gs) W W' := by
 obtain ⟨r0, r1, r2, hb⟩ := three_rows W #[.func (.func F) #[] a, .func (.func G) #[] b, .func (.func H) #[] d] (opxC x).toArray (gotC (z8, false)) 33 42 44
 have hI1 := hI.kept hb
 have hsz := hI.but.size
 have hz : gotC (z8, false) = #[.int .u64 0, .int .u64 0, .int .u64 0, .int .u64 0, .int .u64 0, .int .u64 0, .int .u64 0, .int .u64 0, .bool false] := rfl
 refine cHid fun Q' hQ => ?_
 have HQ := zh hQ; clear hQ
 rw [hz] at r0 r1 r2 hb hI1
 go_enter Tryz.func11, Tryz.ntmps11
 go_upto_region 1 with fail
 rw [← hz] at r0 r1 r2 hb hI1 ⊢
 change Code.wp _ _ _ _ (((W.alloc (.cells #[.func (.func F) #[] a, .func (.func G) #[] b, .func (.func H) #[] d] 33)).alloc (.cells (opxC x).toArray 42)).alloc (.cells (gotC (z8, false)) 44))
 generalize (((W.alloc (.cells #[.func (.func F) #[] a, .func (.func G) #[] b, .func (.func H) #[] d] 33)).alloc (.cells (opxC x).toArray 42)).alloc (.cells (gotC (z8, false)) 44)) = W1 at *
 obtain ⟨p0, p1, p2, _, _, _⟩ := rw3 r0
 obtain ⟨k0, k1, k2, k3, k4⟩ := opx_cells r1
 have HM2 : Hid (¬ (W.heap.size + 2 = go ∨ W.heap.size + 2 = gt ∨ W.heap.size + 2 ∈ Gs)) := zh (by
  rintro (h | h | h)
  ·have := hC.lt.1; omega
  ·have := hC.lt.2.1; omega
  ·have := hC.lt.2.2 _ h; omega)
 have HSZ := zh (zM hsz (Nat.le_add_right W.heap.size 2))
 have hb1 := But.of_below hb (fun k => k = go ∨ k = gt ∨ k ∈ Gs)
 have HB1 := zh hb1
 have HR2 := zh r2
 have HEND : Hid (∀ W3 W4 j, j = knd x → Ix W2 go gt t gf Gs (bmp L j s) W3 → But (fun k => k = go ∨ k = gt ∨ k ∈ Gs) W1 W3 → RowAt W3 (W.heap.size + 2) 44 (gotC (z8, false)) → Else (W.heap.size + 2) W3 W4 → Q' (.returned (.agg (gotC (ansX fs x)))) W4) := zh fun W3 W4 j hj hi hb3 hr he =>
  HQ.out _ _ ⟨rfl, by rw [← hj]; exact hi.elem (Mut.of_else he) hr Fr.got HSZ.out, (hb1.trans hb3).mut (Mut.of_else he) (by omega)⟩
 clear r0 r1 r2 hb hz HQ
 have hok := hX W1 hb1
 by_cases h1 : x.kind = 1
 ·have hk1 : (x.kind == 1) = true := by rw [h1]; rfl
  have ha : ansX fs x = (z8, leqE x.a.1 x.b.1) := by unfold ansX; rw [if_pos h1]
  have hkn : 1 = knd x := by unfold knd; rw [if_pos h1]
  have hG := hO.okG
  have HCL := zh (hO.leq s W1 x.a.1 x.b.1 hI1 hs x.a.2 x.b.2)
  have HE2 := zh fun W3 W4 h2 h3 h4 h5 => HEND.out W3 W4 1 hkn h2 h3 h4 h5
  rw [ha] at HE2
  have HEA := zh x.a.2
  have HEB := zh x.b.2
  clear hO hC hI hI1 hX HEND ha hkn h1 hok
  generalize x.kind = kd at *
  generalize x.a.1 = xa at *
  generalize x.b.1 = xb at *
  generalize leqE xa xb = bb at *
  have HG : Hid (gotC (z8, bb) = #[.int .u64 0, .int .u64 0, .int .u64 0, .int .u64 0, .int .u64 0, .int .u64 0, .int .u64 0, .int .u64 0, .bool bb]) := rfl
  go_wp2_with (first
   | (refine wpList_loadElemIn (by rfl) _ rfl (W.heap.size + 1) 3 rfl xa HEA.out k3 ?_)
   | (refine wpList_loadElemIn (by rfl) _ rfl (W.heap.size + 1) 11 rfl xb HEB.out k4 ?_)
   | (refine HCL.out.mono ?_; rintro e W3 ⟨rfl, hi3, hb3⟩; have HI3 := zh hi3; have HB3 := zh hb3; clear hi3 hb3; have HR23 := zh (HR2.out.but HB3.out HM2.out))
   | (refine wpList_stRow (by rfl) _ _ _ rfl (W.heap.size + 2) (gotC (z8, bb)) rfl (by rw [HG.out]; rfl) _ _ HR23.out (infoGot EW.zeros) rfl (gotC_one _) ?_; intro W4 r4 he4))
  exact bodyPost_ret (retRow rfl _ _ (W.heap.size + 2) _ _ (0, 0) _ rfl r4 Tryz.underlying44 rfl (infoGot EW.zeros)) rfl (HE2.out W3 W4 HI3.out HB3.out HR23.out he4)
 ·have hk1 : (x.kind == 1) = false := by simpa using h1
  by_cases h2 : x.kind = 2
  ·have hk2 : (x.kind == 2) = true := by rw [h2]; rfl
   have ha : ansX fs x = (joinE fs x.a.1 x.b.1, false) := by unfold ansX; rw [if_neg h1, if_pos h2]
   have hkn : 2 = knd x := by unfold knd; rw [if_neg h1, if_pos h2]
   have hG := hO.okH
   have HCL := zh (hO.join s W1 x.a.1 x.b.1 hI1 hs x.a.2 x.b.2)
   have HE2 := zh fun W3 W4 h2 h3 h4 h5 => HEND.out W3 W4 2 hkn h2 h3 h4 h5
   rw [ha] at HE2
   have HEA := zh x.a.2
   have HEB := zh x.b.2
   have HEZ := zh (joinE_ew fs x.a.2 x.b.2)
   clear hO hC hI hI1 hX HEND ha hkn h1 h2 hok
   generalize x.kind = kd at *
   generalize x.a.1 = xa at *
   generalize x.b.1 = xb at *
   generalize joinE fs xa xb = z at *
   obtain ⟨e0, e1, e2, e3, e4, e5, e6, e7, rfl⟩ := ew_lit HEZ.out
   have hu : uv [e0, e1, e2, e3, e4, e5, e6, e7] = #[.int .u64 e0, .int .u64 e1, .int .u64 e2, .int .u64 e3, .int .u64 e4, .int .u64 e5, .int .u64 e6, .int .u64 e7] := rfl
   rw [hu] at HCL
   clear hu
   have HG : Hid (gotC ([e0, e1, e2, e3, e4, e5, e6, e7], false) = #[.int .u64 e0, .int .u64 e1, .int .u64 e2, .int .u64 e3, .int .u64 e4, .int .u64 e5, .int .u64 e6, .int .u64 e7, .bool false]) := rfl
   go_wp2_with (first
        | (refine wpList_loadElemIn (by rfl) _ rfl (W.heap.size + 1) 3 rfl xa HEA.out k3 ?_)
        | (refine wpList_loadElemIn (by rfl) _ rfl (W.heap.size + 1) 11 rfl xb HEB.out k4 ?_)
        | (refine HCL.out.mono ?_; rintro e W3 ⟨rfl, hi3, hb3⟩; have HI3 := zh hi3; have HB3 := zh hb3; clear hi3 hb3; have HR23 := zh (HR2.out.but HB3.out HM2.out))
        | (refine wpList_stRow (by rfl) _ _ _ rfl (W.heap.size + 2) (gotC ([e0, e1, e2, e3, e4, e5, e6, e7], false)) rfl (by rw [HG.out]; rfl) _ _ HR23.out (infoGot HEZ.out) rfl (gotC_one _) ?_; intro W4 r4 he4))
   exact bodyPost_ret (retRow rfl _ _ (W.heap.size + 2) _ _ (0, 0) _ rfl r4 Tryz.underlying44 rfl (infoGot HEZ.out)) rfl (HE2.out W3 W4 HI3.out HB3.out HR23.out he4)
  ·have hk2 : (x.kind == 2) = false := by simpa using h2
   have ha : ansX fs x = ((evG fs x.v x.l).getD z8, (evG fs x.v x.l).isSome) := by unfold ansX; rw [if_neg h1, if_neg h2]
   have hkn : 0 = knd x := by unfold knd; rw [if_neg h1, if_neg h2]
   have hG := hO.okF
   have hcl := hO.eval s W1 x.LA x.lc x.l x.VA x.vc x.v hI1 hs hl hvl hok.ew (fun W' h => (hX W' (hb1.trans h)).ins) (fun W' h => (hX W' (hb1.trans h)).els)
   have HE2 := zh fun W3 W4 h2 h3 h4 h5 => HEND.out W3 W4 0 hkn h2 h3 h4 h5
   rw [ha] at HE2
   have hre : retE (evG fs x.v x.l) = .tuple #[.agg (uv ((evG fs x.v x.l).getD z8)), .bool (evG fs x.v x.l).isSome] := rfl
   rw [hre] at hcl
   have HCL := zh hcl
   have HEZ := zh (evG_ew17 fs hok.ew x.l)
   clear hO hC hI hI1 hX HEND ha hkn h1 h2 hok hcl hre
   generalize x.kind = kd at *
   generalize (evG fs x.v x.l).getD z8 = z at *
   generalize (evG fs x.v x.l).isSome = bs at *
   generalize x.l.length = ln at *
   generalize x.v.length = vn at *
   generalize x.LA = LA at *
   generalize x.VA = VA at *
   generalize x.lc = lc at *
   generalize x.vc = vc at *
   obtain ⟨e0, e1, e2, e3, e4, e5, e6, e7, rfl⟩ := ew_lit HEZ.out
   have hu : uv [e0, e1, e2, e3, e4, e5, e6, e7] = #[.int .u64 e0, .int .u64 e1, .int .u64 e2, .int .u64 e3, .int .u64 e4, .int .u64 e5, .int .u64 e6, .int .u64 e7] := rfl
   rw [hu] at HCL
   clear hu
   have HG : Hid (gotC ([e0, e1, e2, e3, e4, e5, e6, e7], bs) = #[.int .u64 e0, .int .u64 e1, .int .u64 e2, .int .u64 e3, .int .u64 e4, .int .u64 e5, .int .u64 e6, .int .u64 e7, .bool bs]) := rfl
   go_wp2_with (first
        | (refine HCL.out.mono ?_; rintro e W3 ⟨rfl, hi3, hb3⟩; have HI3 := zh hi3; have HB3 := zh hb3; clear hi3 hb3; have HR23 := zh (HR2.out.but HB3.out HM2.out))
        | (refine wpList_stRow (by rfl) _ _ _ rfl (W.heap.size + 2) (gotC ([e0, e1, e2, e3, e4, e5, e6, e7], bs)) rfl (by rw [HG.out]; rfl) _ _ (HR23.out.alloc _) (infoGot HEZ.out) rfl (gotC_one _) ?_; intro W4 r4 he4))
   exact bodyPost_ret (retRow rfl _ _ (W.heap.size + 2) _ _ (0, 0) _ rfl r4 Tryz.underlying44 rfl (infoGot HEZ.out)) rfl (HE2.out _ W4 (HI3.out.kept ((zB _ _).alloc (zL _) _)) (HB3.out.trans (But.of_below ((zB _ _).alloc (zL _) _) _)) (HR23.out.alloc _) he4)
end
section
open Go.RowKit RM Go.Maps
def bigO (x : OpX) : Bool := decide (60 < x.l.length) || decide (100 < x.v.length)
def bigX (xs : List OpX) : Bool := decide (60 < xs.length) || xs.any bigO
theorem bigX_long {xs : List OpX} (h : 60 < xs.length) : bigX xs = true := by unfold bigX; rw [zE h]; rfl
theorem bigX_bad {xs : List OpX} {k : Nat} (hk : k < xs.length) (h : bigO (xs.getD k opx0) = true) : bigX xs = true := by
 unfold bigX
 rw [Bool.or_eq_true]
 right
 rw [List.any_eq_true]
 exact ⟨_, getD_mem' hk, h⟩
theorem bigX_end {xs : List OpX} (h0 : ¬ 60 < xs.length) (h : ∀ k, k < xs.length → bigO (xs.getD k opx0) = false) : bigX xs = false := by
 unfold bigX
 rw [zF h0, Bool.false_or, List.any_eq_false]
 intro x hx
 obtain ⟨i, hi, rfl⟩ := List.mem_iff_getElem.1 hx
 have := h i hi
 rw [List.getD_eq_getElem?_getD, List.getElem?_eq_getElem hi] at this
 simpa using this
theorem bigX_no {xs : List OpX} (h : bigX xs = false) : xs.length ≤ 60 ∧ ∀ x ∈ xs, x.l.length ≤ 60 ∧ x.v.length ≤ 100 := by
 unfold bigX at h
 rw [Bool.or_eq_false_iff, decide_eq_false_iff_not, List.any_eq_false] at h
 refine ⟨by omega, fun x hx => ?_⟩
 have := h.2 x hx
 unfold bigO at this
 simp only [Bool.or_eq_true, decide_eq_true_eq] at this
 omega
theorem opxC_size (x : OpX) : (opxC x).toArray.size = 19 := by rw [List.size_toArray]; exact opxC_len x
theorem infoOpx (x : OpX) : (Tryz.prog.info? 42).map (·.size) = some (opxC x).length := by rw [opxC_len]; kernel_rfl
theorem infoOpxA (x : OpX) : (Tryz.prog.info? 42).map (·.size) = some (opxC x).toArray.size := by rw [List.size_toArray]; exact infoOpx x
theorem opxC_one (x : OpX) : (opxC x).toArray.all (·.oneCell') = true := by simp [opxC, ucells, Value.oneCell']
theorem big17_any (A : Option Addr) (c : Nat) (xs : List OpX) (w : World) (hA : Ls opxC w A xs) :
 Calls Tryz.prog 7 #[.slice A xs.length c] w fun e w' => e = .returned (.bool (bigX xs)) ∧ Below w.heap.size w w' := by
 by_cases h60 : 60 < xs.length
 ·rw [bigX_long h60]
  clear hA
  generalize xs.length = n at *
  go_enter Tryz.func7, Tryz.ntmps7
  go_wp2_with fail
  go_ret
  exact ⟨rfl, zB _ _⟩
 ·have HA := zh hA; clear hA
  have HBAD := zh fun k (hk : k < xs.length) (h : bigO (xs.getD k opx0) = true) => bigX_bad hk h
  have HEND := zh fun (h : ∀ k, k < xs.length → bigO (xs.getD k opx0) = false) => bigX_end h60 h
  have HB0 : Hid (Below w.heap.size w w) := zB _ _
  generalize bigX xs = res at *
  have hd : decide (60 < (xs.length : Int)) = false := zF (by omega)
  have hn60 : xs.length ≤ 60 := by omega
  clear h60
  generalize hn : xs.length = n at *
  have HN := zh hn; clear hn
  refine cHid fun Q' hQ => ?_
  have HQ := zh hQ; clear hQ
  go_enter Tryz.func7, Tryz.ntmps7
  go_wp2_with fail
  go_loopw [4, 10] (fun _ kv wr => ∃ k : Nat, k ≤ n ∧ kv = .int .i64 k ∧ Hid (∀ j, j < k → bigO (xs.getD j opx0) = false) ∧ Hid (Below w.heap.size w wr)) (fun _ kv _ => n - (intOf kv).toNat)
  case atStart => exact ⟨0, by omega, rfl, zh fun j hj => by omega, HB0⟩
  case round =>
   clear HB0
   obtain ⟨k, hk, rfl, HK, HB⟩ := hrel
   by_cases hlt : k < n
   ·obtain ⟨b, o, rfl, hbl, hc⟩ := (HA.out.below (HB.out.mono (zL _))).at 19 opxC_len (by omega) opx0 (i := k) (by rw [HN.out]; exact hlt)
    have hr := hc k (by rw [HN.out]; exact hlt)
    have HBD := zh (HBAD.out k hlt)
    have HKN : Hid (bigO (xs.getD k opx0) = false → ∀ j, j < k + 1 → bigO (xs.getD j opx0) = false) := zh fun h j hj => by
     by_cases e : j = k
     ·subst e; exact h
     ·exact HK.out j (by omega)
    clear hc hbl
    have hib := infoOpx (xs.getD k opx0)
    generalize xs.getD k opx0 = x at *
    have HRN := zh hr; clear hr
    go_upto_region 6 with (first
     | (refine wpList_ldIn (by rfl) _ _ rfl b (o + k * 19) rfl _ _ HRN.out Tryz.underlying42 rfl hib ?_)
     | (refine wpList_stRow (by rfl) _ _ _ rfl wr.heap.size (opxC x).toArray rfl rfl _ _ (RowAt.new _ _ _) (infoOpxA x) (by rw [opxC_size]; rfl) (opxC_one x) ?_; intro w2 r2 he; have HR2 := zh r2; have HB2 : Hid (Below wr.heap.size wr w2) := zh (((zB _ _).alloc (zL _) _).trans (he.below (zL _))); clear r2 he))
    have HBW2 : Hid (Below w.heap.size w w2) := zh (HB.out.trans (HB2.out.mono HB.out.size))
    obtain ⟨c0, c1, c2, _, _⟩ := opx_cells HR2.out
    clear HR2 HB2 HRN hib HB
    have HBX : Hid (bigO x = (decide (60 < x.l.length) || decide (100 < x.v.length))) := zh rfl
    generalize bigO x = bx at *
    by_cases h1 : 60 < x.l.length
    ·rw [zE h1, Bool.true_or] at HBX
     have q1 : decide (60 < (x.l.length : Int)) = true := zE (by omega)
     have hres := HBD.out HBX.out
     generalize x.l.length = ln at *
     generalize x.v.length = vn at *
     clear HBD HKN HBAD HEND
     go_wp2_with fail
     exact HQ.out _ _ ⟨by rw [hres]; rfl, HBW2.out⟩
    ·rw [zF h1, Bool.false_or] at HBX
     have q1 : decide (60 < (x.l.length : Int)) = false := zF (by omega)
     by_cases h2 : 100 < x.v.length
     ·rw [zE h2] at HBX
      have q2 : decide (100 < (x.v.length : Int)) = true := zE (by omega)
      have hres := HBD.out HBX.out
      generalize x.l.length = ln at *
      generalize x.v.length = vn at *
      clear HBD HKN HBAD HEND
      go_wp2_with fail
      exact HQ.out _ _ ⟨by rw [hres]; rfl, HBW2.out⟩
     ·rw [zF h2] at HBX
      have q2 : decide (100 < (x.v.length : Int)) = false := zF (by omega)
      have HK2 := zh (HKN.out HBX.out)
      generalize x.l.length = ln at *
      generalize x.v.length = vn at *
      clear HBD HKN HBX
      go_wp2_with fail
      go_roundw
      case rel => exact ⟨k + 1, by omega, by go_num, HK2, HBW2⟩
      case measure => simp [intOf]; omega
   ·obtain rfl : k = n := by omega
    have hres := HEND.out HK.out
    clear HBAD HEND
    go_wp2_with fail
    exact HQ.out _ _ ⟨by rw [hres]; rfl, HB.out⟩
def cntG (k : Nat) (xs : List OpX) : Nat := (xs.filter fun x => knd x == k).length
theorem cntG_le (k : Nat) (xs : List OpX) : cntG k xs ≤ xs.length := List.length_filter_le _ _
theorem cntG_take (k : Nat) {xs : List OpX} {i : Nat} (h : i < xs.length) : cntG k (xs.take (i + 1)) = cntG k (xs.take i) + (if knd (xs.getD i opx0) = k then 1 else 0) := by
 unfold cntG
 rw [List.take_succ_eq_append_getElem h, List.filter_append, zA7, List.getD_eq_getElem?_getD, List.getElem?_eq_getElem h]
 congr 1
 by_cases e : knd xs[i] = k
 ·simp [e]
 ·simp [e]
theorem knd_eq (x : OpX) : (x.kind = 1 ∧ knd x = 1) ∨ (x.kind = 2 ∧ knd x = 2) ∨ (x.kind ≠ 1 ∧ x.kind ≠ 2 ∧ knd x = 0) := by
 unfold knd
 by_cases h1 : x.kind = 1
 ·exact .inl ⟨h1, by rw [if_pos h1]⟩
 ·by_cases h2 : x.kind = 2
  ·exact .inr (.inl ⟨h2, by rw [if_neg h1, if_pos h2]⟩)
  ·exact .inr (.inr ⟨h1, h2, by rw [if_neg h1, if_neg h2]⟩)
end
section
open Go.RowKit RM Go.Maps
def ab17 : List ByteArray := [⟨#[97]⟩, ⟨#[98]⟩]
def fP (g : Nat) : Fac := ⟨2, some ⟨g, 0, none⟩, 2, ab17, 0, zs⟩
theorem builtP (g : Nat) : ((Tryz.zeroCells61.setIfInBounds 0 (Value.int IntKind.i64 2)).setIfInBounds 1 (.slice (some ⟨g, 0, none⟩) 2 2)) = fv (fP g) := by
 rw [zero_fac]
 rfl
theorem fP_ok (w : World) : FacOk (w.alloc (.cells (scells ab17).toArray 9)) (fP w.heap.size) := ⟨strs_new w ab17, RW.zs, (fun h => by cases h), zL _, (by show 2 ≤ maxLen; simp [maxLen])⟩
theorem fP_facs (w w2 w3 : World) (h2 : FacOk w2 (fP w.heap.size)) (hs : w2.heap.size = w.heap.size + 1) (h3 : RowAt w3 w2.heap.size 61 (fv (fP w.heap.size))) (hb : Below w2.heap.size w2 w3) : Facs w3 (some ⟨w.heap.size + 1, 0, none⟩) [fP w.heap.size] := by
 rw [hs] at h3
 refine ⟨fun _ => ⟨w.heap.size + 1, 0, rfl, h3.lt, fun j u hu => ?_⟩, fun f hf => ?_⟩
 ·rw [Nat.zero_add, h3.cell j]
  unfold fv
  rw [zA1]
  simpa [fscells] using hu
 ·rw [List.mem_singleton] at hf
  subst hf
  exact h2.below hb
def e17 (z : Nat) : List Nat := [z, 0, 0, 0, 0, 0, 0, 0]
theorem e17_ew {z : Nat} (h : z < 4) : EW (e17 z) := ⟨rfl, fun x hx => by
 unfold e17 at hx
 simp only [List.mem_cons, List.not_mem_nil, or_false] at hx
 omega⟩
theorem leq13 : leqE (e17 1) (e17 3) = true := by kernel_rfl
theorem leq21 : leqE (e17 2) (e17 1) = false := by kernel_rfl
theorem join12 (g : Nat) : joinE [fP g] (e17 1) (e17 2) = e17 3 := by kernel_rfl
end
section
open Go.RowKit RM Go.Maps
theorem run_part_elem17 (cs : Array Value) (off : Nat) (w : World) : (part 40 cs off).run Tryz.prog w = .ok (.agg (cs.extract off (off + 8))) w := by
 unfold part
 rw [Sem.run_bind, Tryz.isAgg40]
 simp [Tryz.sizeOf40]
theorem run_part_bool17 {cs : Array Value} {off : Nat} {v : Value} (h : cs[off]? = some v) (w : World) : (part 4 cs off).run Tryz.prog w = .ok v w := by
 unfold part
 rw [Sem.run_bind, Tryz.isAgg4]
 simp [h]
theorem run_equalElem17 {d : Nat} {l : List Nat} (hl : EW l) (w : World) : (Op.equalIn (d + 2) 40 (.agg (uv l)) (.agg (uv l))).run Tryz.prog w = .ok true w := by
 obtain ⟨i, hi⟩ : ∃ i, Tryz.prog.info? 38 = some i := Option.isSome_iff_exists.1 (by kernel_rfl)
 rw [run_equalIn_array w (d + 1) (uv l) (uv l) Tryz.underlying40 hi, show Tryz.prog.cellsOf 38 = 1 by kernel_rfl, run_eqItems_elem d hl hl w _ fun j hj => by simpa using hj]
 exact congrArg (fun b => Result.ok b w) (List.all_eq_true.2 fun _ _ => zE rfl)
theorem gotC_ext {p : List Nat × Bool} (h : EW p.1) : (gotC p).extract 0 8 = uv p.1 ∧ (gotC p)[8]? = some (.bool p.2) := by
 obtain ⟨e0, e1, e2, e3, e4, e5, e6, e7, he⟩ := ew_lit h
 obtain ⟨l, b⟩ := p
 dsimp only at he
 subst he
 exact ⟨rfl, rfl⟩
theorem run_neqGot {p : List Nat × Bool} (h : EW p.1) (w : World) : (binOp .neq 44 (.agg (gotC p)) (.agg (gotC p))).run Tryz.prog w = .ok (.bool false) w := by
 obtain ⟨h1, h2⟩ := gotC_ext h
 rw [run_neq_struct, run_equalIn_agg w 9999 _ _ _ (by simp only [Program.fieldsOf, Tryz.underlying44]) Tryz.stoodInHeld44]
 simp [Program.fieldsOf, Tryz.underlying44, Op.eqFields, Sem.run_bind, run_part_elem17, h1, run_part_bool17 h2, run_equalElem17 (d := 9997) h, Result.andThen_ok, run_equalIn_bool' w 9998 _ _ _ Tryz.underlying4]
theorem take_neqGot {S : World → Prop} {o : Oper} {a : Act} (x y : Operand) (t : TypeId) (ho : o.op = .binOp .neq 44 x y t) {p : List Nat × Bool} (h : EW p.1) (hx : a.eval x = .agg (gotC p)) (hy : a.eval y = .agg (gotC p)) :
 ∀ w, S w → (execOp a.eval o).run Tryz.prog w = .ok (.value (.bool false)) w := by
 intro w _
 unfold execOp
 simp only [ho, hx, hy, Sem.run_bind, Sem.run_pure, run_eqGuard_agg w _ _ _ _ _ _ Tryz.eqGuardType44, Result.andThen_ok, run_neqGot h w]
structure LawIn (w : World) (A : Option Addr) (c : Nat) (fs : List Fac) (LA : Option Addr) (xs : List OpX) : Prop where
 tab : Tab w
 facs : Facs w A fs
 nil : A = none → c = 0
 ops : Ls opxC w LA xs
 ok : ∀ x ∈ xs, OpxOk w x
end
section
open Go.RowKit RM Go.Maps
def sT (xs : List OpX) (c k : Nat) : Nat → Nat → Nat := fun g j => if g = c then 2 * cntG j (xs.take k) else cntG j (xs.take k)
theorem sT_le (xs : List OpX) (c k : Nat) : ∀ g j, sT xs c k g j ≤ 2 * k := fun g j => by
 have h := cntG_le j (xs.take k)
 have h2 : (xs.take k).length ≤ k := by rw [List.length_take]; omega
 unfold sT
 split
 ·omega
 ·omega
theorem sT_zero (xs : List OpX) (c : Nat) : sT xs c 0 = fun _ _ => 0 := by
 funext g j
 unfold sT
 rw [List.take_zero]
 split
 ·rfl
 ·rfl
theorem sT_step {xs : List OpX} {a b c k : Nat} (h1 : a ≠ b) (h2 : a ≠ c) (h3 : b ≠ c) (hk : k < xs.length) : ∀ g ∈ [a, b, c], ∀ j, bmp [c, c] (knd (xs.getD k opx0)) (bmp [a, b] (knd (xs.getD k opx0)) (sT xs c k)) g j = sT xs c (k + 1) g j := by
 intro g hg j
 have ht := cntG_take j hk
 have hca : ∀ x y z : Nat, List.count x [y, z] = (if y = x then 1 else 0) + (if z = x then 1 else 0) := fun x y z => by
  simp only [List.count_cons, List.count_nil, beq_iff_eq]
  omega
 unfold bmp sT
 rw [hca, hca, ht]
 simp only [List.mem_cons, List.not_mem_nil, or_false] at hg
 by_cases e : j = knd (xs.getD k opx0)
 ·rw [if_pos e, if_pos e, if_pos e.symm]
  rcases hg with rfl | rfl | rfl
  ·rw [if_neg h2, if_neg h2, if_pos rfl, if_neg (fun h => h1 h.symm), if_neg (fun h => h2 h.symm)]
  ·rw [if_neg h3, if_neg h3, if_neg h1, if_pos rfl, if_neg (fun h => h3 h.symm)]
  ·rw [if_pos rfl, if_pos rfl, if_neg h2, if_neg h3, if_pos rfl]
   omega
 ·have e' : ¬ knd (xs.getD k opx0) = j := fun h => e h.symm
  rw [if_neg e, if_neg e]
  simp only [if_neg e', Nat.add_zero]
theorem cnt_sum : ∀ xs : List OpX, cntG 0 xs + cntG 1 xs + cntG 2 xs = xs.length
 | [] => rfl
 | x :: xs => by
   have h := cnt_sum xs
   have hc : ∀ k, cntG k (x :: xs) = cntG k xs + (if knd x = k then 1 else 0) := fun k => by
     unfold cntG
     by_cases e : knd x = k
     ·rw [List.filter_cons_of_pos (by simpa using e), if_pos e, zA8]
     ·rw [List.filter_cons_of_neg (by simpa using e), if_neg e]
      rfl
   rw [hc, hc, hc, zA8]
   rcases knd_eq x with ⟨_, e⟩ | ⟨_, e⟩ | ⟨_, _, e⟩
   ·rw [e]
    simp
    omega
   ·rw [e]
    simp
    omega
   ·rw [e]
    simp
    omega
structure Wrp (W : World) (lo qp qo gc : Nat) (F G H : FuncId) (a b c : Array Value) : Prop where
 cnt : RowAt W qp 67 #[.pointer (some ⟨gc, 0, none⟩)]
 ops : RowAt W qo 33 #[.func (.func F) #[] a, .func (.func G) #[] b, .func (.func H) #[] c]
 lop : lo ≤ qp
 loo : lo ≤ qo
theorem Wrp.below {W W' : World} {lo qp qo gc : Nat} {F G H : FuncId} {a b c : Array Value} (h : Wrp W lo qp qo gc F G H a b c) (hb : Below W.heap.size W W') : Wrp W' lo qp qo gc F G H a b c := ⟨h.cnt.below hb h.cnt.lt, h.ops.below hb h.ops.lt, h.lop, h.loo⟩
theorem Wrp.mut {W W' : World} {lo qp qo gc g : Nat} {F G H : FuncId} {a b c : Array Value} (h : Wrp W lo qp qo gc F G H a b c) (hm : Mut g W W') (hg : qp ≠ g ∧ qo ≠ g) : Wrp W' lo qp qo gc F G H a b c := ⟨h.cnt.mut hm hg.1, h.ops.mut hm hg.2, h.lop, h.loo⟩
theorem Wrp.ne_new {W : World} {lo qp qo gc : Nat} {F G H : FuncId} {a b c : Array Value} (h : Wrp W lo qp qo gc F G H a b c) : qp ≠ W.heap.size ∧ qo ≠ W.heap.size := ⟨Nat.ne_of_lt h.cnt.lt, Nat.ne_of_lt h.ops.lt⟩
theorem ne_old {W : World} {g qp qo : Nat} (hg : g < W.heap.size) (h1 : W.heap.size ≤ qp) (h2 : W.heap.size ≤ qo) : qp ≠ g ∧ qo ≠ g := ⟨by omega, by omega⟩
theorem Wrp.at {W W2 : World} {lo qp qo gc : Nat} {F G H : FuncId} {a b c : Array Value} {M : Nat → Prop} (h : Wrp W lo qp qo gc F G H a b c) (hb : Below W.heap.size W W2) (hM : ∀ k, M k → k < lo) : WrAt W2 qp qo gc F G H a b c M :=
 ⟨h.cnt.below hb h.cnt.lt, h.ops.below hb h.ops.lt, fun hm => by have := hM _ hm; have := h.lop; omega, fun hm => by have := hM _ hm; have := h.loo; omega⟩
theorem ops_one (F G H : FuncId) (a b c : Array Value) : (#[.func (.func F) #[] a, .func (.func G) #[] b, .func (.func H) #[] c] : Array Value).all (·.oneCell') = true := by simp [Value.oneCell']
end
end Go.Proofs.YtdahllhbpdbknaaGreatDoor
