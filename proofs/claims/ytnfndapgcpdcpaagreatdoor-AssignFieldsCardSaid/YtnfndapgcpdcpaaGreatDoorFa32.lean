/- Texts that all the claims need. Conditions: those that each states. -/

import Derived.Test.YtnfndapgcpdcpaaGreatDoorFa27
import Derived.Test.YtnfndapgcpdcpaaGreatDoorFa30
import Derived.Test.YtnfndapgcpdcpaaGreatDoorFa31
set_option linter.unusedSimpArgs false
set_option linter.unusedVariables false
set_option maxRecDepth 100000
set_option maxHeartbeats 40000000
namespace Go.Proofs.YtnfndapgcpdcpaaGreatDoor
section
open Go.RowKit RM Go.Maps LX TR TM SP
namespace A18
def bK : ByteArray := ⟨#[107]⟩
def bX : ByteArray := ⟨#[120]⟩
def bR : ByteArray := ⟨#[114]⟩
def bF : ByteArray := ⟨#[102]⟩
def lohi : List ByteArray := [⟨#[108, 111]⟩, ⟨#[104, 105]⟩]
def fC (b : Nat) : Fac := ⟨1, some ⟨b, 0, none⟩, 2, lohi, 0, zs⟩
def e1 : El := ⟨[1, 0, 0, 0, 0, 0, 0, 0], ⟨rfl, by decide⟩⟩
def s18 (gl gf gn gv : Nat) : Sc := ⟨some ⟨gl, 0, none⟩, 1, [(bK, ⟨false, some ⟨gf, 0, none⟩, 1, [fC gn]⟩)], some ⟨gv, 0, none⟩, 2, [(bX, 1, 0), (bR, 2, 0)]⟩
def a18 (ge gr gw : Nat) : As := ⟨some ⟨ge, 0, none⟩, 2, [e1, el0], some ⟨gr, 0, none⟩, 2, [rw0, ⟨some ⟨gw, 0, none⟩, 1, [⟨bF, el0⟩]⟩]⟩
def m18 (g3 gR : Nat) (s : Sc) : As := ⟨some ⟨g3, 0, none⟩, 2, lstL s 2, some ⟨gR, 0, none⟩, 2, [rw0, rw0]⟩
theorem right18 (gl gf gn gv ge gr gw : Nat) : rightA (s18 gl gf gn gv) (a18 ge gr gw) = true := by kernel_rfl
theorem text18 (gl gf gn gv ge gr gw : Nat) : textA (s18 gl gf gn gv) (a18 ge gr gw) = ⟨#[120, 61, 35, 104, 105, 32, 114, 61, 91, 102, 61, 35, 108, 111, 93]⟩ := by kernel_rfl
theorem leq18 (gl gf gn gv ge gr gw g3 gR : Nat) : leqA (m18 g3 gR (s18 gl gf gn gv)) (a18 ge gr gw) = true := by kernel_rfl
theorem geq18 (gl gf gn gv ge gr gw g3 gR : Nat) : leqA (a18 ge gr gw) (m18 g3 gR (s18 gl gf gn gv)) = false := by kernel_rfl
theorem with18 : wiV [] bF el0 = [⟨bF, el0⟩] := by kernel_rfl
end A18
theorem wp_oneR {ty et : TypeId} {sz : Nat} (hsz : 0 < sz ∧ sz ≤ 100) (hinf : (Tryz.prog.info? et).map (fun i => (i.zero.isSome, i.size)) = some (true, sz)) (hund : Tryz.prog.underlying ty = some (.slice et)) {o : Oper} {a : Act} {w : World} {K : Act → World → Prop} {Q : Exit → Act → World → Prop} (x : Operand) (ho : o.op = .buildSlice ty 1 #[(0, x)])
 (cs : Array Value) (hc : cs.size = sz) (hx : a.eval x = .agg cs)
 (h : K (a.put o.dst (.slice (some ⟨w.heap.size, 0, none⟩) 1 1)) (w.alloc (.cells cs et))) : o.wp Tryz.prog a w K Q := by
 cases hi : Tryz.prog.info? et with
 | none => have h0 := hinf; rw [hi] at h0; cases h0
 | some i =>
   have h2 := hinf
   rw [hi] at h2
   simp only [Option.map_some, Option.some.injEq, Prod.mk.injEq] at h2
   obtain ⟨z, hz⟩ := Option.isSome_iff_exists.1 h2.1
   have hs := h2.2
   refine wp_buildSlice ty et 1 _ ho cs i z hund hi hz (by rw [hs]; omega) (by rw [hs]; omega) ?_ h
   rw [show (#[(0, x)].map fun (p : Nat × Operand) => (p.1, a.eval p.2)).toList = ([Value.agg cs].zipIdx 0).map fun x => (x.2, x.1) by simp [hx], hs]
   have := Great.fill_whole (s := sz) hsz.1 [Value.agg cs] ((Array.range (1 * sz)).map (z.cells[· % z.cells.size]!)) (by
    intro v hv
    rw [List.mem_singleton] at hv
    subst hv
    exact hc) (by simp)
   rw [this]
   simp [Value.cells]
theorem wpList_oneR {ty et : TypeId} {sz : Nat} (hsz : 0 < sz ∧ sz ≤ 100) (hinf : (Tryz.prog.info? et).map (fun i => (i.zero.isSome, i.size)) = some (true, sz)) (hund : Tryz.prog.underlying ty = some (.slice et)) {ops : Array Oper} {rest : List Oper} {o : Oper} {a : Act} {w : World} {Q : Exit → Act → World → Prop} (hgd : o.guard = none) (x : Operand) (ho : o.op = .buildSlice ty 1 #[(0, x)])
 (cs : Array Value) (hc : cs.size = sz) (hx : a.eval x = .agg cs)
 (h : ∀ w', RowAt w' w.heap.size et cs → Below w.heap.size w w' → wpList Tryz.prog ops Q rest (a.put o.dst (.slice (some ⟨w.heap.size, 0, none⟩) 1 1)) w') : wpList Tryz.prog ops Q (o :: rest) a w :=
 wpList_plain hgd fun _ hK => wp_oneR hsz hinf hund x ho cs hc hx (hK _ _ (h _ (RowAt.new _ _ _) ((zB _ _).alloc (zL _) _)))
theorem wpList_twoR {ty et : TypeId} {sz : Nat} (hsz : 0 < sz ∧ sz ≤ 100) (hinf : (Tryz.prog.info? et).map (fun i => (i.zero.isSome, i.size)) = some (true, sz)) (hund : Tryz.prog.underlying ty = some (.slice et)) {ops : Array Oper} {rest : List Oper} {o : Oper} {a : Act} {w : World} {Q : Exit → Act → World → Prop} (hgd : o.guard = none) (x y : Operand) (ho : o.op = .buildSlice ty 2 #[(0, x), (1, y)])
 (cs ds : Array Value) (hc : cs.size = sz) (hd : ds.size = sz) (hx : a.eval x = .agg cs) (hy : a.eval y = .agg ds)
 (h : ∀ w', RowAt w' w.heap.size et (cs ++ ds) → Below w.heap.size w w' → wpList Tryz.prog ops Q rest (a.put o.dst (.slice (some ⟨w.heap.size, 0, none⟩) 2 2)) w') : wpList Tryz.prog ops Q (o :: rest) a w := by
 refine wpList_plain hgd fun K hK => ?_
 cases hi : Tryz.prog.info? et with
 | none => have h0 := hinf; rw [hi] at h0; cases h0
 | some i =>
   have h2 := hinf
   rw [hi] at h2
   simp only [Option.map_some, Option.some.injEq, Prod.mk.injEq] at h2
   obtain ⟨z, hz⟩ := Option.isSome_iff_exists.1 h2.1
   have hs := h2.2
   refine wp_buildSlice ty et 2 _ ho (cs ++ ds) i z hund hi hz (by rw [hs]; omega) (by rw [hs]; omega) ?_ (hK _ _ (h _ (RowAt.new _ _ _) ((zB _ _).alloc (zL _) _)))
   rw [show (#[(0, x), (1, y)].map fun (p : Nat × Operand) => (p.1, a.eval p.2)).toList = ([Value.agg cs, Value.agg ds].zipIdx 0).map fun x => (x.2, x.1) by simp [hx, hy], hs]
   have := Great.fill_whole (s := sz) hsz.1 [Value.agg cs, Value.agg ds] ((Array.range (2 * sz)).map (z.cells[· % z.cells.size]!)) (by
    intro v hv
    rcases List.mem_cons.1 hv with rfl | hv
    ·exact hc
    ·rw [List.mem_singleton] at hv
     subst hv
     exact hd) (by simp)
   rw [this]
   simp [Value.cells]
namespace A18
theorem sl_row {w : World} {g : Nat} {t : TypeId} {cs : Array Value} (h : RowAt w g t cs) : Sl w w.heap.size (some ⟨g, 0, none⟩) cs.toList := fun _ =>
 ⟨g, 0, rfl, h.lt, fun j u hu => by
  rw [Nat.zero_add]
  exact (h.cell j).trans (by simpa using hu)⟩
theorem fC_ok (w : World) : FacOk (w.alloc (.cells (scells lohi).toArray 9)) (fC w.heap.size) := ⟨strs_new w lohi, RW.zs, (fun h => by cases h), zL _, (by show 2 ≤ maxLen; simp [maxLen])⟩
theorem sc_ok {w : World} {gl gf gn gv : Nat} (rl : RowAt w gl 55 #[.string bK, .bool false, .slice (some ⟨gf, 0, none⟩) 1 1]) (rv : RowAt w gv 58 #[.string bX, .int .i64 1, .int .i64 0, .string bR, .int .i64 2, .int .i64 0]) (hF : Facs w (some ⟨gf, 0, none⟩) [fC gn]) :
 ScOk w (s18 gl gf gn gv) where
 lats := sl_row rl
 sh := fun l hl => by
  obtain rfl : l = (bK, (⟨false, some ⟨gf, 0, none⟩, 1, [fC gn]⟩ : Shp)) := by simpa [s18] using hl
  refine ⟨hF, (fun h => by cases h), (show 1 ≤ 65536 by decide), fun f hf => ?_⟩
  obtain rfl : f = fC gn := by simpa using hf
  exact (show 2 ≤ 65536 by decide)
 vars := sl_row rv
 lnil := fun h => by cases h
 vnil := fun h => by cases h
 lfew := show 1 ≤ 65536 by decide
 vfew := show 2 ≤ 65536 by decide
 lnm := fun y hy => by
  obtain rfl : y = bK := by simpa [Sc.lnms, s18] using hy
  decide
 vnm := fun y hy => by
  have : y = bX ∨ y = bR := by simpa [Sc.vnms, s18] using hy
  rcases this with rfl | rfl <;> decide
theorem as_ok {w : World} {ge gr gw : Nat} (re : RowAt w ge 41 (#[.int .u64 1, .int .u64 0, .int .u64 0, .int .u64 0, .int .u64 0, .int .u64 0, .int .u64 0, .int .u64 0] ++ #[.int .u64 0, .int .u64 0, .int .u64 0, .int .u64 0, .int .u64 0, .int .u64 0, .int .u64 0, .int .u64 0])) (rr : RowAt w gr 38 #[.slice none 0 0, .slice (some ⟨gw, 0, none⟩) 1 1]) (hW : Ls vlC w (some ⟨gw, 0, none⟩) [⟨bF, el0⟩]) :
 AsIn w (a18 ge gr gw) where
 lab := sl_row re
 lle := zL _
 lcap := show 2 ≤ maxLen by decide
 rows := sl_row rr
 rle := zL _
 rcap := show 2 ≤ maxLen by decide
 row := fun r hr => by
  have : r = rw0 ∨ r = ⟨some ⟨gw, 0, none⟩, 1, [⟨bF, el0⟩]⟩ := by simpa [a18] using hr
  rcases this with rfl | rfl
  ·exact ⟨Ls.nil, zL _, (show 0 ≤ maxLen by decide), (fun _ => rfl), fun v hv => by cases hv⟩
  ·exact ⟨hW, zL _, (show 1 ≤ maxLen by decide), (fun h => by cases h), fun v hv => by
        obtain rfl : v = ⟨bF, el0⟩ := by simpa using hv
        exact (show bF.size ≤ maxLen by decide)⟩
theorem ms_ok {w : World} {g3 gR : Nat} {s : Sc} (hs : s.vs.length = 2) (re : RowAt w g3 41 ((lstL s s.vs.length).flatMap elC).toArray) (rr : RowAt w gR 38 ((List.replicate s.vs.length rw0).flatMap rwC).toArray) : AsIn w (m18 g3 gR s) where
 lab := by rw [hs] at re; exact sl_row re
 lle := by show (lstL s 2).length ≤ 2; rw [lstL_len, hs]; exact zL _
 lcap := show 2 ≤ maxLen by decide
 rows := by rw [hs] at rr; exact sl_row rr
 rle := zL _
 rcap := show 2 ≤ maxLen by decide
 row := fun r hr => by
  have : r = rw0 := by simpa [m18] using hr
  subst this
  exact ⟨Ls.nil, zL _, (show 0 ≤ maxLen by decide), (fun _ => rfl), fun v hv => by cases hv⟩
end A18
open A18
theorem infoLat2 : (Tryz.prog.info? 55).map (fun i => (i.zero.isSome, i.size)) = some (true, 3) := by kernel_rfl
theorem infoVar2 : (Tryz.prog.info? 58).map (fun i => (i.zero.isSome, i.size)) = some (true, 3) := by kernel_rfl
theorem infoElem2 : (Tryz.prog.info? 41).map (fun i => (i.zero.isSome, i.size)) = some (true, 8) := by kernel_rfl
end
section
open Go.RowKit RM Go.Maps
theorem poV_has {l : List Vl} {s : ByteArray} (h : (getV l s).2 = true) : 0 ≤ ixV l s ∧ poV l s < l.length ∧ (l.getD (poV l s) vl0).s = s ∧ ∀ i, i < poV l s → (l.getD i vl0).s ≠ s := by
 rcases ixV_cases l s with ⟨k, hk, e, h1, h2, _⟩ | ⟨e, h1, h2⟩
 ·have hp : poV l s = k := by unfold poV; rw [e, if_pos (by omega)]; rfl
  rw [hp]
  exact ⟨by omega, hk, by rw [getD_lt _ hk]; exact h1, fun i hi => by rw [getD_lt _ (by omega)]; exact h2 i hi⟩
 ·unfold getV at h
  rw [h2] at h
  cases h
theorem poV_not {l : List Vl} {s : ByteArray} (h : (getV l s).2 = false) : ¬ 0 ≤ ixV l s ∧ (poV l s < l.length → NM.less s (l.getD (poV l s) vl0).s = true) ∧ ∀ i, i < poV l s → NM.less s (l.getD i vl0).s = false := by
 have h0 : ¬ 0 ≤ ixV l s := fun h1 => by rw [getV_hit h1] at h; cases h
 rcases NM.fst_cases (fun j => NM.less s (l.getD j vl0).s) l.length with ⟨k, hk, e, hp, h2⟩ | ⟨e, h2⟩
 ·have e' : lsV l s = k := e
  have hq : poV l s = k := by unfold poV; rw [if_neg h0, e', if_pos (by omega)]; rfl
  rw [hq]
  exact ⟨h0, fun _ => hp, fun i hi => by simpa using h2 i hi⟩
 ·have e' : lsV l s = -1 := e
  have hq : poV l s = l.length := by unfold poV; rw [if_neg h0, e', if_neg (by omega)]
  rw [hq]
  exact ⟨h0, fun h => by omega, fun i hi => by simpa using h2 i hi⟩
theorem infoVlZ : (Tryz.prog.info? 43).map (fun i => (i.zero, i.size, i.bytes)) = some (some (.agg (vlC vl0).toArray), 9, 80) := by kernel_rfl
theorem infoVl2 : (Tryz.prog.info? 43).map (fun i => (i.zero.isSome, i.size)) = some (true, 9) := by kernel_rfl
theorem wiK_len (l : List Vl) (s : ByteArray) (e : El) (i : Nat) : (wiK l s e i).length ≤ l.length + 1 := by
 have h1 := poV_le l s
 have h2 := poV_re l s
 have h3 := reV_le l s
 have h4 := wiV_len l s e
 unfold wiK
 split
 ·rw [List.length_take]; omega
 ·rw [List.length_take]; omega
theorem own_lsV {w : World} {base c n : Nat} {X : Option Addr} {t : TypeId} {l : List Vl} (h : w.ownsRow base t 9 (.slice X n c) n (l.flatMap vlC)) : Ls vlC w X l := Sl.of_own h
theorem row_cells {w : World} {g : Nat} {t : TypeId} {l : List Value} (h : RowAt w g t l.toArray) : ∀ j u, l[j]? = some u → w.cell? ⟨g, j, none⟩ = some u := fun j u hu => (h.cell j).trans (by simpa using hu)
def QWi (w0 : World) (l : List Vl) (e : Ending) (w' : World) : Prop := ∃ X c, e = .returned (.slice X l.length c) ∧ Ls vlC w' X l ∧ Below w0.heap.size w0 w'
theorem qwith_any (A : Option Addr) (c : Nat) (xs : List Vl) (s : ByteArray) (e : El) (w : World) (hl : xs.length ≤ 4294967296) (hA : Ls vlC w A xs) (hs : s.size ≤ 4294967296) (hns : ∀ v ∈ xs, v.s.size ≤ 4294967296) :
 Calls Tryz.prog 26 #[.slice A xs.length c, .string s, .agg (elv e)] w fun x w' => QWi w (wiV xs s e) x w' := by
 have rE := RowAt.new w 41 (elv e)
 have hb : Below w.heap.size w (w.alloc (.cells (elv e) 41)) := (zB _ _).alloc (zL _) _
 have hsz : (w.alloc (.cells (elv e) 41)).heap.size = w.heap.size + 1 := by simp
 refine cHid fun Q' hQ => ?_
 have HQ := zh hQ; clear hQ
 have hxs : xs.length ≤ maxLen := by unfold maxLen; omega
 have hple := poV_le xs s
 have HGT := zh (fun W (h : Below w.heap.size w W) => qget18_any A c xs s W hxs (hA.below h))
 have HHAS := zh (poV_has (l := xs) (s := s))
 have HNOT := zh (poV_not (l := xs) (s := s))
 have HLEN := zh (wiK_len xs s e)
 have HAT := zh (fun W (h : Below w.heap.size w W) => hA.below h)
 have HNM : Hid (∀ i, i < xs.length → (xs.getD i vl0).s.size ≤ 4294967296) := fun i hi => hns _ (getD_mem' hi)
 have HEARLY := zh (fun k => wiK_early (l := xs) (o := s) (e := e) (k := k))
 have HLATE := zh (fun k => wiK_late (l := xs) (o := s) (e := e) (k := k))
 have HPUT := zh (wiK_put (l := xs) (o := s) (e := e))
 have HINS := zh (wiK_ins (l := xs) (o := s) (e := e))
 have HEND := zh (wiK_end (l := xs) (o := s) (e := e))
 have HLAST := zh (wiK_last (l := xs) (o := s) (e := e))
 have hk0 := wiK_zero xs s e
 have HESZ := zh (elv_info e)
 obtain ⟨e0, e1, e2, e3, e4, e5, e6, e7, he⟩ := ew_lit e.2
 have HEV : Hid (elv e = #[.int .u64 e0, .int .u64 e1, .int .u64 e2, .int .u64 e3, .int .u64 e4, .int .u64 e5, .int .u64 e6, .int .u64 e7]) := by
  show _ = _
  unfold elv elC
  rw [he]; rfl
 have HVV : Hid ((Value.agg #[.string s, .int .u64 e0, .int .u64 e1, .int .u64 e2, .int .u64 e3, .int .u64 e4, .int .u64 e5, .int .u64 e6, .int .u64 e7]) = .agg (vlC ⟨s, e⟩).toArray) := by
  show _ = _
  unfold vlC
  rw [he]; rfl
 clear he hA hns hxs
 generalize hgg : getV xs s = gg at *
 obtain ⟨⟨ge, hge⟩, has⟩ := gg
 obtain ⟨f0, f1, f2, f3, f4, f5, f6, f7, rfl⟩ := ew_lit hge
 have HGT2 : Hid (∀ W, Below w.heap.size w W → Calls Tryz.prog 23 #[.slice A xs.length c, .string s] W fun x w' => x = .returned (.tuple #[.agg #[.int .u64 f0, .int .u64 f1, .int .u64 f2, .int .u64 f3, .int .u64 f4, .int .u64 f5, .int .u64 f6, .int .u64 f7], .bool has]) ∧ Below W.heap.size W w') := HGT.out
 clear HGT hgg
 simp only at HHAS HNOT
 generalize hn : xs.length = n at *
 have HN := zh hn; clear hn
 go_enter Tryz.func26, Tryz.ntmps26
 go_upto_region 1 with fail
 change Code.wp _ _ _ _ (w.alloc (.cells (elv e) 41))
 generalize w.alloc (.cells (elv e) 41) = w1 at *
 rw [HEV.out] at rE
 have HE1 := zh rE
 have HB1 := zh hb
 have HSZ1 := zh hsz
 clear rE hb hsz
 go_upto_region 3 with (go_at_call 23; refine (HGT2.out w1 HB1.out).mono ?_; rintro x w2 ⟨rfl, hb2⟩; have HB2 := zh (HB1.out.trans (hb2.mono HB1.out.size)); have HE2 := zh (HE1.out.below hb2 HE1.out.lt); clear hb2 HE1 HB1 HSZ1)
 change Code.wp _ _ _ _ (w2.alloc (.cells #[.int .u64 f0, .int .u64 f1, .int .u64 f2, .int .u64 f3, .int .u64 f4, .int .u64 f5, .int .u64 f6, .int .u64 f7] 41))
 have hb3 : Below w2.heap.size w2 (w2.alloc (.cells #[.int .u64 f0, .int .u64 f1, .int .u64 f2, .int .u64 f3, .int .u64 f4, .int .u64 f5, .int .u64 f6, .int .u64 f7] 41)) := (zB _ _).alloc (zL _) _
 generalize w2.alloc (.cells #[.int .u64 f0, .int .u64 f1, .int .u64 f2, .int .u64 f3, .int .u64 f4, .int .u64 f5, .int .u64 f6, .int .u64 f7] 41) = w3 at *
 have HE3 := zh (HE2.out.below hb3 HE2.out.lt)
 have HB3 := zh (HB2.out.trans (hb3.mono HB2.out.size))
 have HG0 : Hid (w.heap.size < w2.heap.size) := HE2.out.lt
 have HG1 : Hid (w2.heap.size ≤ w3.heap.size) := hb3.size
 clear hb3 HE2 HB2
 generalize w2.heap.size = gl at *
 generalize hG0 : w3.heap.size = G0 at *
 generalize hp : poV xs s = p at *
 go_wp2_with fail
 go_loopw [7, 10, 11] (fun ov dv iv wr => ∃ i d : Nat, ∃ X : Option Addr, i ≤ n ∧ ov = .slice X (wiK xs s e i).length d ∧ dv = .bool (decide (p < i)) ∧ iv = .int .i64 i ∧ Hid (wr.ownsRow G0 43 9 (.slice X (wiK xs s e i).length d) (wiK xs s e i).length ((wiK xs s e i).flatMap vlC)) ∧ Hid (Below G0 w3 wr)) (fun _ _ iv _ => n - (intOf iv).toNat)
 case atStart => exact ⟨0, 0, none, by omega, by rw [hk0]; rfl, by rw [zF (by omega)], rfl, by rw [hk0]; exact World.ownsRow_nil _ _ _ _, zB _ _⟩
 case round =>
  obtain ⟨i, d, X, hi, rfl, rfl, rfl, HO, HW⟩ := hrel
  have HBWr := zh (HB3.out.trans (HW.out.mono (by rw [← hG0]; exact HB3.out.size)))
  have HEr := zh (HE3.out.below HW.out (by have := HG0.out; have := HG1.out; omega))
  have hG9 : G0 ≤ wr.heap.size := by rw [← hG0]; exact HW.out.size
  have HG9 := zh hG9
  clear hG9
  by_cases hlt : i < n
  ·obtain ⟨bk, o, rfl, hbk, hc⟩ := (HAT.out w (zB _ _)).at 9 vlC_len (by omega) vl0 (i := i) (by rw [HN.out]; exact hlt)
   have hr := hc i (by rw [HN.out]; exact hlt)
   have hq := range_s (range_below hr HBWr.out hbk)
   have hns := HNM.out i hlt
   have hKl := HLEN.out i
   have hKl1 := HLEN.out (i + 1)
   clear hc
   have HR : Hid (∀ W, Below G0 w3 W → W.rangeAt bk (o + i * 9) (vlC (xs.getD i vl0))) := fun W h => range_below hr (HB3.out.trans (h.mono (by rw [← hG0]; exact HB3.out.size))) hbk
   have HLS : Hid (Calls Tryz.prog 65 #[.string s, .string (xs.getD i vl0).s] wr fun x w' => x = .returned (.bool (NM.less s (xs.getD i vl0).s)) ∧ Dr wr w') := refLess_any _ _ _ hs hns
   have heq := NM.str_eq (xs.getD i vl0).s s
   clear hr
   have hsx : (Tryz.prog.info? 43).map (·.size) = some (vlC (xs.getD i vl0)).length := by rw [vlC_len]; kernel_rfl
   have HSX := zh hsx
   clear hsx
   rcases Nat.lt_trichotomy i p with hip | hip | hip
   ·rw [show decide (p < i) = false from zF (by omega)] at *
    cases has
    ·have hls := (HNOT.out rfl).2.2 i hip
     rw [hls] at HLS
     clear hls HHAS HNOT HINS HPUT HEND HLAST HLATE
     generalize hxx : xs.getD i vl0 = x at *
     go_upto_region 11 with (go_at_call 65; refine HLS.out.mono ?_; rintro y w4 ⟨rfl, nq, rfl⟩)
     have hbd : Below wr.heap.size wr (wr.drewN nq) := (show Dr wr (wr.drewN nq) from ⟨nq, rfl⟩).below
     have HBD := zh hbd
     have HOd := zh (own_below HO.out hbd (zL _))
     have HEd := zh (HEr.out.below hbd HEr.out.lt)
     have HBg := zh (HW.out.trans (hbd.mono HG9.out))
     have HSd := zh (zM HG9.out hbd.size)
     clear hbd HO HEr HW HG9 HBWr
     generalize wr.drewN nq = wd at *
     have hK1 := HEARLY.out i hip
     rw [hxx] at hK1
     have hKL : (wiK xs s e (i + 1)).length = (wiK xs s e i).length + 1 := by rw [hK1, zA7]; rfl
     have HK1 := zh hK1
     clear hK1
     generalize hKK : wiK xs s e i = K at *
     generalize hkl : K.length = kl at *
     go_wp2_with (first
      | (refine wpList_ldIn (by rfl) _ _ rfl bk (o + i * 9) rfl _ _ (HR.out _ HBg.out) Tryz.underlying43 rfl HSX.out ?_)
      | (refine wpList_oneR (by decide) infoVl2 Tryz.underlying38 rfl _ rfl (vlC x).toArray (by simp [vlC_len]) rfl ?_; intro w5 r5 hb5; have HR5 := zh r5; have HB5 := zh (HBg.out.trans (hb5.mono HSd.out)); have HO5 := zh (own_below HOd.out hb5 (zL _)); have HS5 := zh (zM HSd.out hb5.size); clear r5 hb5)
      | (at_builtin; refine wpList_moreS _ rfl _ _ 38 rfl 43 (.agg (vlC vl0).toArray) 9 80 Tryz.underlying38 infoVlZ rfl (by decide) G0 X kl d (K.flatMap vlC) rfl HO5.out wd.heap.size (vlC x) rfl (vlC_len _) (row_cells HR5.out) (vlC_one _) (by unfold maxLen; omega) (by omega) HS5.out ?_; intro X6 d6 w6 hown6 hb6 _ _; have HO6 := zh hown6; have HB6 := zh (HB5.out.trans hb6); have HS6 := zh (zM HS5.out hb6.size); clear hown6 hb6))
     have HO9 := HO6.out
     rw [show K.flatMap vlC ++ vlC x = (wiK xs s e (i + 1)).flatMap vlC by rw [HK1.out]; simp [List.flatMap_append], show kl + 1 = (wiK xs s e (i + 1)).length by rw [hKL]] at HO9
     have HO9 := zh HO9
     go_roundw
     case rel => exact ⟨i + 1, d6, X6, by omega, by rw [hKL], by rw [zF (by omega)], by go_num, HO9, HB6⟩
     case measure => simp [intOf]; omega
    ·have hne := (HHAS.out rfl).2.2.2 i hip
     rw [show decide ((xs.getD i vl0).s = s) = false from zF hne] at heq
     clear hne HHAS HNOT HINS HPUT HEND HLAST HLATE
     generalize hxx : xs.getD i vl0 = x at *
     go_upto_region 11 with fail
     have hbd : Below wr.heap.size wr (wr) := zB _ _
     skip
     have HOd := zh (own_below HO.out hbd (zL _))
     have HEd := zh (HEr.out.below hbd HEr.out.lt)
     have HBg := zh (HW.out.trans (hbd.mono HG9.out))
     have HSd := zh (zM HG9.out hbd.size)
     clear hbd HO HEr HW HG9 HBWr
     obtain ⟨wd, hwd, HBD⟩ : ∃ wd, wd = wr ∧ Hid (Below wr.heap.size wr wd) := ⟨wr, rfl, zB _ _⟩
     rw [← hwd] at HOd HEd HBg HSd ⊢
     clear hwd
     have hK1 := HEARLY.out i hip
     rw [hxx] at hK1
     have hKL : (wiK xs s e (i + 1)).length = (wiK xs s e i).length + 1 := by rw [hK1, zA7]; rfl
     have HK1 := zh hK1
     clear hK1
     generalize hKK : wiK xs s e i = K at *
     generalize hkl : K.length = kl at *
     go_wp2_with (first
      | (refine wpList_ldIn (by rfl) _ _ rfl bk (o + i * 9) rfl _ _ (HR.out _ HBg.out) Tryz.underlying43 rfl HSX.out ?_)
      | (refine wpList_oneR (by decide) infoVl2 Tryz.underlying38 rfl _ rfl (vlC x).toArray (by simp [vlC_len]) rfl ?_; intro w5 r5 hb5; have HR5 := zh r5; have HB5 := zh (HBg.out.trans (hb5.mono HSd.out)); have HO5 := zh (own_below HOd.out hb5 (zL _)); have HS5 := zh (zM HSd.out hb5.size); clear r5 hb5)
      | (at_builtin; refine wpList_moreS _ rfl _ _ 38 rfl 43 (.agg (vlC vl0).toArray) 9 80 Tryz.underlying38 infoVlZ rfl (by decide) G0 X kl d (K.flatMap vlC) rfl HO5.out wd.heap.size (vlC x) rfl (vlC_len _) (row_cells HR5.out) (vlC_one _) (by unfold maxLen; omega) (by omega) HS5.out ?_; intro X6 d6 w6 hown6 hb6 _ _; have HO6 := zh hown6; have HB6 := zh (HB5.out.trans hb6); have HS6 := zh (zM HS5.out hb6.size); clear hown6 hb6))
     have HO9 := HO6.out
     rw [show K.flatMap vlC ++ vlC x = (wiK xs s e (i + 1)).flatMap vlC by rw [HK1.out]; simp [List.flatMap_append], show kl + 1 = (wiK xs s e (i + 1)).length by rw [hKL]] at HO9
     have HO9 := zh HO9
     go_roundw
     case rel => exact ⟨i + 1, d6, X6, by omega, by rw [hKL], by rw [zF (by omega)], by go_num, HO9, HB6⟩
     case measure => simp [intOf]; omega
   ·rw [show decide (p < i) = false from zF (by omega)] at *
    subst hip
    cases has
    ·obtain ⟨h1, h2, _⟩ := HNOT.out rfl
     rw [h2 hlt] at HLS
     have hK1 := HINS.out hlt h1
     clear h1 h2 HHAS HNOT HINS HPUT HEND HLAST HLATE HEARLY
     generalize hxx : xs.getD i vl0 = x at *
     go_upto_region 8 with (go_at_call 65; refine HLS.out.mono ?_; rintro y w4 ⟨rfl, nq, rfl⟩)
     have hbd : Below wr.heap.size wr (wr.drewN nq) := (show Dr wr (wr.drewN nq) from ⟨nq, rfl⟩).below
     have HBD := zh hbd
     have HOd := zh (own_below HO.out hbd (zL _))
     have HEd := zh (HEr.out.below hbd HEr.out.lt)
     have HBg := zh (HW.out.trans (hbd.mono HG9.out))
     have HSd := zh (zM HG9.out hbd.size)
     clear hbd HO HEr HW HG9 HBWr
     generalize wr.drewN nq = wd at *
     have hKL : (wiK xs s e (i + 1)).length = (wiK xs s e i).length + 2 := by rw [hK1]; simp
     have HK1 := zh hK1
     clear hK1
     generalize hKK : wiK xs s e i = K at *
     generalize hkl : K.length = kl at *
     go_upto_region 9 with (first
      | (refine wpList_loadS (by rfl) _ _ rfl w.heap.size rfl _ _ _ HEd.out Tryz.underlying41 rfl (by kernel_rfl) ?_)
      | (refine wpList_oneR (by decide) infoVl2 Tryz.underlying38 rfl _ rfl (vlC ⟨s, e⟩).toArray (by simp [vlC_len]) HVV.out ?_; intro w5 r5 hb5; have HR5 := zh r5; have HB5 := zh (HBg.out.trans (hb5.mono HSd.out)); have HO5 := zh (own_below HOd.out hb5 (zL _)); have HS5 := zh (zM HSd.out hb5.size); clear r5 hb5)
      | (at_builtin; refine wpList_moreS _ rfl _ _ 38 rfl 43 (.agg (vlC vl0).toArray) 9 80 Tryz.underlying38 infoVlZ rfl (by decide) G0 X kl d (K.flatMap vlC) rfl HO5.out wd.heap.size (vlC ⟨s, e⟩) rfl (vlC_len _) (row_cells HR5.out) (vlC_one _) (by unfold maxLen; omega) (by omega) HS5.out ?_; intro X6 d6 w6 hown6 hb6 _ _; have HO6 := zh hown6; have HB6 := zh (HB5.out.trans hb6); have HS6 := zh (zM HS5.out hb6.size); clear hown6 hb6))
     go_wp2_with (first
      | (refine wpList_ldIn (by rfl) _ _ rfl bk (o + i * 9) rfl _ _ (HR.out _ HB6.out) Tryz.underlying43 rfl HSX.out ?_)
      | (refine wpList_oneR (by decide) infoVl2 Tryz.underlying38 rfl _ rfl (vlC x).toArray (by simp [vlC_len]) rfl ?_; intro w7 r7 hb7; have HR7 := zh r7; have HB7 := zh (HB6.out.trans (hb7.mono HS6.out)); have HO7 := zh (own_below HO6.out hb7 (zL _)); have HS7 := zh (zM HS6.out hb7.size); clear r7 hb7)
      | (at_builtin; refine wpList_moreS _ rfl _ _ 38 rfl 43 (.agg (vlC vl0).toArray) 9 80 Tryz.underlying38 infoVlZ rfl (by decide) G0 X6 (kl + 1) d6 (K.flatMap vlC ++ vlC ⟨s, e⟩) rfl HO7.out w6.heap.size (vlC x) rfl (vlC_len _) (row_cells HR7.out) (vlC_one _) (by unfold maxLen; omega) (by omega) HS7.out ?_; intro X8 d8 w8 hown8 hb8 _ _; have HO8 := zh hown8; have HB8 := zh (HB7.out.trans hb8); have HS8 := zh (zM HS7.out hb8.size); clear hown8 hb8))
     have HO9 := HO8.out
     rw [show K.flatMap vlC ++ vlC ⟨s, e⟩ ++ vlC x = (wiK xs s e (i + 1)).flatMap vlC by rw [HK1.out]; simp [List.flatMap_append], show kl + 1 + 1 = (wiK xs s e (i + 1)).length by rw [hKL]] at HO9
     have HO9 := zh HO9
     go_roundw
     case rel => exact ⟨i + 1, d8, X8, by omega, by rw [hKL], by rw [zE (by omega)], by go_num, HO9, HB8⟩
     case measure => simp [intOf]; omega
    ·obtain ⟨h1, _, h2, _⟩ := HHAS.out rfl
     rw [show decide ((xs.getD i vl0).s = s) = true from zE h2] at heq
     have hK1 := HPUT.out hlt h1
     clear h1 h2 HHAS HNOT HINS HPUT HEND HLAST HLATE HEARLY
     generalize hxx : xs.getD i vl0 = x at *
     go_upto_region 8 with fail
     have hbd : Below wr.heap.size wr (wr) := zB _ _
     skip
     have HOd := zh (own_below HO.out hbd (zL _))
     have HEd := zh (HEr.out.below hbd HEr.out.lt)
     have HBg := zh (HW.out.trans (hbd.mono HG9.out))
     have HSd := zh (zM HG9.out hbd.size)
     clear hbd HO HEr HW HG9 HBWr
     obtain ⟨wd, hwd, HBD⟩ : ∃ wd, wd = wr ∧ Hid (Below wr.heap.size wr wd) := ⟨wr, rfl, zB _ _⟩
     rw [← hwd] at HOd HEd HBg HSd ⊢
     clear hwd
     have hKL : (wiK xs s e (i + 1)).length = (wiK xs s e i).length + 1 := by rw [hK1]; simp
     have HK1 := zh hK1
     clear hK1
     generalize hKK : wiK xs s e i = K at *
     generalize hkl : K.length = kl at *
     go_wp2_with (first
      | (refine wpList_loadS (by rfl) _ _ rfl w.heap.size rfl _ _ _ HEd.out Tryz.underlying41 rfl (by kernel_rfl) ?_)
      | (refine wpList_oneR (by decide) infoVl2 Tryz.underlying38 rfl _ rfl (vlC ⟨s, e⟩).toArray (by simp [vlC_len]) HVV.out ?_; intro w5 r5 hb5; have HR5 := zh r5; have HB5 := zh (HBg.out.trans (hb5.mono HSd.out)); have HO5 := zh (own_below HOd.out hb5 (zL _)); have HS5 := zh (zM HSd.out hb5.size); clear r5 hb5)
      | (at_builtin; refine wpList_moreS _ rfl _ _ 38 rfl 43 (.agg (vlC vl0).toArray) 9 80 Tryz.underlying38 infoVlZ rfl (by decide) G0 X kl d (K.flatMap vlC) rfl HO5.out wd.heap.size (vlC ⟨s, e⟩) rfl (vlC_len _) (row_cells HR5.out) (vlC_one _) (by unfold maxLen; omega) (by omega) HS5.out ?_; intro X6 d6 w6 hown6 hb6 _ _; have HO6 := zh hown6; have HB6 := zh (HB5.out.trans hb6); have HS6 := zh (zM HS5.out hb6.size); clear hown6 hb6))
     have HO9 := HO6.out
     rw [show K.flatMap vlC ++ vlC ⟨s, e⟩ = (wiK xs s e (i + 1)).flatMap vlC by rw [HK1.out]; simp [List.flatMap_append], show kl + 1 = (wiK xs s e (i + 1)).length by rw [hKL]] at HO9
     have HO9 := zh HO9
     go_roundw
     case rel => exact ⟨i + 1, d6, X6, by omega, by rw [hKL], by rw [zE (by omega)], by go_num, HO9, HB6⟩
     case measure => simp [intOf]; omega
   ·rw [show decide (p < i) = true from zE hip] at *
    clear HHAS HNOT HINS HPUT HEND HLAST HEARLY
    generalize hxx : xs.getD i vl0 = x at *
    go_upto_region 11 with fail
    have hbd : Below wr.heap.size wr (wr) := zB _ _
    skip
    have HOd := zh (own_below HO.out hbd (zL _))
    have HEd := zh (HEr.out.below hbd HEr.out.lt)
    have HBg := zh (HW.out.trans (hbd.mono HG9.out))
    have HSd := zh (zM HG9.out hbd.size)
    clear hbd HO HEr HW HG9 HBWr
    obtain ⟨wd, hwd, HBD⟩ : ∃ wd, wd = wr ∧ Hid (Below wr.heap.size wr wd) := ⟨wr, rfl, zB _ _⟩
    rw [← hwd] at HOd HEd HBg HSd ⊢
    clear hwd
    have hK1 := HLATE.out i hip hlt
    rw [hxx] at hK1
    have hKL : (wiK xs s e (i + 1)).length = (wiK xs s e i).length + 1 := by rw [hK1, zA7]; rfl
    have HK1 := zh hK1
    clear hK1
    generalize hKK : wiK xs s e i = K at *
    generalize hkl : K.length = kl at *
    go_wp2_with (first
     | (refine wpList_ldIn (by rfl) _ _ rfl bk (o + i * 9) rfl _ _ (HR.out _ HBg.out) Tryz.underlying43 rfl HSX.out ?_)
     | (refine wpList_oneR (by decide) infoVl2 Tryz.underlying38 rfl _ rfl (vlC x).toArray (by simp [vlC_len]) rfl ?_; intro w5 r5 hb5; have HR5 := zh r5; have HB5 := zh (HBg.out.trans (hb5.mono HSd.out)); have HO5 := zh (own_below HOd.out hb5 (zL _)); have HS5 := zh (zM HSd.out hb5.size); clear r5 hb5)
     | (at_builtin; refine wpList_moreS _ rfl _ _ 38 rfl 43 (.agg (vlC vl0).toArray) 9 80 Tryz.underlying38 infoVlZ rfl (by decide) G0 X kl d (K.flatMap vlC) rfl HO5.out wd.heap.size (vlC x) rfl (vlC_len _) (row_cells HR5.out) (vlC_one _) (by unfold maxLen; omega) (by omega) HS5.out ?_; intro X6 d6 w6 hown6 hb6 _ _; have HO6 := zh hown6; have HB6 := zh (HB5.out.trans hb6); have HS6 := zh (zM HS5.out hb6.size); clear hown6 hb6))
    have HO9 := HO6.out
    rw [show K.flatMap vlC ++ vlC x = (wiK xs s e (i + 1)).flatMap vlC by rw [HK1.out]; simp [List.flatMap_append], show kl + 1 = (wiK xs s e (i + 1)).length by rw [hKL]] at HO9
    have HO9 := zh HO9
    go_roundw
    case rel => exact ⟨i + 1, d6, X6, by omega, by rw [hKL], by rw [zE (by omega)], by go_num, HO9, HB6⟩
    case measure => simp [intOf]; omega
  ·obtain rfl : i = n := by omega
   by_cases hpn : p < i
   ·rw [show decide (p < i) = true from zE hpn]
    have hend := HEND.out hpn
    rw [hend] at HO ⊢
    have HB9 := zh HBWr.out
    go_wp2_with fail
    exact HQ.out _ _ ⟨X, d, rfl, own_lsV HO.out, HB9.out⟩
   ·rw [show decide (p < i) = false from zF hpn]
    have hK1 := HLAST.out (by omega)
    have hKL : (wiV xs s e).length = (wiK xs s e i).length + 1 := by rw [← hK1]; simp
    have hKl := HLEN.out i
    have HK1 := zh hK1
    have HBg := HW
    have HOd := HO
    have HSd := HG9
    clear hK1
    generalize hKK : wiK xs s e i = K at *
    generalize hkl : K.length = kl at *
    go_wp2_with (first
     | (refine wpList_loadS (by rfl) _ _ rfl w.heap.size rfl _ _ _ HEr.out Tryz.underlying41 rfl (by kernel_rfl) ?_)
     | (refine wpList_oneR (by decide) infoVl2 Tryz.underlying38 rfl _ rfl (vlC ⟨s, e⟩).toArray (by simp [vlC_len]) HVV.out ?_; intro w5 r5 hb5; have HR5 := zh r5; have HB5 := zh (HBg.out.trans (hb5.mono HSd.out)); have HO5 := zh (own_below HOd.out hb5 (zL _)); have HS5 := zh (zM HSd.out hb5.size); clear r5 hb5)
     | (at_builtin; refine wpList_moreS _ rfl _ _ 38 rfl 43 (.agg (vlC vl0).toArray) 9 80 Tryz.underlying38 infoVlZ rfl (by decide) G0 X kl d (K.flatMap vlC) rfl HO5.out wr.heap.size (vlC ⟨s, e⟩) rfl (vlC_len _) (row_cells HR5.out) (vlC_one _) (by unfold maxLen; omega) (by omega) HS5.out ?_; intro X6 d6 w6 hown6 hb6 _ _; have HO6 := zh hown6; have HB6 := zh (HB5.out.trans hb6); have HS6 := zh (zM HS5.out hb6.size); clear hown6 hb6))
    have HO9 := HO6.out
    rw [show K.flatMap vlC ++ vlC ⟨s, e⟩ = (wiV xs s e).flatMap vlC by rw [← HK1.out]; simp [List.flatMap_append]] at HO9
    exact HQ.out _ _ ⟨X6, d6, by rw [hKL]; rfl, own_lsV HO9, HB3.out.trans (HB6.out.mono (by rw [← hG0]; exact HB3.out.size))⟩
end
section
open Go.RowKit RM Go.Maps A18
def bigL (l : List Vl) : Bool := l.any vvBig || decide (200 < l.length)
theorem bigAs_one (g : Nat) (A : Option Addr) (c : Nat) (l : List Vl) : bigAs ⟨none, 0, [], some ⟨g, 0, none⟩, 1, [⟨A, c, l⟩]⟩ = bigL l := by
 unfold bigAs bigL fsum
 simp [rwBig]
theorem bigL_no {l : List Vl} (h : bigL l = false) : l.length ≤ 200 ∧ ∀ v ∈ l, v.s.size ≤ 40 := by
 unfold bigL at h
 simp only [Bool.or_eq_false_iff, decide_eq_false_iff_not, List.any_eq_false] at h
 refine ⟨by omega, fun v hv => ?_⟩
 have := h.1 v hv
 unfold vvBig at this
 simp only [decide_eq_true_eq] at this
 omega
theorem wiV_len2 (l : List Vl) (s : ByteArray) (e : El) : (wiV l s e).length ≤ l.length + 1 := by
 have h1 := wiV_len l s e
 have h2 := poV_re l s
 omega
theorem getR_lit {l : List Vl} {s : ByteArray} : ∃ f0 f1 f2 f3 f4 f5 f6 f7 : Nat, ∃ b : Bool, ∃ h : EW [f0, f1, f2, f3, f4, f5, f6, f7], getV l s = (⟨[f0, f1, f2, f3, f4, f5, f6, f7], h⟩, b) := by
 generalize getV l s = g
 obtain ⟨⟨e, he⟩, b⟩ := g
 obtain ⟨f0, f1, f2, f3, f4, f5, f6, f7, rfl⟩ := ew_lit he
 exact ⟨f0, f1, f2, f3, f4, f5, f6, f7, b, he, rfl⟩
theorem eql_lit {f0 f1 f2 f3 f4 f5 f6 f7 : Nat} (h : EW [f0, f1, f2, f3, f4, f5, f6, f7]) (W : World) : (binOp .eql 41 (.agg #[.int .u64 f0, .int .u64 f1, .int .u64 f2, .int .u64 f3, .int .u64 f4, .int .u64 f5, .int .u64 f6, .int .u64 f7]) (.agg #[.int .u64 f0, .int .u64 f1, .int .u64 f2, .int .u64 f3, .int .u64 f4, .int .u64 f5, .int .u64 f6, .int .u64 f7])).run Tryz.prog W = .ok (.bool true) W := by
 have := run_eql_elem h h W
 rw [zE rfl] at this
 exact this
theorem rng_e {W : World} {g : Nat} {s : ByteArray} {e0 e1 e2 e3 e4 e5 e6 e7 : Nat} (h : RowAt W g 43 #[.string s, .int .u64 e0, .int .u64 e1, .int .u64 e2, .int .u64 e3, .int .u64 e4, .int .u64 e5, .int .u64 e6, .int .u64 e7]) : W.rangeAt g 1 [.int .u64 e0, .int .u64 e1, .int .u64 e2, .int .u64 e3, .int .u64 e4, .int .u64 e5, .int .u64 e6, .int .u64 e7] := fun j u hu => by
 rw [h.cell (1 + j)]
 rw [Nat.add_comm 1 j]
 simpa using hu
theorem qf_lit {W : World} {A B : Option Addr} {c m : Nat} {l : List Vl} (hM : l.length = m) (hm : m ≤ maxLen) (hA : Ls vlC W A l) (hB : Ls vlC W B l) : Calls Tryz.prog 25 #[.slice A m m, .slice B m c] W fun x w' => x = .returned (.bool true) ∧ Below W.heap.size W w' := by
 have := qfields_any A B m c l l W (by rw [hM]; exact hm) hA hB
 rw [hM, zE rfl] at this
 exact this
end
section
open Go.ChangeShapes Go.WideShapes Go.ChangeAt Go.RowKit RM
section
variable {H : Type} {enc : TypeId × Value → H} {w w2 : World} {r : Reach} {b0 : Nat}
theorem elem_open {base fuel : Nat} {spare : Nat → Bool} {held : Bool} {cs : List Value} {x : DataW H × List MemPlace} (hf : DataW.trod enc Tryz.prog w base spare held fuel 41 cs = some x) : ∃ e, cs = ucells e ∧ EW e := by
 obtain ⟨ys, m, _, _, hsz, hyl, hya⟩ := DataW.trod_array Tryz.underlying41 hf
 rw [show Tryz.prog.cellsOf 41 = 8 by kernel_rfl] at hsz
 obtain ⟨k, hk, hb⟩ := words_of cs fun v hv => by
  obtain ⟨i, hi, he⟩ := List.mem_iff_getElem.1 hv
  have h2 := hya i (by omega)
  rw [List.getElem?_eq_getElem (by omega), show Tryz.prog.cellsOf 39 = 1 by kernel_rfl] at h2
  obtain ⟨q, e1, _, hw⟩ := DataW.trod_int Tryz.underlying39 h2
  have e2 : (List.take 1 (List.drop (i * 1) cs)) = [cs[i]] := by
   rw [Nat.mul_one, List.drop_eq_getElem_cons hi]
   rfl
  have e3 : [cs[i]] = [Value.int .u64 q] := e2.symm.trans e1
  rw [he] at e3
  have e4 : v = .int .u64 q := by simpa using e3
  have hbd := bounds_u64 hw
  obtain ⟨z, rfl⟩ := Int.eq_ofNat_of_zero_le (show 0 ≤ q by omega)
  exact ⟨z, e4, by omega⟩
 refine ⟨k, hk, ?_, hb⟩
 have := congrArg List.length hk
 rw [List.length_map] at this
 omega
end
end
section
open Go.ChangeShapes Go.WideShapes Go.ChangeAt Go.RowKit RM
section
variable {H : Type} {enc : TypeId × Value → H} {w w2 : World} {r : Reach} {b0 : Nat}
theorem flatZ_len {α : Type} (g : α → List Value) (k : Nat) (hk : ∀ x, (g x).length = k) : ∀ fs : List α, (fs.flatMap g).length = fs.length * k
 | [] => by simp
 | y :: ys => by rw [List.flatMap_cons, zA7, hk, flatZ_len g k hk ys, zA8, Nat.add_mul]; omega
theorem list_of' {α : Type} (d : α) {P : Nat → α → Prop} : ∀ n, (∀ i, i < n → ∃ f, P i f) → ∃ fs : List α, fs.length = n ∧ ∀ i, i < n → P i (fs.getD i d)
 | 0, _ => ⟨[], rfl, fun i hi => by omega⟩
 | n + 1, h => by
   obtain ⟨xs, hl, hx⟩ := list_of' d n fun i hi => h i (by omega)
   obtain ⟨f, hp⟩ := h n (by omega)
   refine ⟨xs ++ [f], by simp [hl], fun i hi2 => ?_⟩
   by_cases e : i = n
   ·subst e
    rw [List.getD_eq_getElem?_getD, List.getElem?_append_right (by omega), hl]
    simpa using hp
   ·rw [List.getD_eq_getElem?_getD, List.getElem?_append_left (by omega), ← List.getD_eq_getElem?_getD]
    exact hx i (by omega)
theorem ls_open {α : Type} {g : α → List Value} {P : α → Prop} (d : α) (k : Nat) (hk : ∀ x, (g x).length = k) (hk0 : 0 < k) {t e : TypeId} (ht : Tryz.prog.underlying t = some (.slice e)) (hc : Tryz.prog.cellsOf e = k)
 (each : ∀ (fuel : Nat) (cs : List Value) (x : DataW H × List MemPlace), DataW.trod enc Tryz.prog w 0 (fun _ => true) true fuel e cs = some x → ∃ y, cs = g y ∧ P y)
 {fuel : Nat} {cs : List Value} {x : DataW H × List MemPlace} (hf : DataW.trod enc Tryz.prog w 0 (fun _ => true) true fuel t cs = some x) :
 ∃ A c, ∃ xs : List α, cs = [.slice A xs.length c] ∧ (A = none → c = 0) ∧ xs.length ≤ c ∧ c ≤ maxLen ∧ Ls g w A xs ∧ ∀ y ∈ xs, P y := by
 rcases Go.Deep.open_slice ht hf with ⟨hcs, _⟩ | ⟨a, len', cap', m, n, D, Pl, hcs, _, hl, hm, hmm, _, hi⟩
 ·exact ⟨none, 0, [], hcs, fun _ => rfl, zL _, Nat.zero_le _, Ls.nil, fun y hy => by simp at hy⟩
 ·have hlm : len' ≤ m := by rw [hmm]; split <;> omega
  rw [hc] at hi
  obtain ⟨fs, hfl, hfx⟩ := list_of' (P := fun i f => w.cells? 0 (a.add (i * k)) k = some (g f) ∧ P f) d len' fun i hi2 => by
   obtain ⟨cs', h1, h2⟩ := hi i (by omega)
   obtain ⟨f, rfl, hok⟩ := each _ _ _ h2
   exact ⟨f, h1, hok⟩
  subst hfl
  have hok : ∀ f ∈ fs, P f := fun f hf => by
   obtain ⟨i, hi2, rfl⟩ := List.mem_iff_getElem.1 hf
   have := (hfx i hi2).2
   rw [List.getD_eq_getElem?_getD, List.getElem?_eq_getElem hi2] at this
   exact this
  refine ⟨some a, cap', fs, hcs, (fun h => by cases h), hl, hm, fun hne => ?_, hok⟩
  have hp : 0 < fs.length := by
   rcases Nat.eq_zero_or_pos fs.length with h | h
   ·rw [List.eq_nil_of_length_eq_zero h] at hne; simp at hne
   ·exact h
  have hcell : ∀ i j, i < fs.length → j < k → w.cell? ((a.add (i * k)).add j) = (g (fs.getD i d))[j]? := fun i j h1 h2 => by
   obtain ⟨_, _, hat⟩ := World.cells?_some (hfx i h1).1
   exact hat j h2
  obtain ⟨b, off, spot⟩ := a
  have h00 := hcell 0 0 hp hk0
  rw [List.getElem?_eq_getElem (by rw [hk]; exact hk0)] at h00
  have hspot : spot = none := by simpa [Addr.add] using World.cell?_spot h00
  subst hspot
  have hcc : ∀ i j, i < fs.length → j < k → w.cell? ⟨b, off + i * k + j, none⟩ = (g (fs.getD i d))[j]? := fun i j h1 h2 => by
   rw [← hcell i j h1 h2, Go.WideShapes.add_plain, Go.WideShapes.add_plain]
  have h00' := hcc 0 0 hp hk0
  rw [List.getElem?_eq_getElem (by rw [hk]; exact hk0)] at h00'
  refine ⟨b, off, rfl, World.block_lt_of_cell? w ⟨b, off + 0 * k + 0, none⟩ h00', fun j u hu => ?_⟩
  have hlen := flatZ_len g k hk fs
  have hj : j < fs.length * k := by
   have := (List.getElem?_eq_some_iff.1 hu).1
   rw [hlen] at this
   exact this
  have hd : j / k < fs.length := by rw [Nat.div_lt_iff_lt_mul hk0]; exact hj
  have hmo := Nat.mod_lt j hk0
  have hdm : j / k * k + j % k = j := by rw [Nat.mul_comm]; exact Nat.div_add_mod j k
  have h1 := flat_at g k hk d fs (j / k) (j % k) hd hmo
  rw [hdm] at h1
  have h2 := hcc (j / k) (j % k) hd hmo
  rw [show off + j / k * k + j % k = off + j by omega] at h2
  rw [h2, ← h1]; exact hu
end
end
section
open Go.ChangeShapes Go.WideShapes Go.ChangeAt Go.RowKit RM
section
variable {H : Type} {enc : TypeId × Value → H} {w w2 : World} {r : Reach} {b0 : Nat}
theorem vl_open (fuel : Nat) (l : List Value) (x : DataW H × List MemPlace) (hf : DataW.trod enc Tryz.prog w 0 (fun _ => true) true fuel 43 l = some x) :
 ∃ y : Vl, l = vlC y ∧ y.s.size ≤ maxLen := by
 obtain ⟨xs, m, _, _, hsz, hlen, hat⟩ := DataW.trod_struct Tryz.underlying43 hf
 rw [show Tryz.prog.cellsOf 43 = 9 by kernel_rfl] at hsz
 have hlen2 : xs.length = 2 := hlen
 have h0 : DataW.trod enc Tryz.prog w 0 (fun _ => true) true m 9 (List.take (Tryz.prog.cellsOf 9) (List.drop 0 l)) = xs[0]? := hat 0 _ rfl
 have h1 : DataW.trod enc Tryz.prog w 0 (fun _ => true) true m 41 (List.take (Tryz.prog.cellsOf 41) (List.drop 1 l)) = xs[1]? := hat 1 _ rfl
 rw [List.getElem?_eq_getElem (by omega)] at h0 h1
 rw [show Tryz.prog.cellsOf 9 = 1 by kernel_rfl] at h0
 rw [show Tryz.prog.cellsOf 41 = 8 by kernel_rfl] at h1
 obtain ⟨s, e0, _, hs⟩ := DataW.trod_string Tryz.underlying9 h0
 obtain ⟨e, e1, he⟩ := elem_open h1
 match l, hsz with
 | u :: l, hsz =>
   have hl : l.length = 8 := by simpa using hsz
   simp only [List.drop_succ_cons, List.drop_zero, List.take_succ_cons, List.take_zero, List.cons.injEq, and_true] at e0 e1
   rw [List.take_of_length_le (by omega)] at e1
   subst e0 e1
   exact ⟨⟨s, ⟨e, he⟩⟩, rfl, hs⟩
theorem open_vl {v : Value} {d : DataW H} {ps : List MemPlace} (hval : Value.okWide Tryz.prog w2 r b0 43 v) (hd : DataW.Trod enc Tryz.prog w 0 (fun _ => true) true 43 v d ps) :
 ∃ y : Vl, v = .agg (vlC y).toArray ∧ y.s.size ≤ maxLen := by
 obtain ⟨cs, rfl, _⟩ := okWide_struct Tryz.underlying43 hval
 obtain ⟨l⟩ := cs
 obtain ⟨fuel, hf⟩ := hd
 have hf' : DataW.trod enc Tryz.prog w 0 (fun _ => true) true fuel 43 l = some (d, ps) := hf
 obtain ⟨y, rfl, hs⟩ := vl_open _ _ _ hf'
 exact ⟨y, rfl, hs⟩
theorem open_vals {v : Value} {d : DataW H} {ps : List MemPlace} (hval : Value.okWide Tryz.prog w2 r b0 38 v) (hd : DataW.Trod enc Tryz.prog w 0 (fun _ => true) true 38 v d ps) :
 ∃ A c, ∃ l : List Vl, v = .slice A l.length c ∧ RwIn w ⟨A, c, l⟩ := by
 obtain ⟨A, n, c, rfl⟩ := okWide_slice Tryz.underlying38 hval
 obtain ⟨fuel, hf⟩ := hd
 obtain ⟨A', c', l, e, hn, h1, h2, hL, hP⟩ := ls_open (g := vlC) (P := fun x => x.s.size ≤ maxLen) vl0 9 vlC_len (by omega) Tryz.underlying38 (by kernel_rfl) vl_open hf
 have e2 : Value.slice A n c = Value.slice A' l.length c' := by simpa [Value.cells] using e
 injection e2 with e3 e4 e5
 subst e3 e4 e5
 exact ⟨A, c, l, rfl, ⟨hL, h1, h2, hn, hP⟩⟩
end
end
end Go.Proofs.YtnfndapgcpdcpaaGreatDoor
