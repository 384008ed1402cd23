/-
  What Const, Label, Row and Words of package term return. Conditions: at most 2^32 trees (Words: lists of at most 2^41).
-/
import Derived.Test.YtapnefhmonpgdaaTermL
namespace Go.Proofs.Ytapnefhmonpgdaa
open Go.RowKit LX TR TM

theorem ret_csc {P : Program} {fn : Func} {p q r : Tmp} {ty ty2 : TypeId} (h : fn.results = #[.cell p ty, .tmp q, .cell r ty2]) (tmps : Array Value) (w : World) (v : Value) (g g2 : Nat) (t t2 : TypeId) (cs cs2 : Array Value) (d d2 : TypeDesc)
    (hv : tmps.getD q undef = v) (hp : tmps.getD p undef = .pointer (some ⟨g, 0, none⟩)) (hr : tmps.getD r undef = .pointer (some ⟨g2, 0, none⟩)) (hg : w.heap[g]? = some (.cells cs t (0, 0))) (hg2 : w.heap[g2]? = some (.cells cs2 t2 (0, 0)))
    (hu : P.underlying ty = some d) (hd : (match d with | .struct _ | .array _ _ => true | _ => false) = true) (hi : (P.info? ty).map (·.size) = some cs.size)
    (hu2 : P.underlying ty2 = some d2) (hd2 : (match d2 with | .struct _ | .array _ _ => true | _ => false) = true) (hi2 : (P.info? ty2).map (·.size) = some cs2.size) :
    (results fn tmps).run P w = .ok (.tuple #[.agg cs, v, .agg cs2]) w := by
  have hp' : tmps[p]?.getD undef = .pointer (some ⟨g, 0, none⟩) := by simpa using hp
  have hr' : tmps[r]?.getD undef = .pointer (some ⟨g2, 0, none⟩) := by simpa using hr
  have hv' : tmps[q]?.getD undef = v := by simpa using hv
  simp [results, h, hp', hr', hv', asAddr, run_loadVar_row w g t ty cs (0, 0) d hg hu hd hi, run_loadVar_row w g2 t2 ty2 cs2 (0, 0) d2 hg2 hu2 hd2 hi2]
theorem ret_ssc {P : Program} {fn : Func} {p q r : Tmp} {ty2 : TypeId} (h : fn.results = #[.tmp p, .tmp q, .cell r ty2]) (tmps : Array Value) (w : World) (u v : Value) (g2 : Nat) (t2 : TypeId) (cs2 : Array Value) (d2 : TypeDesc)
    (hp : tmps.getD p undef = u) (hv : tmps.getD q undef = v) (hr : tmps.getD r undef = .pointer (some ⟨g2, 0, none⟩)) (hg2 : w.heap[g2]? = some (.cells cs2 t2 (0, 0)))
    (hu2 : P.underlying ty2 = some d2) (hd2 : (match d2 with | .struct _ | .array _ _ => true | _ => false) = true) (hi2 : (P.info? ty2).map (·.size) = some cs2.size) :
    (results fn tmps).run P w = .ok (.tuple #[u, v, .agg cs2]) w := by
  have hp' : tmps[p]?.getD undef = u := by simpa using hp
  have hr' : tmps[r]?.getD undef = .pointer (some ⟨g2, 0, none⟩) := by simpa using hr
  have hv' : tmps[q]?.getD undef = v := by simpa using hv
  simp [results, h, hp', hr', hv', asAddr, run_loadVar_row w g2 t2 ty2 cs2 (0, 0) d2 hg2 hu2 hd2 hi2]
theorem DeepN.setCell9 {w : World} {ok : Nat → Prop} {l : List Nd} (h : DeepN w ok l) {p : Addr} (hk : ∀ k, ok k → k ≠ p.block) (u : Value) : DeepN (w.setCell p u) ok l :=
  h.keep9 fun k _ ho => by
    simp only [World.setCell, Array.getElem?_modify]
    rw [if_neg (Ne.symm (hk k ho))]
theorem DeepN.drew9 {w : World} {ok : Nat → Prop} {l : List Nd} (h : DeepN w ok l) : DeepN w.drew ok l := h.keep9 fun _ _ _ => rfl
/-- What a call that reads one node hands back. -/
def Handed (s : Nat) (rd : Rdr Nd) (l : List Tr) (i e : Int) (v : Value) (w : World) : Prop := match rd (rest l i) e with
  | .error p => v = .tuple #[.agg (nv n0), .int .i64 0, .agg #[.int .i64 2, .int .i64 p]]
  | .ok (x, r) => ∃ z i2, v = .tuple #[.agg (nv z), .int .i64 i2, .agg #[.int .i64 0, .int .i64 0]] ∧ er1 z = x ∧ DeepN w (fun k => s ≤ k) [z] ∧ Adv l i i2 ∧ r = rest l i2

set_option maxRecDepth 100000 in
set_option maxHeartbeats 800000 in
theorem parseN_any {F : FuncId} {rd : Rdr Nd} {N : Nat} (hf : ∀ args w, (callFunc F args).run Try.prog w = .ok (.enter F args) w) (HF : Reads F NodeV rd N) (A : Option Addr) (c : Nat) (l : List Tr) (i e : Int) (w : World)
    (hT : Trs w w.heap.size A l) (hl : l.length ≤ 2199023255552 ∧ ∀ x ∈ nodes l, x.ks.length ≤ 2199023255552) (hN : (nodes (rest l i)).length ≤ N) :
    Calls Try.prog 58 #[.slice A l.length c, .int .i64 i, .int .i64 e, .func (.func F) #[] #[]] w fun e' w' => ∃ v, e' = .returned v ∧ Handed w.heap.size rd l i e v w' ∧ Below w.heap.size w w' := by
  have hbz : Below w.heap.size w (((w.alloc (.cells #[.int .i64 0, .int .i64 0, .string ⟨#[]⟩, .slice none 0 0, .slice none 0 0] 32)).alloc (.cells #[.int .i64 0, .int .i64 0] 27)).alloc (.cells (rdc A l.length c i e 0 0) 95)) := (((Below.refl _ _).alloc (Nat.le_refl _) _).alloc (by simp) _).alloc (by simp; omega) _
  have hg0 := ((RowAt.new w 32 #[.int .i64 0, .int .i64 0, .string ⟨#[]⟩, .slice none 0 0, .slice none 0 0]).alloc (.cells #[.int .i64 0, .int .i64 0] 27)).alloc (.cells (rdc A l.length c i e 0 0) 95)
  have hf0 := (RowAt.new (w.alloc (.cells #[.int .i64 0, .int .i64 0, .string ⟨#[]⟩, .slice none 0 0, .slice none 0 0] 32)) 27 #[.int .i64 0, .int .i64 0]).alloc (.cells (rdc A l.length c i e 0 0) 95)
  rw [show (w.alloc (.cells #[.int .i64 0, .int .i64 0, .string ⟨#[]⟩, .slice none 0 0, .slice none 0 0] 32)).heap.size = w.heap.size + 1 by simp] at hf0
  have hb0 := RowAt.new ((w.alloc (.cells #[.int .i64 0, .int .i64 0, .string ⟨#[]⟩, .slice none 0 0, .slice none 0 0] 32)).alloc (.cells #[.int .i64 0, .int .i64 0] 27)) 95 (rdc A l.length c i e 0 0)
  rw [show ((w.alloc (.cells #[.int .i64 0, .int .i64 0, .string ⟨#[]⟩, .slice none 0 0, .slice none 0 0] 32)).alloc (.cells #[.int .i64 0, .int .i64 0] 27)).heap.size = w.heap.size + 2 by simp] at hb0
  have HS0 : Hid (Rs (((w.alloc (.cells #[.int .i64 0, .int .i64 0, .string ⟨#[]⟩, .slice none 0 0, .slice none 0 0] 32)).alloc (.cells #[.int .i64 0, .int .i64 0] 27)).alloc (.cells (rdc A l.length c i e 0 0) 95)) (w.heap.size + 2) A c l i e none) := ⟨hb0, (hT.below hbz).mono (by omega), hl⟩
  have HG0 := Lib.hid hg0
  have HF0 := Lib.hid hf0
  have HB0 := Lib.hid hbz
  have HC := Lib.hid (HF _ _ _ _ _ _ _ _ HS0.out hN)
  clear hbz hg0 hf0 hb0 hT
  refine calls_hid fun Q' hQ => ?_
  have HQ := Lib.hid hQ; clear hQ
  unfold rdc at HS0 HG0 HF0 HB0 HC
  generalize hn : l.length = n at *
  have HNL := Lib.hid hn; clear hn
  go_enter Try.func58, Try.ntmps58
  go_wp2_with fail
  refine HC.out.mono ?_
  rintro e' w1 ⟨v, x, i2, f2, rfl, ⟨⟨zk, zp, zs, zA, zc, zw, zB, zd, zz⟩, rfl, hz, hdz⟩, hs1, hm1, hst⟩
  have hsz : w.heap.size + 2 < w1.heap.size := hs1.lt
  have HG1 := Lib.hid (HG0.out.mv hm1 (by omega))
  have HF1 := Lib.hid (HF0.out.mv hm1 (by omega))
  have HB1 := Lib.hid (HB0.out.trans (hm1.low.mono (by omega)))
  have HS1 := Lib.hid hs1
  have HZ := Lib.hid hz
  have HDZ : Hid (DeepN w1 (fun k => w.heap.size + 3 ≤ k) [Nd.mk zk zp zs zA zc zw zB zd zz]) := hdz.weak fun k _ hk => by simpa using hk
  obtain ⟨c0, c1, c2, c3, c4⟩ := rd_cells HS1.out.at_
  obtain ⟨g0, g1, g2, g3, g4, u0, u1, u2, u3, u4⟩ := row5 HG1.out
  obtain ⟨m0, m1, v0, v1⟩ := row2 HF1.out
  unfold nv
  simp only [Nd.k, Nd.p, Nd.s, Nd.A, Nd.c, Nd.ws, Nd.B, Nd.d, Nd.ks]
  have HST := Lib.hid hst
  clear hs1 hm1 hst hz hdz HC HS0 HG0 HF0 HB0
  cases f2 with
  | some p =>
    simp only [fc, fa, Option.isSome_some, if_true, Option.getD_some] at c3 c4
    have HRD : Hid (rd (rest l i) e = .error p) := by
      rcases HST.out.cases with ⟨q, h1, ⟨_, h2⟩ | h2⟩ | ⟨_, h1, _⟩
      · obtain rfl := Option.some.inj h1; exact Lib.hid h2
      · cases h2
      · cases h1
    go_upto_region 5 with fail
    have hb2 : Below w1.heap.size w1 ((w1.alloc (.cells #[.int .i64 zk, .int .i64 zp, .string zs, .slice zA zw.length zc, .slice zB zz.length zd] 32)).alloc (.cells #[.int .i64 0, .int .i64 0, .string ⟨#[]⟩, .slice none 0 0, .slice none 0 0] 32)) := ((Below.refl _ _).alloc (Nat.le_refl _) _).alloc (by simp) _
    have HG2 := Lib.hid (HG1.out.below hb2 HG1.out.lt)
    have HF2 := Lib.hid (HF1.out.below hb2 HF1.out.lt)
    have HB2 := Lib.hid (HB1.out.trans (hb2.mono (by omega)))
    have HS2 := Lib.hid (HS1.out.below hb2)
    have HDZ2 := Lib.hid (HDZ.out.keep hb2.size (fun k hk _ => hb2.block k hk) (fun _ _ h => h))
    have h12 := RowAt.new w1 32 #[.int .i64 zk, .int .i64 zp, .string zs, .slice zA zw.length zc, .slice zB zz.length zd]
    have h13 := RowAt.new (w1.alloc (.cells #[.int .i64 zk, .int .i64 zp, .string zs, .slice zA zw.length zc, .slice zB zz.length zd] 32)) 32 #[.int .i64 0, .int .i64 0, .string ⟨#[]⟩, .slice none 0 0, .slice none 0 0]
    rw [show (w1.alloc (.cells #[.int .i64 zk, .int .i64 zp, .string zs, .slice zA zw.length zc, .slice zB zz.length zd] 32)).heap.size = w1.heap.size + 1 by simp] at h13
    have H12 := Lib.hid (h12.alloc (.cells #[.int .i64 0, .int .i64 0, .string ⟨#[]⟩, .slice none 0 0, .slice none 0 0] 32))
    have H13 := Lib.hid h13
    clear c0 c1 c2 c3 c4 g0 g1 g2 g3 g4 u0 u1 u2 u3 u4 m0 m1 v0 v1 h12 h13 hb2 HG1 HF1 HB1 HS1 HDZ
    generalize ((w1.alloc (.cells #[.int .i64 zk, .int .i64 zp, .string zs, .slice zA zw.length zc, .slice zB zz.length zd] 32)).alloc (.cells #[.int .i64 0, .int .i64 0, .string ⟨#[]⟩, .slice none 0 0, .slice none 0 0] 32)) = w2 at *
    obtain ⟨c0, c1, c2, c3, c4⟩ := rd_cells HS2.out.at_
    simp only [fc, fa, Option.isSome_some, Option.isSome_none, Bool.false_eq_true, if_true, if_false, Option.getD_some, Option.getD_none] at c3 c4
    obtain ⟨g0, g1, g2, g3, g4, u0, u1, u2, u3, u4⟩ := row5 HG2.out
    obtain ⟨m0, m1, v0, v1⟩ := row2 HF2.out
    obtain ⟨p0, p1, p2, p3, p4, _, _, _, _, _⟩ := row5 H13.out
    go_region
    go_wp2_with fail
    change bodyPost _ _ _ _ _ ((((set5 w2 w.heap.size (.int .i64 0) (.int .i64 0) (.string ⟨#[]⟩) (.slice none 0 0) (.slice none 0 0)).setCell ⟨w.heap.size + 1, 0, none⟩ (.int .i64 2)).setCell ⟨w.heap.size + 1, 1, none⟩ (.int .i64 p)).drew)
    have hgf : RowAt ((((set5 w2 w.heap.size (.int .i64 0) (.int .i64 0) (.string ⟨#[]⟩) (.slice none 0 0) (.slice none 0 0)).setCell ⟨w.heap.size + 1, 0, none⟩ (.int .i64 2)).setCell ⟨w.heap.size + 1, 1, none⟩ (.int .i64 p)).drew) w.heap.size 32 #[.int .i64 0, .int .i64 0, .string ⟨#[]⟩, .slice none 0 0, .slice none 0 0] := ((set5_row HG2.out).far (p := ⟨w.heap.size + 1, 0, none⟩) (by show w.heap.size + 1 ≠ w.heap.size; omega) _).far (p := ⟨w.heap.size + 1, 1, none⟩) (by show w.heap.size + 1 ≠ w.heap.size; omega) _ |>.drew
    have hf1 : RowAt (set5 w2 w.heap.size (.int .i64 0) (.int .i64 0) (.string ⟨#[]⟩) (.slice none 0 0) (.slice none 0 0)) (w.heap.size + 1) 27 #[.int .i64 0, .int .i64 0] := (set5_other (by omega)).trans HF2.out
    have hf2 := (hf1.put 0 (.int .i64 2)).put 1 (.int .i64 p)
    have hff : RowAt ((((set5 w2 w.heap.size (.int .i64 0) (.int .i64 0) (.string ⟨#[]⟩) (.slice none 0 0) (.slice none 0 0)).setCell ⟨w.heap.size + 1, 0, none⟩ (.int .i64 2)).setCell ⟨w.heap.size + 1, 1, none⟩ (.int .i64 p)).drew) (w.heap.size + 1) 27 #[.int .i64 2, .int .i64 p] := hf2.drew
    have hbf : Below w.heap.size w ((((set5 w2 w.heap.size (.int .i64 0) (.int .i64 0) (.string ⟨#[]⟩) (.slice none 0 0) (.slice none 0 0)).setCell ⟨w.heap.size + 1, 0, none⟩ (.int .i64 2)).setCell ⟨w.heap.size + 1, 1, none⟩ (.int .i64 p)).drew) := (((HB2.out.trans (set5_below (Nat.le_refl _))).setCell (p := ⟨w.heap.size + 1, 0, none⟩) (by show w.heap.size ≤ w.heap.size + 1; omega) _).setCell (p := ⟨w.heap.size + 1, 1, none⟩) (by show w.heap.size ≤ w.heap.size + 1; omega) _).drew
    exact bodyPost_ret (ret_csc rfl _ _ _ w.heap.size (w.heap.size + 1) _ _ _ _ _ _ rfl rfl rfl hgf hff Try.underlying32 rfl (node_info _ _ _ _ _) Try.underlying27 rfl (fault_info _ _)) rfl (HQ.out _ _ ⟨_, rfl, by unfold Handed; rw [HRD.out]; rfl, hbf⟩)
  | none =>
    simp only [fc, fa, Option.isSome_none, Bool.false_eq_true, if_false, Option.getD_none] at c3 c4
    have HRD : Hid (rd (rest l i) e = .ok (x, rest l i2)) := by
      rcases HST.out.cases with ⟨q, h1, _⟩ | ⟨_, _, h1⟩
      · cases h1
      · exact Lib.hid h1
    go_upto_region 6 with fail
    have hb2 : Below w1.heap.size w1 (w1.alloc (.cells #[.int .i64 zk, .int .i64 zp, .string zs, .slice zA zw.length zc, .slice zB zz.length zd] 32)) := (Below.refl _ _).alloc (Nat.le_refl _) _
    have HG2 := Lib.hid (HG1.out.below hb2 HG1.out.lt)
    have HF2 := Lib.hid (HF1.out.below hb2 HF1.out.lt)
    have HB2 := Lib.hid (HB1.out.trans (hb2.mono (by omega)))
    have HS2 := Lib.hid (HS1.out.below hb2)
    have HDZ2 := Lib.hid (HDZ.out.keep hb2.size (fun k hk _ => hb2.block k hk) (fun _ _ h => h))
    have h12 := RowAt.new w1 32 #[.int .i64 zk, .int .i64 zp, .string zs, .slice zA zw.length zc, .slice zB zz.length zd]
    have H12 := Lib.hid h12
    clear c0 c1 c2 c3 c4 g0 g1 g2 g3 g4 u0 u1 u2 u3 u4 m0 m1 v0 v1 h12 hb2 HG1 HF1 HB1 HS1 HDZ
    generalize (w1.alloc (.cells #[.int .i64 zk, .int .i64 zp, .string zs, .slice zA zw.length zc, .slice zB zz.length zd] 32)) = w2 at *
    obtain ⟨c0, c1, c2, c3, c4⟩ := rd_cells HS2.out.at_
    simp only [fc, fa, Option.isSome_some, Option.isSome_none, Bool.false_eq_true, if_true, if_false, Option.getD_some, Option.getD_none] at c3 c4
    obtain ⟨g0, g1, g2, g3, g4, u0, u1, u2, u3, u4⟩ := row5 HG2.out
    obtain ⟨m0, m1, v0, v1⟩ := row2 HF2.out
    obtain ⟨p0, p1, p2, p3, p4, _, _, _, _, _⟩ := row5 H12.out
    go_region
    go_wp2_with fail
    change bodyPost _ _ _ _ _ ((((set5 w2 w.heap.size (.int .i64 zk) (.int .i64 zp) (.string zs) (.slice zA zw.length zc) (.slice zB zz.length zd)).setCell ⟨w.heap.size + 1, 0, none⟩ (.int .i64 0)).setCell ⟨w.heap.size + 1, 1, none⟩ (.int .i64 0)).drew)
    have hgf : RowAt ((((set5 w2 w.heap.size (.int .i64 zk) (.int .i64 zp) (.string zs) (.slice zA zw.length zc) (.slice zB zz.length zd)).setCell ⟨w.heap.size + 1, 0, none⟩ (.int .i64 0)).setCell ⟨w.heap.size + 1, 1, none⟩ (.int .i64 0)).drew) w.heap.size 32 #[.int .i64 zk, .int .i64 zp, .string zs, .slice zA zw.length zc, .slice zB zz.length zd] := ((set5_row HG2.out).far (p := ⟨w.heap.size + 1, 0, none⟩) (by show w.heap.size + 1 ≠ w.heap.size; omega) _).far (p := ⟨w.heap.size + 1, 1, none⟩) (by show w.heap.size + 1 ≠ w.heap.size; omega) _ |>.drew
    have hf1 : RowAt (set5 w2 w.heap.size (.int .i64 zk) (.int .i64 zp) (.string zs) (.slice zA zw.length zc) (.slice zB zz.length zd)) (w.heap.size + 1) 27 #[.int .i64 0, .int .i64 0] := (set5_other (by omega)).trans HF2.out
    have hf2 := (hf1.put 0 (.int .i64 0)).put 1 (.int .i64 0)
    have hff : RowAt ((((set5 w2 w.heap.size (.int .i64 zk) (.int .i64 zp) (.string zs) (.slice zA zw.length zc) (.slice zB zz.length zd)).setCell ⟨w.heap.size + 1, 0, none⟩ (.int .i64 0)).setCell ⟨w.heap.size + 1, 1, none⟩ (.int .i64 0)).drew) (w.heap.size + 1) 27 #[.int .i64 0, .int .i64 0] := hf2.drew
    have hbf : Below w.heap.size w ((((set5 w2 w.heap.size (.int .i64 zk) (.int .i64 zp) (.string zs) (.slice zA zw.length zc) (.slice zB zz.length zd)).setCell ⟨w.heap.size + 1, 0, none⟩ (.int .i64 0)).setCell ⟨w.heap.size + 1, 1, none⟩ (.int .i64 0)).drew) := (((HB2.out.trans (set5_below (Nat.le_refl _))).setCell (p := ⟨w.heap.size + 1, 0, none⟩) (by show w.heap.size ≤ w.heap.size + 1; omega) _).setCell (p := ⟨w.heap.size + 1, 1, none⟩) (by show w.heap.size ≤ w.heap.size + 1; omega) _).drew
    have hdf : DeepN ((((set5 w2 w.heap.size (.int .i64 zk) (.int .i64 zp) (.string zs) (.slice zA zw.length zc) (.slice zB zz.length zd)).setCell ⟨w.heap.size + 1, 0, none⟩ (.int .i64 0)).setCell ⟨w.heap.size + 1, 1, none⟩ (.int .i64 0)).drew) (fun k => w.heap.size ≤ k) [Nd.mk zk zp zs zA zc zw zB zd zz] := by
      have h1 : DeepN (set5 w2 w.heap.size (.int .i64 zk) (.int .i64 zp) (.string zs) (.slice zA zw.length zc) (.slice zB zz.length zd)) (fun k => w.heap.size + 3 ≤ k) [Nd.mk zk zp zs zA zc zw zB zd zz] := set5_deep HDZ2.out fun k _ hk => ⟨by omega, hk⟩
      have h2 := (h1.setCell9 (p := ⟨w.heap.size + 1, 0, none⟩) (fun k hk => by show k ≠ w.heap.size + 1; omega) (.int .i64 0)).setCell9 (p := ⟨w.heap.size + 1, 1, none⟩) (fun k hk => by show k ≠ w.heap.size + 1; omega) (.int .i64 0)
      exact h2.drew9.weak fun k _ hk => by omega
    exact bodyPost_ret (ret_csc rfl _ _ _ w.heap.size (w.heap.size + 1) _ _ _ _ _ _ rfl rfl rfl hgf hff Try.underlying32 rfl (node_info _ _ _ _ _) Try.underlying27 rfl (fault_info _ _)) rfl (HQ.out _ _ ⟨_, rfl, by unfold Handed; rw [HRD.out]; exact ⟨.mk zk zp zs zA zc zw zB zd zz, i2, rfl, HZ.out, hdf, HST.out.1, rfl⟩, hbf⟩)

theorem World.setCell_other9 {w : World} {p : Addr} {u : Value} {k : Nat} (h : p.block ≠ k) : (w.setCell p u).heap[k]? = w.heap[k]? := by
  simp only [World.setCell, Array.getElem?_modify]
  rw [if_neg h]
/-- The shape of what was handed back, and that it is kept where new blocks are. -/
theorem handed_form {s s0 : Nat} {rd : Rdr Nd} {l : List Tr} {i e : Int} {v : Value} {w : World} (h : Handed s rd l i e v w) (hs : s0 + 2 ≤ s) :
    ∃ zk zp zs zA zc, ∃ zw : List Wd, ∃ zB zd, ∃ zz : List Nd, ∃ y fx fy, v = .tuple #[.agg #[.int .i64 zk, .int .i64 zp, .string zs, .slice zA zw.length zc, .slice zB zz.length zd], .int .i64 y, .agg #[.int .i64 fx, .int .i64 fy]] ∧
      ∀ w2 : World, (∀ k, k < w.heap.size → s0 + 2 ≤ k → w2.heap[k]? = w.heap[k]?) → Handed s0 rd l i e (.tuple #[.agg #[.int .i64 zk, .int .i64 zp, .string zs, .slice zA zw.length zc, .slice zB zz.length zd], .int .i64 y, .agg #[.int .i64 fx, .int .i64 fy]]) w2 := by
  unfold Handed at h ⊢
  cases hr : rd (rest l i) e with
  | error p =>
    rw [hr] at h
    exact ⟨0, 0, _, none, 0, [], none, 0, [], 0, 2, p, h, fun w2 _ => rfl⟩
  | ok yr =>
    obtain ⟨x, r⟩ := yr
    rw [hr] at h
    obtain ⟨⟨zk, zp, zs, zA, zc, zw, zB, zd, zz⟩, i2, rfl, hz, hdp, ha, hrr⟩ := h
    exact ⟨zk, zp, zs, zA, zc, zw, zB, zd, zz, i2, 0, 0, rfl, fun w2 hk => ⟨.mk zk zp zs zA zc zw zB zd zz, i2, rfl, hz, (hdp.keep9 fun k h1 h2 => hk k h1 (by omega)).weak fun k _ hk => by omega, ha, hrr⟩⟩

set_option maxRecDepth 100000 in
set_option maxHeartbeats 1600000 in
theorem const_call (d : Nat) (hd : d ≤ 4294967296) (A : Option Addr) (c : Nat) (l : List Tr) (i e : Int) (w : World)
    (hT : Trs w w.heap.size A l) (hl : l.length ≤ 2199023255552 ∧ ∀ x ∈ nodes l, x.ks.length ≤ 2199023255552) (hN : (nodes (rest l i)).length ≤ d) :
    Calls Try.prog 25 #[.slice A l.length c, .int .i64 i, .int .i64 e] w fun e' w' => ∃ v, e' = .returned v ∧ Handed w.heap.size (constR (d + 1)) l i e v w' ∧ Below w.heap.size w w' := by
  have hbz : Below w.heap.size w ((w.alloc (.cells #[.int .i64 0, .int .i64 0, .string ⟨#[]⟩, .slice none 0 0, .slice none 0 0] 32)).alloc (.cells #[.int .i64 0, .int .i64 0] 27)) := ((Below.refl _ _).alloc (Nat.le_refl _) _).alloc (by simp) _
  have hg0 := (RowAt.new w 32 #[.int .i64 0, .int .i64 0, .string ⟨#[]⟩, .slice none 0 0, .slice none 0 0]).alloc (.cells #[.int .i64 0, .int .i64 0] 27)
  have hf0 := RowAt.new (w.alloc (.cells #[.int .i64 0, .int .i64 0, .string ⟨#[]⟩, .slice none 0 0, .slice none 0 0] 32)) 27 #[.int .i64 0, .int .i64 0]
  rw [show (w.alloc (.cells #[.int .i64 0, .int .i64 0, .string ⟨#[]⟩, .slice none 0 0, .slice none 0 0] 32)).heap.size = w.heap.size + 1 by simp] at hf0
  have HG0 := Lib.hid hg0
  have HF0 := Lib.hid hf0
  have HB0 := Lib.hid hbz
  have HC := Lib.hid (parseN_any (fun _ _ => by kernel_rfl) (constant_any d hd) A c l i e _ ((hT.below hbz).mono hbz.size) hl hN)
  clear hbz hg0 hf0 hT
  refine calls_hid fun Q' hQ => ?_
  have HQ := Lib.hid hQ; clear hQ
  generalize hn : l.length = n at *
  have HNL := Lib.hid hn; clear hn
  go_enter Try.func25, Try.ntmps25
  go_wp2_with fail
  refine HC.out.mono ?_
  rintro e' w1 ⟨v, rfl, hh, hb1⟩
  have hsz : w.heap.size + 1 < w1.heap.size := Nat.lt_of_lt_of_le HF0.out.lt hb1.size
  have HG1 := Lib.hid (HG0.out.below hb1 HG0.out.lt)
  have HF1 := Lib.hid (HF0.out.below hb1 HF0.out.lt)
  have HB1 := Lib.hid (HB0.out.trans (hb1.mono HB0.out.size))
  obtain ⟨zk, zp, zs, zA, zc, zw, zB, zd, zz, y, fx, fy, rfl, hrest⟩ := handed_form (s0 := w.heap.size) hh (by simp)
  have HR := Lib.hid hrest
  obtain ⟨g0, g1, g2, g3, g4, u0, u1, u2, u3, u4⟩ := row5 HG1.out
  obtain ⟨m0, m1, v0, v1⟩ := row2 HF1.out
  clear hh hb1 hrest HC HG0 HF0 HB0
  go_wp2_with fail
  change bodyPost _ _ _ _ _ (((set5 w1 w.heap.size (.int .i64 zk) (.int .i64 zp) (.string zs) (.slice zA zw.length zc) (.slice zB zz.length zd)).setCell ⟨w.heap.size + 1, 0, none⟩ (.int .i64 fx)).setCell ⟨w.heap.size + 1, 1, none⟩ (.int .i64 fy))
  have hgf : RowAt (((set5 w1 w.heap.size (.int .i64 zk) (.int .i64 zp) (.string zs) (.slice zA zw.length zc) (.slice zB zz.length zd)).setCell ⟨w.heap.size + 1, 0, none⟩ (.int .i64 fx)).setCell ⟨w.heap.size + 1, 1, none⟩ (.int .i64 fy)) w.heap.size 32 #[.int .i64 zk, .int .i64 zp, .string zs, .slice zA zw.length zc, .slice zB zz.length zd] := ((set5_row HG1.out).far (p := ⟨w.heap.size + 1, 0, none⟩) (by show w.heap.size + 1 ≠ w.heap.size; omega) _).far (p := ⟨w.heap.size + 1, 1, none⟩) (by show w.heap.size + 1 ≠ w.heap.size; omega) _
  have hf1 : RowAt (set5 w1 w.heap.size (.int .i64 zk) (.int .i64 zp) (.string zs) (.slice zA zw.length zc) (.slice zB zz.length zd)) (w.heap.size + 1) 27 #[.int .i64 0, .int .i64 0] := (set5_other (by omega)).trans HF1.out
  have hff : RowAt (((set5 w1 w.heap.size (.int .i64 zk) (.int .i64 zp) (.string zs) (.slice zA zw.length zc) (.slice zB zz.length zd)).setCell ⟨w.heap.size + 1, 0, none⟩ (.int .i64 fx)).setCell ⟨w.heap.size + 1, 1, none⟩ (.int .i64 fy)) (w.heap.size + 1) 27 #[.int .i64 fx, .int .i64 fy] := (hf1.put 0 (.int .i64 fx)).put 1 (.int .i64 fy)
  have hh2 := HR.out (((set5 w1 w.heap.size (.int .i64 zk) (.int .i64 zp) (.string zs) (.slice zA zw.length zc) (.slice zB zz.length zd)).setCell ⟨w.heap.size + 1, 0, none⟩ (.int .i64 fx)).setCell ⟨w.heap.size + 1, 1, none⟩ (.int .i64 fy)) (fun k h1 h2 => (World.setCell_other9 (by show w.heap.size + 1 ≠ k; omega)).trans ((World.setCell_other9 (by show w.heap.size + 1 ≠ k; omega)).trans (set5_other (by omega))))
  have hbf : Below w.heap.size w (((set5 w1 w.heap.size (.int .i64 zk) (.int .i64 zp) (.string zs) (.slice zA zw.length zc) (.slice zB zz.length zd)).setCell ⟨w.heap.size + 1, 0, none⟩ (.int .i64 fx)).setCell ⟨w.heap.size + 1, 1, none⟩ (.int .i64 fy)) := ((HB1.out.trans (set5_below (Nat.le_refl _))).setCell (p := ⟨w.heap.size + 1, 0, none⟩) (by show w.heap.size ≤ w.heap.size + 1; omega) _).setCell (p := ⟨w.heap.size + 1, 1, none⟩) (by show w.heap.size ≤ w.heap.size + 1; omega) _
  exact bodyPost_ret (ret_csc rfl _ _ (.int .i64 y) w.heap.size (w.heap.size + 1) _ _ _ _ _ _ rfl rfl rfl hgf hff Try.underlying32 rfl (node_info _ _ _ _ _) Try.underlying27 rfl (fault_info _ _)) rfl (HQ.out _ _ ⟨_, rfl, hh2, hbf⟩)

set_option maxRecDepth 100000 in
set_option maxHeartbeats 1600000 in
theorem label_call (d : Nat) (hd : d ≤ 4294967296) (A : Option Addr) (c : Nat) (l : List Tr) (i e : Int) (w : World)
    (hT : Trs w w.heap.size A l) (hl : l.length ≤ 2199023255552 ∧ ∀ x ∈ nodes l, x.ks.length ≤ 2199023255552) (hN : (nodes (rest l i)).length ≤ d) :
    Calls Try.prog 26 #[.slice A l.length c, .int .i64 i, .int .i64 e] w fun e' w' => ∃ v, e' = .returned v ∧ Handed w.heap.size (labelR (d + 1)) l i e v w' ∧ Below w.heap.size w w' := by
  have hbz : Below w.heap.size w ((w.alloc (.cells #[.int .i64 0, .int .i64 0, .string ⟨#[]⟩, .slice none 0 0, .slice none 0 0] 32)).alloc (.cells #[.int .i64 0, .int .i64 0] 27)) := ((Below.refl _ _).alloc (Nat.le_refl _) _).alloc (by simp) _
  have hg0 := (RowAt.new w 32 #[.int .i64 0, .int .i64 0, .string ⟨#[]⟩, .slice none 0 0, .slice none 0 0]).alloc (.cells #[.int .i64 0, .int .i64 0] 27)
  have hf0 := RowAt.new (w.alloc (.cells #[.int .i64 0, .int .i64 0, .string ⟨#[]⟩, .slice none 0 0, .slice none 0 0] 32)) 27 #[.int .i64 0, .int .i64 0]
  rw [show (w.alloc (.cells #[.int .i64 0, .int .i64 0, .string ⟨#[]⟩, .slice none 0 0, .slice none 0 0] 32)).heap.size = w.heap.size + 1 by simp] at hf0
  have HG0 := Lib.hid hg0
  have HF0 := Lib.hid hf0
  have HB0 := Lib.hid hbz
  have HC := Lib.hid (parseN_any (fun _ _ => by kernel_rfl) (label_any d hd) A c l i e _ ((hT.below hbz).mono hbz.size) hl hN)
  clear hbz hg0 hf0 hT
  refine calls_hid fun Q' hQ => ?_
  have HQ := Lib.hid hQ; clear hQ
  generalize hn : l.length = n at *
  have HNL := Lib.hid hn; clear hn
  go_enter Try.func26, Try.ntmps26
  go_wp2_with fail
  refine HC.out.mono ?_
  rintro e' w1 ⟨v, rfl, hh, hb1⟩
  have hsz : w.heap.size + 1 < w1.heap.size := Nat.lt_of_lt_of_le HF0.out.lt hb1.size
  have HG1 := Lib.hid (HG0.out.below hb1 HG0.out.lt)
  have HF1 := Lib.hid (HF0.out.below hb1 HF0.out.lt)
  have HB1 := Lib.hid (HB0.out.trans (hb1.mono HB0.out.size))
  obtain ⟨zk, zp, zs, zA, zc, zw, zB, zd, zz, y, fx, fy, rfl, hrest⟩ := handed_form (s0 := w.heap.size) hh (by simp)
  have HR := Lib.hid hrest
  obtain ⟨g0, g1, g2, g3, g4, u0, u1, u2, u3, u4⟩ := row5 HG1.out
  obtain ⟨m0, m1, v0, v1⟩ := row2 HF1.out
  clear hh hb1 hrest HC HG0 HF0 HB0
  go_wp2_with fail
  change bodyPost _ _ _ _ _ (((set5 w1 w.heap.size (.int .i64 zk) (.int .i64 zp) (.string zs) (.slice zA zw.length zc) (.slice zB zz.length zd)).setCell ⟨w.heap.size + 1, 0, none⟩ (.int .i64 fx)).setCell ⟨w.heap.size + 1, 1, none⟩ (.int .i64 fy))
  have hgf : RowAt (((set5 w1 w.heap.size (.int .i64 zk) (.int .i64 zp) (.string zs) (.slice zA zw.length zc) (.slice zB zz.length zd)).setCell ⟨w.heap.size + 1, 0, none⟩ (.int .i64 fx)).setCell ⟨w.heap.size + 1, 1, none⟩ (.int .i64 fy)) w.heap.size 32 #[.int .i64 zk, .int .i64 zp, .string zs, .slice zA zw.length zc, .slice zB zz.length zd] := ((set5_row HG1.out).far (p := ⟨w.heap.size + 1, 0, none⟩) (by show w.heap.size + 1 ≠ w.heap.size; omega) _).far (p := ⟨w.heap.size + 1, 1, none⟩) (by show w.heap.size + 1 ≠ w.heap.size; omega) _
  have hf1 : RowAt (set5 w1 w.heap.size (.int .i64 zk) (.int .i64 zp) (.string zs) (.slice zA zw.length zc) (.slice zB zz.length zd)) (w.heap.size + 1) 27 #[.int .i64 0, .int .i64 0] := (set5_other (by omega)).trans HF1.out
  have hff : RowAt (((set5 w1 w.heap.size (.int .i64 zk) (.int .i64 zp) (.string zs) (.slice zA zw.length zc) (.slice zB zz.length zd)).setCell ⟨w.heap.size + 1, 0, none⟩ (.int .i64 fx)).setCell ⟨w.heap.size + 1, 1, none⟩ (.int .i64 fy)) (w.heap.size + 1) 27 #[.int .i64 fx, .int .i64 fy] := (hf1.put 0 (.int .i64 fx)).put 1 (.int .i64 fy)
  have hh2 := HR.out (((set5 w1 w.heap.size (.int .i64 zk) (.int .i64 zp) (.string zs) (.slice zA zw.length zc) (.slice zB zz.length zd)).setCell ⟨w.heap.size + 1, 0, none⟩ (.int .i64 fx)).setCell ⟨w.heap.size + 1, 1, none⟩ (.int .i64 fy)) (fun k h1 h2 => (World.setCell_other9 (by show w.heap.size + 1 ≠ k; omega)).trans ((World.setCell_other9 (by show w.heap.size + 1 ≠ k; omega)).trans (set5_other (by omega))))
  have hbf : Below w.heap.size w (((set5 w1 w.heap.size (.int .i64 zk) (.int .i64 zp) (.string zs) (.slice zA zw.length zc) (.slice zB zz.length zd)).setCell ⟨w.heap.size + 1, 0, none⟩ (.int .i64 fx)).setCell ⟨w.heap.size + 1, 1, none⟩ (.int .i64 fy)) := ((HB1.out.trans (set5_below (Nat.le_refl _))).setCell (p := ⟨w.heap.size + 1, 0, none⟩) (by show w.heap.size ≤ w.heap.size + 1; omega) _).setCell (p := ⟨w.heap.size + 1, 1, none⟩) (by show w.heap.size ≤ w.heap.size + 1; omega) _
  exact bodyPost_ret (ret_csc rfl _ _ (.int .i64 y) w.heap.size (w.heap.size + 1) _ _ _ _ _ _ rfl rfl rfl hgf hff Try.underlying32 rfl (node_info _ _ _ _ _) Try.underlying27 rfl (fault_info _ _)) rfl (HQ.out _ _ ⟨_, rfl, hh2, hbf⟩)

set_option maxRecDepth 100000 in
set_option maxHeartbeats 1600000 in
theorem row_call (d : Nat) (hd : d ≤ 4294967296) (A : Option Addr) (c : Nat) (l : List Tr) (i e : Int) (w : World)
    (hT : Trs w w.heap.size A l) (hl : l.length ≤ 2199023255552 ∧ ∀ x ∈ nodes l, x.ks.length ≤ 2199023255552) (hN : (nodes (rest l i)).length ≤ d) :
    Calls Try.prog 27 #[.slice A l.length c, .int .i64 i, .int .i64 e] w fun e' w' => ∃ v, e' = .returned v ∧ Handed w.heap.size (rowR (d + 1)) l i e v w' ∧ Below w.heap.size w w' := by
  have hbz : Below w.heap.size w ((w.alloc (.cells #[.int .i64 0, .int .i64 0, .string ⟨#[]⟩, .slice none 0 0, .slice none 0 0] 32)).alloc (.cells #[.int .i64 0, .int .i64 0] 27)) := ((Below.refl _ _).alloc (Nat.le_refl _) _).alloc (by simp) _
  have hg0 := (RowAt.new w 32 #[.int .i64 0, .int .i64 0, .string ⟨#[]⟩, .slice none 0 0, .slice none 0 0]).alloc (.cells #[.int .i64 0, .int .i64 0] 27)
  have hf0 := RowAt.new (w.alloc (.cells #[.int .i64 0, .int .i64 0, .string ⟨#[]⟩, .slice none 0 0, .slice none 0 0] 32)) 27 #[.int .i64 0, .int .i64 0]
  rw [show (w.alloc (.cells #[.int .i64 0, .int .i64 0, .string ⟨#[]⟩, .slice none 0 0, .slice none 0 0] 32)).heap.size = w.heap.size + 1 by simp] at hf0
  have HG0 := Lib.hid hg0
  have HF0 := Lib.hid hf0
  have HB0 := Lib.hid hbz
  have HC := Lib.hid (parseN_any (fun _ _ => by kernel_rfl) (row_any d hd) A c l i e _ ((hT.below hbz).mono hbz.size) hl hN)
  clear hbz hg0 hf0 hT
  refine calls_hid fun Q' hQ => ?_
  have HQ := Lib.hid hQ; clear hQ
  generalize hn : l.length = n at *
  have HNL := Lib.hid hn; clear hn
  go_enter Try.func27, Try.ntmps27
  go_wp2_with fail
  refine HC.out.mono ?_
  rintro e' w1 ⟨v, rfl, hh, hb1⟩
  have hsz : w.heap.size + 1 < w1.heap.size := Nat.lt_of_lt_of_le HF0.out.lt hb1.size
  have HG1 := Lib.hid (HG0.out.below hb1 HG0.out.lt)
  have HF1 := Lib.hid (HF0.out.below hb1 HF0.out.lt)
  have HB1 := Lib.hid (HB0.out.trans (hb1.mono HB0.out.size))
  obtain ⟨zk, zp, zs, zA, zc, zw, zB, zd, zz, y, fx, fy, rfl, hrest⟩ := handed_form (s0 := w.heap.size) hh (by simp)
  have HR := Lib.hid hrest
  obtain ⟨g0, g1, g2, g3, g4, u0, u1, u2, u3, u4⟩ := row5 HG1.out
  obtain ⟨m0, m1, v0, v1⟩ := row2 HF1.out
  clear hh hb1 hrest HC HG0 HF0 HB0
  go_wp2_with fail
  change bodyPost _ _ _ _ _ (((set5 w1 w.heap.size (.int .i64 zk) (.int .i64 zp) (.string zs) (.slice zA zw.length zc) (.slice zB zz.length zd)).setCell ⟨w.heap.size + 1, 0, none⟩ (.int .i64 fx)).setCell ⟨w.heap.size + 1, 1, none⟩ (.int .i64 fy))
  have hgf : RowAt (((set5 w1 w.heap.size (.int .i64 zk) (.int .i64 zp) (.string zs) (.slice zA zw.length zc) (.slice zB zz.length zd)).setCell ⟨w.heap.size + 1, 0, none⟩ (.int .i64 fx)).setCell ⟨w.heap.size + 1, 1, none⟩ (.int .i64 fy)) w.heap.size 32 #[.int .i64 zk, .int .i64 zp, .string zs, .slice zA zw.length zc, .slice zB zz.length zd] := ((set5_row HG1.out).far (p := ⟨w.heap.size + 1, 0, none⟩) (by show w.heap.size + 1 ≠ w.heap.size; omega) _).far (p := ⟨w.heap.size + 1, 1, none⟩) (by show w.heap.size + 1 ≠ w.heap.size; omega) _
  have hf1 : RowAt (set5 w1 w.heap.size (.int .i64 zk) (.int .i64 zp) (.string zs) (.slice zA zw.length zc) (.slice zB zz.length zd)) (w.heap.size + 1) 27 #[.int .i64 0, .int .i64 0] := (set5_other (by omega)).trans HF1.out
  have hff : RowAt (((set5 w1 w.heap.size (.int .i64 zk) (.int .i64 zp) (.string zs) (.slice zA zw.length zc) (.slice zB zz.length zd)).setCell ⟨w.heap.size + 1, 0, none⟩ (.int .i64 fx)).setCell ⟨w.heap.size + 1, 1, none⟩ (.int .i64 fy)) (w.heap.size + 1) 27 #[.int .i64 fx, .int .i64 fy] := (hf1.put 0 (.int .i64 fx)).put 1 (.int .i64 fy)
  have hh2 := HR.out (((set5 w1 w.heap.size (.int .i64 zk) (.int .i64 zp) (.string zs) (.slice zA zw.length zc) (.slice zB zz.length zd)).setCell ⟨w.heap.size + 1, 0, none⟩ (.int .i64 fx)).setCell ⟨w.heap.size + 1, 1, none⟩ (.int .i64 fy)) (fun k h1 h2 => (World.setCell_other9 (by show w.heap.size + 1 ≠ k; omega)).trans ((World.setCell_other9 (by show w.heap.size + 1 ≠ k; omega)).trans (set5_other (by omega))))
  have hbf : Below w.heap.size w (((set5 w1 w.heap.size (.int .i64 zk) (.int .i64 zp) (.string zs) (.slice zA zw.length zc) (.slice zB zz.length zd)).setCell ⟨w.heap.size + 1, 0, none⟩ (.int .i64 fx)).setCell ⟨w.heap.size + 1, 1, none⟩ (.int .i64 fy)) := ((HB1.out.trans (set5_below (Nat.le_refl _))).setCell (p := ⟨w.heap.size + 1, 0, none⟩) (by show w.heap.size ≤ w.heap.size + 1; omega) _).setCell (p := ⟨w.heap.size + 1, 1, none⟩) (by show w.heap.size ≤ w.heap.size + 1; omega) _
  exact bodyPost_ret (ret_csc rfl _ _ (.int .i64 y) w.heap.size (w.heap.size + 1) _ _ _ _ _ _ rfl rfl rfl hgf hff Try.underlying32 rfl (node_info _ _ _ _ _) Try.underlying27 rfl (fault_info _ _)) rfl (HQ.out _ _ ⟨_, rfl, hh2, hbf⟩)

/-- What Words hands back. -/
def HandedW (s : Nat) (l : List Tr) (i e : Int) (v : Value) (w : World) : Prop := match namesR (rest l i) e with
  | .error p => v = .tuple #[.slice none 0 0, .agg #[.int .i64 2, .int .i64 p]]
  | .ok (ws, _) => ∃ A c, v = .tuple #[.slice A ws.length c, .agg #[.int .i64 0, .int .i64 0]] ∧ ws.length ≤ c ∧ SlC w (fun k => s ≤ k) A (wcs ws)
set_option maxRecDepth 100000 in
set_option maxHeartbeats 1600000 in
theorem parseW_any (A : Option Addr) (c : Nat) (l : List Tr) (i e : Int) (w : World)
    (hT : Trs w w.heap.size A l) (hl : l.length ≤ 2199023255552 ∧ ∀ x ∈ nodes l, x.ks.length ≤ 2199023255552) :
    Calls Try.prog 31 #[.slice A l.length c, .int .i64 i, .int .i64 e, .func (.func 32) #[] #[]] w fun e' w' => ∃ X n cc y fx fy, e' = .returned (.tuple #[.slice X n cc, .int .i64 y, .agg #[.int .i64 fx, .int .i64 fy]]) ∧
      (∀ w2 : World, (∀ k, k < w'.heap.size → w.heap.size + 2 ≤ k → w2.heap[k]? = w'.heap[k]?) → HandedW w.heap.size l i e (.tuple #[.slice X n cc, .agg #[.int .i64 fx, .int .i64 fy]]) w2) ∧ Below w.heap.size w w' ∧ w.heap.size < w'.heap.size := by
  have hbz : Below w.heap.size w ((w.alloc (.cells #[.int .i64 0, .int .i64 0] 27)).alloc (.cells (rdc A l.length c i e 0 0) 95)) := ((Below.refl _ _).alloc (Nat.le_refl _) _).alloc (by simp) _
  have hf0 := (RowAt.new w 27 #[.int .i64 0, .int .i64 0]).alloc (.cells (rdc A l.length c i e 0 0) 95)
  have hb0 := RowAt.new (w.alloc (.cells #[.int .i64 0, .int .i64 0] 27)) 95 (rdc A l.length c i e 0 0)
  rw [show (w.alloc (.cells #[.int .i64 0, .int .i64 0] 27)).heap.size = w.heap.size + 1 by simp] at hb0
  have HS0 : Hid (Rs ((w.alloc (.cells #[.int .i64 0, .int .i64 0] 27)).alloc (.cells (rdc A l.length c i e 0 0) 95)) (w.heap.size + 1) A c l i e none) := ⟨hb0, (hT.below hbz).mono (by omega), hl⟩
  have HF0 := Lib.hid hf0
  have HB0 := Lib.hid hbz
  have HC := Lib.hid (names_any HS0.out)
  clear hbz hf0 hb0 hT
  refine calls_hid fun Q' hQ => ?_
  have HQ := Lib.hid hQ; clear hQ
  unfold rdc at HS0 HF0 HB0 HC
  generalize hn : l.length = n at *
  have HNL := Lib.hid hn; clear hn
  go_enter Try.func31, Try.ntmps31
  go_wp2_with fail
  refine HC.out.mono ?_
  rintro e' w2 ⟨v, x, i2, f2, rfl, ⟨X, cc, rfl, hcc, hsl⟩, hs1, hm1, hst⟩
  have hsz : w.heap.size + 1 < w2.heap.size := hs1.lt
  have HF1 := Lib.hid (HF0.out.mv hm1 (by omega))
  have HB1 := Lib.hid (HB0.out.trans (hm1.low.mono (by omega)))
  have HSL : Hid (SlC w2 (fun k => w.heap.size + 2 ≤ k) X (wcs x)) := hsl.weak fun k _ hk => by simpa using hk
  have HS1 := Lib.hid hs1
  obtain ⟨c0, c1, c2, c3, c4⟩ := rd_cells HS1.out.at_
  obtain ⟨m0, m1, v0, v1⟩ := row2 HF1.out
  have HST := Lib.hid hst
  clear hs1 hm1 hst hsl HC HS0 HF0 HB0
  cases f2 with
  | some p =>
    simp only [fc, fa, Option.isSome_some, if_true, Option.getD_some] at c3 c4
    have HRD : Hid (namesR (rest l i) e = .error p) := by
      rcases HST.out.cases with ⟨q, h1, ⟨_, h2⟩ | h2⟩ | ⟨_, h1, _⟩
      · obtain rfl := Option.some.inj h1; exact Lib.hid h2
      · cases h2
      · cases h1
    go_upto_region 5 with fail
    go_region
    go_wp2_with fail
    have hff : RowAt (((w2.setCell ⟨w.heap.size, 0, none⟩ (.int .i64 2)).setCell ⟨w.heap.size, 1, none⟩ (.int .i64 p)).drew) w.heap.size 27 #[.int .i64 2, .int .i64 p] := ((HF1.out.put 0 (.int .i64 2)).put 1 (.int .i64 p)).drew
    have hbf : Below w.heap.size w (((w2.setCell ⟨w.heap.size, 0, none⟩ (.int .i64 2)).setCell ⟨w.heap.size, 1, none⟩ (.int .i64 p)).drew) := ((HB1.out.setCell (p := ⟨w.heap.size, 0, none⟩) (Nat.le_refl _) _).setCell (p := ⟨w.heap.size, 1, none⟩) (Nat.le_refl _) _).drew
    exact bodyPost_ret (ret_ssc rfl _ _ (.slice none 0 0) (.int .i64 0) w.heap.size _ _ _ rfl rfl rfl hff Try.underlying27 rfl (fault_info _ _)) rfl (HQ.out _ _ ⟨none, 0, 0, 0, 2, p, rfl, fun w3 _ => by unfold HandedW; rw [HRD.out], hbf, hff.lt⟩)
  | none =>
    simp only [fc, fa, Option.isSome_none, Bool.false_eq_true, if_false, Option.getD_none] at c3 c4
    have HRD : Hid (namesR (rest l i) e = .ok (x, rest l i2)) := by
      rcases HST.out.cases with ⟨q, h1, _⟩ | ⟨_, _, h1⟩
      · cases h1
      · exact Lib.hid h1
    go_upto_region 6 with fail
    go_region
    go_wp2_with fail
    have hff : RowAt (((w2.setCell ⟨w.heap.size, 0, none⟩ (.int .i64 0)).setCell ⟨w.heap.size, 1, none⟩ (.int .i64 0)).drew) w.heap.size 27 #[.int .i64 0, .int .i64 0] := ((HF1.out.put 0 (.int .i64 0)).put 1 (.int .i64 0)).drew
    have hbf : Below w.heap.size w (((w2.setCell ⟨w.heap.size, 0, none⟩ (.int .i64 0)).setCell ⟨w.heap.size, 1, none⟩ (.int .i64 0)).drew) := ((HB1.out.setCell (p := ⟨w.heap.size, 0, none⟩) (Nat.le_refl _) _).setCell (p := ⟨w.heap.size, 1, none⟩) (Nat.le_refl _) _).drew
    have hsf : SlC (((w2.setCell ⟨w.heap.size, 0, none⟩ (.int .i64 0)).setCell ⟨w.heap.size, 1, none⟩ (.int .i64 0)).drew) (fun k => w.heap.size + 2 ≤ k) X (wcs x) :=
      ((HSL.out.setCell9 (p := ⟨w.heap.size, 0, none⟩) (fun k hk => by show k ≠ w.heap.size; omega) (.int .i64 0)).setCell9 (p := ⟨w.heap.size, 1, none⟩) (fun k hk => by show k ≠ w.heap.size; omega) (.int .i64 0)).keep9 fun _ _ _ => rfl
    have HSF := Lib.hid hsf
    exact bodyPost_ret (ret_ssc rfl _ _ (.slice X x.length cc) (.int .i64 i2) w.heap.size _ _ _ rfl rfl rfl hff Try.underlying27 rfl (fault_info _ _)) rfl (HQ.out _ _ ⟨X, x.length, cc, i2, 0, 0, rfl, fun w3 hk => by
      unfold HandedW
      rw [HRD.out]
      exact ⟨X, cc, rfl, hcc, (HSF.out.keep9 hk).weak fun k _ h => by omega⟩, hbf, hff.lt⟩)
theorem drew_other9 {w : World} {k : Nat} : w.drew.heap[k]? = w.heap[k]? := rfl
theorem HandedW.mono {s s' : Nat} {l : List Tr} {i e : Int} {v : Value} {w : World} (h : HandedW s' l i e v w) (hs : s ≤ s') : HandedW s l i e v w := by
  unfold HandedW at h ⊢
  cases hr : namesR (rest l i) e with
  | error p => rw [hr] at h; exact h
  | ok yr =>
    rw [hr] at h
    obtain ⟨A, c, h1, h2, h3⟩ := h
    exact ⟨A, c, h1, h2, h3.weak fun _ _ h => Nat.le_trans hs h⟩
set_option maxRecDepth 100000 in
set_option maxHeartbeats 1600000 in
theorem words_call (A : Option Addr) (c : Nat) (l : List Tr) (i e : Int) (w : World)
    (hT : Trs w w.heap.size A l) (hl : l.length ≤ 2199023255552 ∧ ∀ x ∈ nodes l, x.ks.length ≤ 2199023255552) :
    Calls Try.prog 9 #[.slice A l.length c, .int .i64 i, .int .i64 e] w fun e' w' => ∃ v, e' = .returned v ∧ HandedW w.heap.size l i e v w' ∧ Below w.heap.size w w' := by
  have hbz : Below w.heap.size w (w.alloc (.cells #[.int .i64 0, .int .i64 0] 27)) := (Below.refl _ _).alloc (Nat.le_refl _) _
  have hf0 := RowAt.new w 27 #[.int .i64 0, .int .i64 0]
  have HF0 := Lib.hid hf0
  have HB0 := Lib.hid hbz
  have HC := Lib.hid (parseW_any A c l i e _ ((hT.below hbz).mono hbz.size) hl)
  rw [show (w.alloc (.cells #[.int .i64 0, .int .i64 0] 27)).heap.size = w.heap.size + 1 by simp] at HC
  clear hbz hf0 hT
  refine calls_hid fun Q' hQ => ?_
  have HQ := Lib.hid hQ; clear hQ
  generalize hn : l.length = n at *
  have HNL := Lib.hid hn; clear hn
  go_enter Try.func9, Try.ntmps9
  go_wp2_with fail
  refine HC.out.mono ?_
  rintro e' w1 ⟨X, m, cc, y, fx, fy, rfl, hh, hb1, hsz⟩
  have HF1 := Lib.hid (HF0.out.below hb1 (Nat.lt_succ_self _))
  have HB1 := Lib.hid (HB0.out.trans (hb1.mono (Nat.le_succ _)))
  have HH := Lib.hid hh
  obtain ⟨m0, m1, v0, v1⟩ := row2 HF1.out
  have hb2 : Below w1.heap.size w1 (w1.alloc (.cells #[.int .i64 fx, .int .i64 fy] 27)) := (Below.refl _ _).alloc (Nat.le_refl _) _
  have HF2 := Lib.hid (HF1.out.below hb2 HF1.out.lt)
  have HB2 := Lib.hid (HB1.out.trans (hb2.mono (by omega)))
  have HN2 := Lib.hid (RowAt.new w1 27 #[.int .i64 fx, .int .i64 fy])
  have HK2 : Hid (∀ k, k < w1.heap.size → (w1.alloc (.cells #[.int .i64 fx, .int .i64 fy] 27)).heap[k]? = w1.heap[k]?) := fun k hk => hb2.block k hk
  clear hh hb1 HC HF0 HB0 hb2
  go_upto_region 2 with fail
  clear m0 m1 v0 v1
  generalize w1.alloc (.cells #[.int .i64 fx, .int .i64 fy] 27) = w2 at *
  obtain ⟨m0, m1, v0, v1⟩ := row2 HF2.out
  obtain ⟨n0, n1, _, _⟩ := row2 HN2.out
  go_region
  go_wp2_with fail
  have hff : RowAt (((w2.setCell ⟨w.heap.size, 0, none⟩ (.int .i64 fx)).setCell ⟨w.heap.size, 1, none⟩ (.int .i64 fy)).drew) w.heap.size 27 #[.int .i64 fx, .int .i64 fy] := ((HF2.out.put 0 (.int .i64 fx)).put 1 (.int .i64 fy)).drew
  have hbf : Below w.heap.size w (((w2.setCell ⟨w.heap.size, 0, none⟩ (.int .i64 fx)).setCell ⟨w.heap.size, 1, none⟩ (.int .i64 fy)).drew) := ((HB2.out.setCell (p := ⟨w.heap.size, 0, none⟩) (Nat.le_refl _) _).setCell (p := ⟨w.heap.size, 1, none⟩) (Nat.le_refl _) _).drew
  have hh2 := HH.out (((w2.setCell ⟨w.heap.size, 0, none⟩ (.int .i64 fx)).setCell ⟨w.heap.size, 1, none⟩ (.int .i64 fy)).drew) (fun k h1 h2 => (drew_other9.trans ((World.setCell_other9 (by show w.heap.size ≠ k; omega)).trans (World.setCell_other9 (by show w.heap.size ≠ k; omega)))).trans (HK2.out k h1))
  exact bodyPost_ret (ret_slot_cell rfl _ _ (.slice X m cc) w.heap.size _ _ (0, 0) _ rfl rfl hff Try.underlying27 rfl (fault_info _ _)) rfl (HQ.out _ _ ⟨_, rfl, hh2.mono (Nat.le_succ _), hbf⟩)
end Go.Proofs.Ytapnefhmonpgdaa
