/- Texts that all the claims need. Conditions: those that each states. -/
import Derived.Test.YtmffnkfohmbbeaaGreatDoorRows
import Derived.Test.YtmffnkfohmbbeaaGreatDoorCi14
import Derived.Test.YtmffnkfohmbbeaaGreatDoorCi23
set_option linter.unusedSimpArgs false
set_option linter.unusedVariables false
set_option maxRecDepth 100000
set_option maxHeartbeats 40000000
namespace Go.Proofs.YtmffnkfohmbbeaaGreatDoor
section
open Go.ChangeShapes Go.WideShapes Go.ChangeAt Go.RowKit LX TR TM CM
namespace CM
def wvol (ws : List Wd) : Nat := (ws.map fun a => a.s.size + 1).sum
def pvol (ps : List Pw) : Nat := (ps.map fun a => a.a.s.size + a.b.s.size + 1).sum
def volC (x : Cm) : Nat := x.n.s.size + wvol x.ws + pvol x.ps + vol [x.l] + vol [x.r]
theorem wvol_len (ws : List Wd) : ws.length ≤ wvol ws := by
 induction ws with
 | nil => simp [wvol]
 | cons x r ih => unfold wvol at ih ⊢; simp only [List.map_cons, List.sum_cons, zA8]; omega
theorem pvol_len (ws : List Pw) : ws.length ≤ pvol ws := by
 induction ws with
 | nil => simp [pvol]
 | cons x r ih => unfold pvol at ih ⊢; simp only [List.map_cons, List.sum_cons, zA8]; omega
theorem volC_sml {x : Cm} (h : volC x ≤ 1048576) : SmlC x := by
 have h1 := wvol_len x.ws
 have h2 := pvol_len x.ps
 have h3 := cnt_vol [x.l]
 have h4 := cnt_vol [x.r]
 unfold volC at h
 exact ⟨by omega, by omega, by omega, by omega⟩
theorem jcw_len (ws : List Wd) : (jc (ws.map fun v => lst v.s)).length ≤ wvol ws := by
 have h := jc_sz (ws.map fun v => lst v.s)
 have e : sz (ws.map fun v => lst v.s) = wvol ws := by
  induction ws with
  | nil => rfl
  | cons x r ih =>
    rw [List.map_cons, sz_cons, ih (jc_sz _), lst_length]
    unfold wvol
    simp
 omega
theorem jcp_len (ps : List Pw) : (jc (ps.map fun v => lst v.a.s ++ 60 :: lst v.b.s)).length ≤ 2 * pvol ps := by
 have h := jc_sz (ps.map fun v => lst v.a.s ++ 60 :: lst v.b.s)
 have e : ∀ ps : List Pw, sz (ps.map fun v => lst v.a.s ++ 60 :: lst v.b.s) ≤ 2 * pvol ps := fun ps => by
  induction ps with
  | nil => simp [sz, pvol]
  | cons x r ih =>
    rw [List.map_cons, sz_cons, zA7, zA8, lst_length, lst_length]
    unfold pvol at ih ⊢
    rw [List.map_cons, List.sum_cons]
    omega
 have := e ps
 omega
theorem vol_n0 : vol [n0] = 1 := by simp [n0, nd, vol]; rfl
theorem ptx_len (x : Cm) : ∀ (L : List Nat) (ts : List Nd), (∀ z ∈ ts, vol [z] ≤ volC x) → (ptx x L ts).length ≤ L.length * (10 + 6 * volC x)
 | [], _, _ => by simp [ptx]
 | k :: L, ts, h => by
   have hh : vol [ts.headD n0] ≤ volC x + 1 := by
     cases ts with
     | nil => rw [List.headD_nil, vol_n0]; omega
     | cons t r => exact zM (h t (by simp)) (by omega)
   have h1 := jcw_len x.ws
   have h2 := jcp_len x.ps
   have h3 := tx_vol (ts.headD n0)
   have h4 : ∀ (us : List Nd), (∀ z ∈ us, vol [z] ≤ volC x) → (ptx x L us).length ≤ L.length * (10 + 6 * volC x) := fun us hu => ptx_len x L us hu
   have hv : x.n.s.size + wvol x.ws + pvol x.ps + vol [x.l] + vol [x.r] = volC x := rfl
   have h5 : (ptx x L (if k = 110 ∨ k = 102 ∨ k = 119 ∨ k = 112 then ts else ts.tail)).length ≤ L.length * (10 + 6 * volC x) := by
     split
     ·exact h4 ts h
     ·exact h4 ts.tail fun z hz => h z (List.mem_of_mem_tail hz)
   have h6 : (if k = 110 then lst x.n.s else if k = 102 then jc (x.ws.map fun v => lst v.s) else if k = 119 then 123 :: (jc (x.ws.map fun v => lst v.s) ++ [125]) else if k = 112 then 123 :: (jc (x.ps.map fun v => lst v.a.s ++ 60 :: lst v.b.s) ++ [125]) else tx (ts.headD n0)).length ≤ 9 + 6 * volC x := by
     split
     ·rw [lst_length]; omega
     ·split
      ·omega
      ·split
       ·simp only [zA8, zA7, zA9]; omega
       ·split
        ·simp only [zA8, zA7, zA9]; omega
        ·omega
   unfold ptx
   rw [zA8, zA7, zA8, Nat.add_mul, Nat.one_mul]
   omega
theorem wrd_small : ∀ k : Fin 16, (kws.getD k.val ⟨#[]⟩).size ≤ 10 := by decide
theorem ltl_small : ∀ k : Nat, k < 16 → (ltl (k : Int)).length ≤ 3 := by decide
theorem wrd_len (op : Int) : (wrd op).size ≤ 10 ∧ (ltl op).length ≤ 3 := by
 by_cases h : 0 ≤ op ∧ op < 16
 ·obtain ⟨k, rfl⟩ := Int.eq_ofNat_of_zero_le h.1
  have hk : k < 16 := by omega
  exact ⟨by rw [wrd_in hk]; exact wrd_small ⟨k, hk⟩, ltl_small k hk⟩
 ·refine ⟨by rw [wrd_out h]; exact Nat.zero_le _, ?_⟩
  unfold ltl
  rw [ltr_out h]
  exact Nat.zero_le _
theorem ctx_len {x : Cm} (h : volC x ≤ 1048576) : (ctx x).length ≤ 100000000 := by
 obtain ⟨h1, h2⟩ := wrd_len x.op
 have hl : vol [x.l] ≤ volC x := by unfold volC; omega
 have hr : vol [x.r] ≤ volC x := by unfold volC; omega
 have h3 := ptx_len x (ltl x.op) [x.l, x.r] (fun z hz => by
  rcases List.mem_cons.1 hz with rfl | hz
  ·exact hl
  ·obtain rfl := List.mem_singleton.1 hz
   exact hr)
 have h4 : (ltl x.op).length * (10 + 6 * volC x) ≤ 3 * (10 + 6 * volC x) := Nat.mul_le_mul_right _ h2
 unfold ctx
 rw [zA7, lst_length]
 omega
end CM
section
variable {H : Type} {enc : TypeId × Value → H} {w w2 : World} {r : Reach} {b0 : Nat}
theorem pw_openU (fuel : Nat) (l : List Value) (x : DataW H × List MemPlace) (hf : DataW.trod enc Tryz.prog w 0 (fun _ => true) true fuel 65 l = some x) : ∃ y : Pw, l = pwcells y ∧ True ∧ y.a.s.size + y.b.s.size + 1 ≤ Rows.uptoBulk x.1 := by
 obtain ⟨ys, m, _, hx, hsz, hyl, hya⟩ := DataW.trod_array Tryz.underlying65 hf
 rw [show Tryz.prog.cellsOf 65 = 4 by kernel_rfl] at hsz
 have h0 := hya 0 (by omega)
 have h1 := hya 1 (by omega)
 rw [List.getElem?_eq_getElem (by omega), show Tryz.prog.cellsOf 23 = 2 by kernel_rfl] at h0 h1
 obtain ⟨a, e0, _, ha⟩ := word_open h0
 obtain ⟨b, e1, _, hb⟩ := word_open h1
 match l, hsz with
 | [u, v, u2, v2], _ =>
   simp [wcells] at e0 e1
   obtain ⟨rfl, rfl⟩ := e0
   obtain ⟨rfl, rfl⟩ := e1
   refine ⟨⟨a, b⟩, rfl, trivial, ?_⟩
   rw [hx]
   match ys, hyl with
   | [y0, y1], _ =>
     have ha' : a.s.size + 1 ≤ Rows.uptoBulk y0.1 := ha
     have hb' : b.s.size + 1 ≤ Rows.uptoBulk y1.1 := hb
     simp only [Rows.uptoBulk, Rows.uptoBulkAll, List.map_cons, List.map_nil]
     omega
theorem open_cmdU {v : Value} {d : DataW H} {ps : List MemPlace} (hval : Value.okWide Tryz.prog w2 r b0 30 v) (hd : DataW.Trod enc Tryz.prog w 0 (fun _ => true) true 30 v d ps) :
 ∃ x : Cm, v = .agg (cv x) ∧ CmIn w w.heap.size x ∧ volC x ≤ Rows.uptoBulk d := by
 obtain ⟨cs, rfl, hsz⟩ := okWide_struct Tryz.underlying30 hval
 rw [show Tryz.prog.cellsOf 30 = 17 by kernel_rfl] at hsz
 obtain ⟨l⟩ := cs
 replace hsz : l.length = 17 := hsz
 obtain ⟨fuel, hf⟩ := hd
 obtain ⟨xs, m, _, hx, _, hlen, hat⟩ := DataW.trod_struct Tryz.underlying30 hf
 have hlen8 : xs.length = 8 := hlen
 have h0 : DataW.trod enc Tryz.prog w 0 (fun _ => true) true m 3 (List.take (Tryz.prog.cellsOf 3) (List.drop 0 l)) = xs[0]? := hat 0 _ rfl
 have h1 : DataW.trod enc Tryz.prog w 0 (fun _ => true) true m 3 (List.take (Tryz.prog.cellsOf 3) (List.drop 1 l)) = xs[1]? := hat 1 _ rfl
 have h2 : DataW.trod enc Tryz.prog w 0 (fun _ => true) true m 23 (List.take (Tryz.prog.cellsOf 23) (List.drop 2 l)) = xs[2]? := hat 2 _ rfl
 have h3 : DataW.trod enc Tryz.prog w 0 (fun _ => true) true m 24 (List.take (Tryz.prog.cellsOf 24) (List.drop 4 l)) = xs[3]? := hat 3 _ rfl
 have h4 : DataW.trod enc Tryz.prog w 0 (fun _ => true) true m 25 (List.take (Tryz.prog.cellsOf 25) (List.drop 5 l)) = xs[4]? := hat 4 _ rfl
 have h5 : DataW.trod enc Tryz.prog w 0 (fun _ => true) true m 3 (List.take (Tryz.prog.cellsOf 3) (List.drop 6 l)) = xs[5]? := hat 5 _ rfl
 have h6 : DataW.trod enc Tryz.prog w 0 (fun _ => true) true m 28 (List.take (Tryz.prog.cellsOf 28) (List.drop 7 l)) = xs[6]? := hat 6 _ rfl
 have h7 : DataW.trod enc Tryz.prog w 0 (fun _ => true) true m 28 (List.take (Tryz.prog.cellsOf 28) (List.drop 12 l)) = xs[7]? := hat 7 _ rfl
 rw [List.getElem?_eq_getElem (by omega)] at h0 h1 h2 h3 h4 h5 h6 h7
 rw [show Tryz.prog.cellsOf 3 = 1 by kernel_rfl] at h0 h1 h5
 rw [show Tryz.prog.cellsOf 23 = 2 by kernel_rfl] at h2
 rw [show Tryz.prog.cellsOf 24 = 1 by kernel_rfl] at h3
 rw [show Tryz.prog.cellsOf 25 = 1 by kernel_rfl] at h4
 rw [show Tryz.prog.cellsOf 28 = 5 by kernel_rfl] at h6 h7
 obtain ⟨op, e0, _, _⟩ := DataW.trod_int Tryz.underlying3 h0
 obtain ⟨p, e1, _, _⟩ := DataW.trod_int Tryz.underlying3 h1
 obtain ⟨n, e2, _, hn⟩ := word_open h2
 obtain ⟨A, c, ws, e3, hc3, hS3, _, hb3⟩ := slice_gen wcells_length (by omega) w0 Tryz.underlying24 (show Tryz.prog.cellsOf 23 = 2 by kernel_rfl) (fun a : Wd => a.s.size + 1) (fun _ => True) m (fun m' _ cs x h => word_open h) _ _ h3
 obtain ⟨B, dd, pp, e4, hc4, hS4, _, hb4⟩ := slice_gen pwcells_length (by omega) pw0 Tryz.underlying25 (show Tryz.prog.cellsOf 65 = 4 by kernel_rfl) (fun a : Pw => a.a.s.size + a.b.s.size + 1) (fun _ => True) m (fun m' _ cs x h => pw_openU m' cs x h) _ _ h4
 obtain ⟨pa, e5, _, _⟩ := DataW.trod_int Tryz.underlying3 h5
 obtain ⟨zl, e6, hl, hvl⟩ := node_open _ _ _ h6
 obtain ⟨zr, e7, hr, hvr⟩ := node_open _ _ _ h7
 match l, hsz with
 | [v0, v1, v2, v3, v4, v5, v6, v7, v8, v9, v10, v11, v12, v13, v14, v15, v16], _ =>
   simp [wcells, ncells] at e0 e1 e2 e3 e4 e5 e6 e7
   obtain ⟨rfl, rfl⟩ := e2
   obtain ⟨rfl, rfl, rfl, rfl, rfl⟩ := e6
   obtain ⟨rfl, rfl, rfl, rfl, rfl⟩ := e7
   subst e0 e1 e3 e4 e5
   refine ⟨⟨op, p, n, A, c, ws, B, dd, pp, pa, zl, zr⟩, rfl, ⟨hS3, hc3, hS4, hc4, hl, hr⟩, ?_⟩
   rw [show d = .agg (xs.map (·.1)) from congrArg Prod.fst hx]
   match xs, hlen8 with
   | [y0, y1, y2, y3, y4, y5, y6, y7], _ =>
     have hn' : n.s.size + 1 ≤ Rows.uptoBulk y2.1 := hn
     have hb3' : wvol ws + 1 ≤ Rows.uptoBulk y3.1 := hb3
     have hb4' : pvol pp + 1 ≤ Rows.uptoBulk y4.1 := hb4
     have hvl' : vol [zl] ≤ Rows.uptoBulk y6.1 := hvl
     have hvr' : vol [zr] ≤ Rows.uptoBulk y7.1 := hvr
     simp only [Rows.uptoBulk, Rows.uptoBulkAll, List.map_cons, List.map_nil]
     show n.s.size + wvol ws + pvol pp + vol [zl] + vol [zr] ≤ _
     omega
end
end
section
open Go.RowKit LX CM
namespace CM
theorem str_of {s t : ByteArray} (h : s.data.toList = lst t) : s = t := by
 cases s with | mk a => cases t with | mk b =>
 have h2 : a.toList = b.toList := h
 have h3 : a = b := Array.ext' h2
 rw [h3]
def tabD (H : Type) : List (DataW H) := match (Rows.laid_clearance_command_commands : DataW H) with
 | .agg l => l
 | _ => []
theorem tabD_at {H : Type} : ∀ i, i < 16 → (tabD H)[i]? = some (.agg [.lit (.string (lst (kws.getD i ⟨#[]⟩))), .lit (.string (lst (lts.getD i ⟨#[]⟩)))])
 | 0, _ => rfl | 1, _ => rfl | 2, _ => rfl | 3, _ => rfl | 4, _ => rfl | 5, _ => rfl | 6, _ => rfl | 7, _ => rfl
 | 8, _ => rfl | 9, _ => rfl | 10, _ => rfl | 11, _ => rfl | 12, _ => rfl | 13, _ => rfl | 14, _ => rfl | 15, _ => rfl
 | n + 16, h => absurd h (by omega)
theorem laid_tabD {H : Type} : (Rows.laid_clearance_command_commands : DataW H) = .agg (tabD H) := rfl
end CM
theorem cells_of_cmds {H : Type} {enc : TypeId × Value → H} {w : World} {base : Nat} {sp : Nat → Bool} {held : Bool} {fuel : Nat} {cs : List Value} {p : List MemPlace}
 (h : DataW.trod enc Tryz.prog w base sp held fuel 75 cs = some (.agg (tabD H), p)) : ∀ i, i < 16 → cs[i * 2]? = some (.string (kws.getD i ⟨#[]⟩)) ∧ cs[i * 2 + 1]? = some (.string (lts.getD i ⟨#[]⟩)) := by
 intro i hi
 have hce : Tryz.prog.cellsOf 74 = 2 := by kernel_rfl
 have hct : Tryz.prog.cellsOf 75 = 32 := by kernel_rfl
 have hcs : Tryz.prog.cellsOf 9 = 1 := by kernel_rfl
 cases fuel with
 | zero => simp [DataW.trod] at h
 | succ fuel =>
   simp only [DataW.trod, Tryz.underlying75, hce, hct] at h
   split at h
   ·rename_i hl
    obtain ⟨xs, hm, hx⟩ := Option.map_eq_some_iff.1 h
    have hxs : xs.map (·.1) = tabD H := by
        have := congrArg Prod.fst hx
        simpa using this
    obtain ⟨b, hb, hf⟩ := Lib.mapM_at hm i i (by simp [hi])
    have hb1 : b.1 = .agg [.lit (.string (lst (kws.getD i ⟨#[]⟩))), .lit (.string (lst (lts.getD i ⟨#[]⟩)))] := by
        have h2 : (xs.map (·.1))[i]? = some b.1 := by simp [hb]
        rw [hxs, tabD_at i hi] at h2
        exact (Option.some.inj h2).symm
    obtain ⟨ys, n, _, rfl, _, hyl, hfs⟩ := DataW.trod_struct Tryz.underlying74 hf
    have hys := hb1
    simp only [DataW.agg.injEq] at hys
    obtain ⟨y0, y1, rfl⟩ : ∃ y0 y1, ys = [y0, y1] := by
        match ys, hys with
        | [y0, y1], _ => exact ⟨y0, y1, rfl⟩
    have g0 := hfs 0 _ rfl
    have g1 := hfs 1 _ rfl
    simp only [zA3, zA2] at g0 g1
    obtain ⟨s0', c0', e0', _⟩ := DataW.trod_string Tryz.underlying9 g0
    obtain ⟨s1', c1', e1', _⟩ := DataW.trod_string Tryz.underlying9 g1
    simp only [List.map_cons, List.map_nil, List.cons.injEq, and_true, e0', e1', DataW.lit.injEq, Lit.string.injEq] at hys
    have k0 := str_of hys.1
    have k1 := str_of hys.2
    subst k0 k1
    constructor
    ·have := congrArg (·[0]?) c0'
     simpa [List.getElem?_take, List.getElem?_drop, hcs] using this
    ·have := congrArg (·[0]?) c1'
     simpa [List.getElem?_take, List.getElem?_drop, hcs] using this
   ·cases h
theorem gCmds : Tryz.prog.globalNamed "clearance/command.commands" = some 0 := by kernel_rfl
theorem gCmdsType : (Tryz.prog.globals[0]?).map (·.type) = some 75 := by kernel_rfl
theorem cmds_of_laid {W : World} {rest : List (String × DataW Unit)} (h : laidMet Tryz.prog (("clearance/command.commands", Rows.laid_clearance_command_commands) :: rest) W) : Cmds W := by
 obtain ⟨ps, ⟨g', t', cs, fuel, p, q, hg', ht', hvar, hd, _, _⟩, _⟩ := h
 obtain rfl := Option.some.inj (gCmds.symm.trans hg')
 obtain rfl := Option.some.inj (gCmdsType.symm.trans ht')
 rw [laid_tabD] at hd
 have hc := cells_of_cmds hd
 intro j v hj
 have hj2 : j < 32 := by
  rcases Nat.lt_or_ge j 32 with h | h
  ·exact h
  ·rw [List.getElem?_eq_none (show ccells.length ≤ j from h)] at hj; cases hj
 have hv := World.var?_cell gCmds hvar j
 rw [Nat.zero_add]
 rw [hv]
 have hq := ccells_at (k := j / 2) (j := j % 2) (by omega) (by omega)
 rw [show j / 2 * 2 + j % 2 = j by omega] at hq
 rw [hq] at hj
 obtain ⟨a, b⟩ := hc (j / 2) (by omega)
 rcases Nat.mod_two_eq_zero_or_one j with h | h
 ·rw [h] at hj
  rw [show j / 2 * 2 = j by omega] at a
  rw [← Array.getElem?_toList, a]
  exact hj
 ·rw [h] at hj
  rw [show j / 2 * 2 + 1 = j by omega] at b
  rw [← Array.getElem?_toList, b]
  exact hj
end
end Go.Proofs.YtmffnkfohmbbeaaGreatDoor
