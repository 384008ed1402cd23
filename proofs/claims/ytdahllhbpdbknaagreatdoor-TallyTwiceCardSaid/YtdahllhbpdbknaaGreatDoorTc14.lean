/- Texts that all the claims need. Conditions: those that each states. -/

import Derived.Test.YtdahllhbpdbknaaGreatDoorTc11
import Derived.Test.YtdahllhbpdbknaaGreatDoorTc13
set_option linter.unusedSimpArgs false
set_option linter.unusedVariables false
set_option maxRecDepth 100000
set_option maxHeartbeats 40000000
namespace Go.Proofs.YtdahllhbpdbknaaGreatDoor
section
open Go.RowKit RM Go.Maps
theorem lawU64 : Keyed Tryz.prog 38 := int_keyed Tryz.underlying38
theorem keyU64 {s : Nat} (hs : s < 18446744073709551616) : keyOf Tryz.prog 38 (.int .u64 (s : Int)) = some (.int .u64 (s : Int)) := keyOf_int_mk Tryz.underlying38 (WalkArith.wf_u64 (by omega))
def FMapU (W : World) (B n : Nat) (f : Nat → Int) : Prop :=
 ∃ D : DataW Unit, W.ownsMap Tryz.prog 38 (plainElem Tryz.prog 3) B n D ∧ IsMap D ∧ ∀ s : Nat, s < 18446744073709551616 → Maps.has D (.int .u64 (s : Int)) = decide (0 ≤ f s) ∧ D.atKey (.int .u64 (s : Int)) (.lit (.int .i64 0)) = .lit (.int .i64 (if 0 ≤ f s then f s else 0))
section
variable {W W' : World} {B n : Nat} {f : Nat → Int}
theorem FMapU.kept {row : Option Nat} (h : FMapU W B n f) (hg : W.grownBy W' row) (hne : some B ≠ row) : FMapU W' B n f := by
 obtain ⟨D, h1, h2, h3⟩ := h
 exact ⟨D, h1.kept hg hne, h2, h3⟩
theorem FMapU.same (h : FMapU W B n f) (hb : W'.heap[B]? = W.heap[B]?) : FMapU W' B n f := by
 obtain ⟨D, ⟨es, clock, h1, F, hs, hD⟩, h2, h3⟩ := h
 exact ⟨D, ⟨es, clock, hb.trans h1, F, hs, hD⟩, h2, h3⟩
theorem FMapU.lt (h : FMapU W B n f) : B < W.heap.size := by
 obtain ⟨D, h1, _⟩ := h
 exact h1.lt
theorem FMapU.below {b : Nat} (h : FMapU W B n f) (hb : Below b W W') (hB : B < b) : FMapU W' B n f := h.same (hb.block B hB)
theorem FMapU.new (w : World) : FMapU (w.alloc (.map #[] 0)) w.heap.size 0 (fun _ => -1) :=
 ⟨.map [], World.ownsMap_made _ _ _ _, isMap_empty, fun _ _ => ⟨rfl, rfl⟩⟩
theorem FMapU.ok (h : FMapU W B n f) {s : Nat} (hs : s < 18446744073709551616) : (Instr.lookup 101 (.map (some B)) (.int .u64 (s : Int)) true).run Tryz.prog W = .ok (.tuple #[.int .i64 (if 0 ≤ f s then f s else 0), .bool (decide (0 ≤ f s))]) W := by
 obtain ⟨D, h1, _, h3⟩ := h
 obtain ⟨v, ps, hrun, hv⟩ := h1.look_ok lawU64 Tryz.underlying101 (zeroInt _) (plainElem_int Tryz.underlying3 (by decide)) (keyU64 hs)
 obtain ⟨c, rfl, hc, _⟩ := plainElem_int_inv Tryz.underlying3 hv
 simp only [Prod.mk.injEq] at hc
 have h4 := (h3 s hs).2
 rw [hc.1] at h4
 simp only [DataW.lit.injEq, Lit.int.injEq, true_and] at h4
 rw [(h3 s hs).1, h4] at hrun
 exact hrun
end
theorem mapU_nil (W : World) {s : Nat} (hs : s < 18446744073709551616) : (Instr.lookup 101 (.map none) (.int .u64 (s : Int)) true).run Tryz.prog W = .ok (.tuple #[.int .i64 0, .bool false]) W :=
 Maps.look_nil true lawU64 Tryz.underlying101 (zeroInt _) (keyU64 hs)
theorem wpList_fmapU {w : World} {ops : Array Oper} {rest : List Oper} {o : Oper} {a : Act} {Q : Exit → Act → World → Prop}
 (hg : o.guard = none) (m x v : Operand) (hop : o.op = Op.mapUpdate 101 m x v) (B n : Nat) (f : Nat → Int)
 (hm : a.eval m = .map (some B)) (hc : FMapU w B n f) (hn : n < maxLen) (s : Nat) (hs : s < 18446744073709551616) (c : Nat) (hcb : c < 4294967300) (hx : a.eval x = .int .u64 (s : Int)) (hv : a.eval v = .int .i64 c)
 (hK : ∀ w', FMapU w' B (n + 1) (fun t => if t = s then c else f t) → w.grownBy w' (some B) → wpList Tryz.prog ops Q rest (a.put o.dst undef) w') :
 wpList Tryz.prog ops Q (o :: rest) a w := by
 obtain ⟨D, h1, h2, h3⟩ := hc
 refine wpList_mapUpdate_own w hg m x v 101 hop 38 3 lawU64 Tryz.underlying101 _ B n D hm h1 hn _ _ _ hx hv (keyU64 hs) _ [] (plainElem_int Tryz.underlying3 (WalkArith.wf_i64 (by omega))) ?_
 intro w' hown hgr
 refine hK w' ⟨_, hown, h2.put _ _, fun t ht => ?_⟩ hgr
 by_cases hts : t = s
 ·subst hts
  rw [atKey_put_same h2 (by simp [WideAt.IsKeyLit]), has_put_same h2 (by simp [WideAt.IsKeyLit])]
  simp
 ·have e2 : ((fun t => if t = s then (c : Int) else f t) t) = f t := if_neg hts
  have hne : Lit.int .u64 (t : Int) ≠ Lit.int .u64 (s : Int) := by
   intro e
   apply hts
   simp only [Lit.int.injEq, true_and] at e
   omega
  rw [e2, atKey_put_other hne, has_put_other hne]
  exact h3 t ht
theorem least_any (g c : Nat) (xs : List Nat) (hx : ∀ i, xs.getD i 0 < 18446744073709551616) (hl : xs.length ≤ 64) (s : Nat) (hs : s < 18446744073709551616) (w : World) (hg : SideAt w g xs) :
 Calls Tryz.prog 74 #[.slice (some ⟨g, 0, none⟩) xs.length c, .int .u64 (s : Int)] w fun e w' => e = .returned (.int .u64 ((leT xs s xs.length : Nat) : Int)) ∧ w = w' := by
 have hc := hg.cell
 have HC := zh hc; clear hc
 have HX := zh hx; clear hx
 have HLT := zh (leT_lt xs s)
 have H0 : Hid (leT xs s 0 = 18446744073709551615) := rfl
 have HS1 : Hid (∀ k, leT xs s (k + 1) = if MM.subN s (xs.getD k 0) then leT xs s k &&& xs.getD k 0 else leT xs s k) := fun _ => rfl
 clear hg
 generalize leT xs s = T at *
 generalize xs.length = p at *
 go_enter Tryz.func74, Tryz.ntmps74
 go_wp2_with fail
 go_loop [5, 7, 10] (fun av _ kv => ∃ k : Nat, k ≤ p ∧ kv = .int .i64 k ∧ av = .int .u64 ((T k : Nat) : Int)) (fun _ _ kv => p - (intOf kv).toNat)
 case atStart => exact ⟨0, by omega, rfl, by rw [H0.out]; rfl⟩
 case round =>
  obtain ⟨k, hk, rfl, rfl⟩ := hrel
  by_cases hlt : k < p
  ·have hck := HC.out k hlt
   have hx := HX.out k
   have ht := HLT.out k
   have hs1 := HS1.out k
   have hbt : bits BinOp.andNot IntKind.u64 (s : Int) ((xs.getD k 0 : Nat) : Int) = ((s &&& (18446744073709551615 - xs.getD k 0) : Nat) : Int) := u64_andNot_nat _ _ hs hx
   have hba : bits BinOp.and IntKind.u64 ((T k : Nat) : Int) ((xs.getD k 0 : Nat) : Int) = ((T k &&& xs.getD k 0 : Nat) : Int) := u64_and_nat _ _ ht hx
   have hsub : (((s &&& (18446744073709551615 - xs.getD k 0) : Nat) : Int) == 0) = MM.subN s (xs.getD k 0) := MM.sub_eq s _ hx
   generalize xs.getD k 0 = x at *
   generalize hz : s &&& (18446744073709551615 - x) = z at *
   clear hz
   cases hd : MM.subN s x with
   | true =>
     rw [hd] at hsub hs1
     rw [if_pos rfl] at hs1
     have HN := zh hs1
     clear hs1 hd
     go_wp2_with fail
     go_round
     case rel => exact ⟨k + 1, by omega, by go_num, by rw [HN.out]⟩
     case measure => simp [intOf]; omega
   | false =>
     rw [hd] at hsub hs1
     rw [if_neg (by decide)] at hs1
     have HN := zh hs1
     clear hs1 hd
     go_wp2_with fail
     go_round
     case rel => exact ⟨k + 1, by omega, by go_num, by rw [HN.out]⟩
     case measure => simp [intOf]; omega
  ·obtain rfl : k = p := by omega
   go_wp2
   go_ret
   exact ⟨rfl, rfl⟩
end
section
open Go.RowKit RM Go.Maps
def rowL (n : Int) (l : List Nat) (i : Nat) : List Nat := (List.range (pts n)).map fun j => leT (wds n l) ((wds n l).getD i 0 ||| (wds n l).getD j 0) (pts n)
theorem rowL_len (n : Int) (l : List Nat) (i : Nat) : (rowL n l i).length = pts n := by simp [rowL]
theorem rowL_at (n : Int) (l : List Nat) (i : Nat) {j : Nat} (h : j < pts n) : (rowL n l i).getD j 0 = leT (wds n l) ((wds n l).getD i 0 ||| (wds n l).getD j 0) (pts n) := map_getD (fun j => leT (wds n l) ((wds n l).getD i 0 ||| (wds n l).getD j 0) (pts n)) _ _ h
structure TabAt (W : World) (lo mb jb : Nat) (n : Int) (l : List Nat) : Prop where
 map : ∃ k, FMapU W mb k (ptI n l (pts n))
 mlo : lo ≤ mb
 jlo : lo ≤ jb
 row : ∃ (cur : Array Value) (fr : Nat × Nat) (gs : Nat → Nat), W.heap[jb]? = some (.cells cur 119 fr) ∧ ∀ i, i < pts n → cur[i]? = some (.slice (some ⟨gs i, 0, none⟩) (pts n) (pts n)) ∧ lo ≤ gs i ∧ SideAt W (gs i) (rowL n l i)
theorem TabAt.same {W W' : World} {lo mb jb : Nat} {n : Int} {l : List Nat} (h : TabAt W lo mb jb n l) (hs : ∀ k, lo ≤ k → k < W.heap.size → W'.heap[k]? = W.heap[k]?) : TabAt W' lo mb jb n l := by
 obtain ⟨⟨k, hm⟩, h1, h2, cur, fr, gs, h3, h4⟩ := h
 refine ⟨⟨k, hm.same (hs _ h1 hm.lt)⟩, h1, h2, cur, fr, gs, (hs _ h2 (Array.getElem?_eq_some_iff.1 h3).1).trans h3, fun i hi => ?_⟩
 obtain ⟨h5, h6, h7⟩ := h4 i hi
 exact ⟨h5, h6, (hs _ h6 h7.lt).trans h7⟩
theorem TabAt.mono {W : World} {lo lo' mb jb : Nat} {n : Int} {l : List Nat} (h : TabAt W lo mb jb n l) (hs : lo' ≤ lo) : TabAt W lo' mb jb n l := by
 obtain ⟨hm, h1, h2, cur, fr, gs, h3, h4⟩ := h
 exact ⟨hm, by omega, by omega, cur, fr, gs, h3, fun i hi => ⟨(h4 i hi).1, by have := (h4 i hi).2.1; omega, (h4 i hi).2.2⟩⟩
theorem TabAt.below {W W' : World} {lo mb jb : Nat} {n : Int} {l : List Nat} (h : TabAt W lo mb jb n l) (hb : Below W.heap.size W W') : TabAt W' lo mb jb n l := h.same fun k _ hk => hb.block k hk
theorem tjoin_any (lo mb jb c : Nat) (n : Int) (l : List Nat) (a b : Nat) (ha : a < 18446744073709551616) (hb : b < 18446744073709551616) (w : World) (hT : TabAt w lo mb jb n l) :
 Calls Tryz.prog 45 #[.agg #[.map (some mb), .slice (some ⟨jb, 0, none⟩) (pts n) c], .int .u64 (a : Int), .int .u64 (b : Int)] w fun e w' => e = .returned (.int .u64 ((tblW n l a b : Nat) : Int)) ∧ Below w.heap.size w w' := by
 have HB1 : Hid (Below w.heap.size w (w.alloc (.cells #[.map (some mb), .slice (some ⟨jb, 0, none⟩) (pts n) c] 104))) := zh ((zB _ _).alloc (zL _) _)
 have hT1 := hT.below HB1.out
 have hr1 := RowAt.new w 104 #[.map (some mb), .slice (some ⟨jb, 0, none⟩) (pts n) c]
 obtain ⟨c0, c1, _, _⟩ : _ ∧ _ ∧ _ ∧ _ := ⟨(hr1.cell 0).trans (rfl : _ = some (Value.map (some mb))), (hr1.cell 1).trans (rfl : _ = some (Value.slice (some ⟨jb, 0, none⟩) (pts n) c)), trivial, trivial⟩
 obtain ⟨⟨k, hm⟩, h1, h2, cur, fr, gs, h3, h4⟩ := hT1
 have hla := hm.ok ha
 have hlb := hm.ok hb
 have hor : bits BinOp.or IntKind.u64 (a : Int) (b : Int) = ((a ||| b : Nat) : Int) := u64_or_nat a b ha hb
 have HTB : Hid (tblW n l a b = if 0 ≤ ptI n l (pts n) a ∧ 0 ≤ ptI n l (pts n) b then leT (wds n l) ((wds n l).getD (ptI n l (pts n) a).toNat 0 ||| (wds n l).getD (ptI n l (pts n) b).toNat 0) (pts n) else a ||| b) := rfl
 have hba := (ptI_bd n l a (pts n)).2
 have hbb := (ptI_bd n l b (pts n)).2
 have HRC : Hid (∀ i j : Nat, i < pts n → j < pts n → (w.alloc (.cells #[.map (some mb), .slice (some ⟨jb, 0, none⟩) (pts n) c] 104)).cell? ⟨jb, i, none⟩ = some (.slice (some ⟨gs i, 0, none⟩) (pts n) (pts n)) ∧
  (w.alloc (.cells #[.map (some mb), .slice (some ⟨jb, 0, none⟩) (pts n) c] 104)).cell? ⟨gs i, j, none⟩ = some (.int .u64 ((leT (wds n l) ((wds n l).getD i 0 ||| (wds n l).getD j 0) (pts n) : Nat) : Int))) := zh fun i j hi hj => by
  obtain ⟨h5, h6, h7⟩ := h4 i hi
  refine ⟨by rw [cell_of_row _ jb i cur _ fr h3]; exact h5, ?_⟩
  rw [h7.cell j (by rw [rowL_len]; exact hj), rowL_at n l i hj]
 clear hm h3 h4 hT
 generalize hpa : ptI n l (pts n) a = pa at *
 generalize hpb : ptI n l (pts n) b = pb at *
 clear hpa hpb
 generalize tblW n l a b = res at *
 by_cases h5 : 0 ≤ pa
 ·obtain ⟨i, rfl⟩ := Int.eq_ofNat_of_zero_le h5
  rw [if_pos h5, zE h5] at hla
  have hip : i < pts n := by omega
  by_cases h6 : 0 ≤ pb
  ·obtain ⟨j, rfl⟩ := Int.eq_ofNat_of_zero_le h6
   rw [if_pos h6, zE h6] at hlb
   have hjp : j < pts n := by omega
   rw [if_pos ⟨h5, h6⟩, Int.toNat_natCast, Int.toNat_natCast] at HTB
   obtain ⟨k1, k2⟩ := HRC.out i j hip hjp
   rw [← HTB.out] at k2
   clear HTB h5 h6 hba hbb
   generalize pts n = p at *
   go_enter Tryz.func45, Tryz.ntmps45
   go_wp2_with fail
   go_ret
   exact ⟨rfl, HB1.out⟩
  ·rw [if_neg h6, zF h6] at hlb
   rw [if_neg (fun h => h6 h.2)] at HTB
   rw [← HTB.out] at hor
   clear HTB h5 h6 hba hbb HRC
   go_enter Tryz.func45, Tryz.ntmps45
   go_wp2_with fail
   go_ret
   exact ⟨rfl, HB1.out⟩
 ·rw [if_neg h5, zF h5] at hla
  rw [if_neg (fun h => h5 h.1)] at HTB
  rw [← HTB.out] at hor
  clear HTB h5 hba HRC
  generalize (if 0 ≤ pb then pb else 0) = pb' at *
  generalize decide (0 ≤ pb) = db at *
  go_enter Tryz.func45, Tryz.ntmps45
  go_wp2_with fail
  go_ret
  exact ⟨rfl, HB1.out⟩
theorem tjoin0_any (a b : Nat) (ha : a < 18446744073709551616) (hb : b < 18446744073709551616) (w : World) :
 Calls Tryz.prog 45 #[.agg #[.map none, .slice none 0 0], .int .u64 (a : Int), .int .u64 (b : Int)] w fun e w' => e = .returned (.int .u64 ((a ||| b : Nat) : Int)) ∧ Below w.heap.size w w' := by
 have HB1 : Hid (Below w.heap.size w (w.alloc (.cells #[.map none, .slice none 0 0] 104))) := zh ((zB _ _).alloc (zL _) _)
 have hr1 := RowAt.new w 104 #[.map none, .slice none 0 0]
 have c0 : _ = some (Value.map none) := (hr1.cell 0).trans rfl
 have hla := mapU_nil (w.alloc (.cells #[.map none, .slice none 0 0] 104)) ha
 have hlb := mapU_nil (w.alloc (.cells #[.map none, .slice none 0 0] 104)) hb
 have hor : bits BinOp.or IntKind.u64 (a : Int) (b : Int) = ((a ||| b : Nat) : Int) := u64_or_nat a b ha hb
 generalize a ||| b = z at *
 go_enter Tryz.func45, Tryz.ntmps45
 go_wp2_with fail
 go_ret
 exact ⟨rfl, HB1.out⟩
end
section
open Go.RowKit RM Go.Maps
theorem infoUs : (Tryz.prog.info? 119).map (fun i => (i.zero, i.size, i.bytes)) = some (some (.slice none 0 0), 1, 24) := by kernel_rfl
theorem run_makeMapU (w : World) : (Instr.makeMap 101 none).run Tryz.prog w = .ok (.map (some w.heap.size)) (w.alloc (.map #[] 0)) := by
 simp [Instr.makeMap, asInt, asIntOf, run_underlying Tryz.underlying101, Result.andThen]
def jcells (p : Nat) (gs : List Nat) : List Value := gs.map fun g => .slice (some ⟨g, 0, none⟩) p p
theorem wds_sd (n : Int) (l : List Nat) : wds n l = sdTo (fun i : Nat => wordN n l (i : Int)) (pts n) (pts n) := (sdTo_end _ _).symm
theorem rowL_sd (n : Int) (l : List Nat) (i : Nat) : rowL n l i = sdTo (fun j => leT (wds n l) ((wds n l).getD i 0 ||| (wds n l).getD j 0) (pts n)) (pts n) (pts n) := (sdTo_end _ _).symm
theorem own_apart {w : World} {base size n g : Nat} {e : TypeId} {x : Value} {cs : List Value} {o : Obj} (h : w.ownsRow base e size x n cs) (hb : w.heap[g]? = some o) (ho : ∀ c f, o ≠ .cells c e f) : x.ownBlock ≠ some g := by
 rcases h.2 with ⟨rfl, _⟩ | ⟨g', cap, cur, rfl, _, hh, _⟩
 ·simp [Value.ownBlock]
 ·intro hx
  have hx' : g' = g := by simpa [Value.ownBlock] using hx
  subst hx'
  rw [hh] at hb
  injection hb with hb
  exact ho _ _ hb.symm
theorem blk_apart {w : World} {a b : Nat} {c c' : Array Value} {t t' : TypeId} {f f' : Nat × Nat} (h : w.heap[a]? = some (.cells c t f)) (h' : w.heap[b]? = some (.cells c' t' f')) (ht : t ≠ t') : a ≠ b := fun e => by
 subst e
 rw [h] at h'
 injection h' with h'
 injection h' with _ h2 _
 exact ht h2
theorem row_side {w : World} {a b : Nat} {c : Array Value} {t : TypeId} {xs : List Nat} (h : RowAt w a t c) (h' : SideAt w b xs) (ht : t ≠ 38) : a ≠ b := by
 unfold RowAt at h
 unfold SideAt at h'
 exact blk_apart h h' ht
theorem getD_left {α : Type} {a b : List α} {q : Nat} {d : α} (h : q < a.length) : (a ++ b).getD q d = a.getD q d := by
 rw [List.getD_eq_getElem?_getD, List.getElem?_append_left h, List.getD_eq_getElem?_getD]
theorem own_cells {w : World} {base n c : Nat} {e : TypeId} {A : Option Addr} {cs : List Value} (h : w.ownsRow base e 1 (.slice A n c) n cs) (hn : 0 < n) :
 ∃ g cur, A = some ⟨g, 0, none⟩ ∧ base ≤ g ∧ w.heap[g]? = some (.cells cur e (0, 0)) ∧ ∀ j, j < n → cur[j]? = cs[j]? := by
 rcases h.2 with ⟨hv, h0⟩ | ⟨g, cap, cur, hv, hg, hh, h1, h2, h3, h4⟩
 ·omega
 ·injection hv with e1 _ e3
  subst e1
  refine ⟨g, cur, rfl, hg, hh, fun j hj => ?_⟩
  rw [← h4, List.getElem?_take_of_lt (by omega)]
  simp
theorem Else.trans {g : Nat} {a b c : World} (h : Else g a b) (k : Else g b c) : Else g a c := ⟨k.os.trans h.os, k.tape.trans h.tape, k.output.trans h.output, k.size.trans h.size, fun j hj => (k.block j hj).trans (h.block j hj)⟩
theorem FMapU.map {W : World} {B n : Nat} {f : Nat → Int} (h : FMapU W B n f) : ∃ es clock, W.heap[B]? = some (.map es clock) := by
 obtain ⟨D, ⟨es, clock, h1, _⟩, _⟩ := h
 exact ⟨es, clock, h1⟩
theorem SideAt.mut {w w' : World} {g q : Nat} {xs : List Nat} (h : SideAt w q xs) (hm : Mut g w w') (hq : q ≠ g) : SideAt w' q xs := (hm.block q h.lt hq).trans h
theorem SideAt.grown {w w' : World} {q : Nat} {xs : List Nat} {row : Option Nat} (h : SideAt w q xs) (hb : w.grownBy w' row) (hg : row ≠ some q) : SideAt w' q xs := (hb.block q h.lt (fun e => hg e.symm)).trans h
theorem jcells_app (p : Nat) (a b : List Nat) : jcells p (a ++ b) = jcells p a ++ jcells p b := by simp [jcells]
theorem tableOf_any (n : Int) (l : List Nat) (hl : RW l) (hlat : latB n l = true) (w : World) :
 Calls Tryz.prog 61 #[.agg (rv n l)] w fun e w' => ∃ mb jb c, e = .returned (.agg #[.map (some mb), .slice (some ⟨jb, 0, none⟩) (pts n) c]) ∧ TabAt w' w.heap.size mb jb n l ∧ Below w.heap.size w w' := by
 have hn1 := lat_n hlat
 have hpn : ((pts n : Nat) : Int) = n := pts_in (by omega) hn1.2
 have hp := pts_le n
 have hp1 : 1 ≤ pts n := by omega
 have hmm := run_makeMapU
 have hr0 := RelAt.new w n l
 have hc0 := hr0.cell0
 refine cHid fun Q' hQ => ?_
 have HQ := zh hQ; clear hQ
 have HF0 : Hid (FMapU ((w.alloc (.cells (rv n l) 59)).alloc (.cells #[.map none, .slice none 0 0] 104) |>.alloc (.map #[] 0)) (w.heap.size + 1 + 1) 0 (fun _ => -1)) := zh (by
  have := FMapU.new ((w.alloc (.cells (rv n l) 59)).alloc (.cells #[.map none, .slice none 0 0] 104))
  simpa using this)
 go_enter Tryz.func61, Tryz.ntmps61
 go_upto_region 2 with fail
 obtain ⟨g1, hg1⟩ : ∃ g1, g1 = w.heap.size + 1 := ⟨_, rfl⟩
 obtain ⟨g2, hg2⟩ : ∃ g2, g2 = w.heap.size + 1 + 1 := ⟨_, rfl⟩
 obtain ⟨g3, hg3⟩ : ∃ g3, g3 = w.heap.size + 1 + 1 + 1 := ⟨_, rfl⟩
 have hw1 : ∃ w1, w1 = ((((w.alloc (.cells (rv n l) 59)).alloc (.cells #[.map none, .slice none 0 0] 104)).alloc (.map #[] 0)).alloc (.cells #[.map (some (w.heap.size + 1 + 1)), .slice none 0 0] 104)) := ⟨_, rfl⟩
 obtain ⟨w1, hw1⟩ := hw1
 have hb1 : Below w.heap.size w w1 := by
  rw [hw1]
  exact ((((zB _ _).alloc (zL _) _).alloc (by simp) _).alloc (by simp; omega) _).alloc (by simp; omega) _
 have hR1 : RelAt w1 w.heap.size n l := by
  rw [hw1]
  exact RowAt.alloc (RowAt.alloc (RowAt.alloc hr0 _) _) _
 have hG1 : RowAt w1 g1 104 #[.map none, .slice none 0 0] := by
  have := RowAt.new (w.alloc (.cells (rv n l) 59)) 104 #[.map none, .slice none 0 0]
  rw [hw1, hg1]
  simp only [World.size_alloc] at this
  exact (this.alloc _).alloc _
 have hF1 : FMapU w1 g2 0 (ptI n l 0) := by
  rw [hw1, hg2]
  exact (HF0.out).same ((heap_alloc_old _ _ HF0.out.lt))
 have hT1 : RowAt w1 g3 104 #[.map (some g2), .slice none 0 0] := by
  have := RowAt.new (((w.alloc (.cells (rv n l) 59)).alloc (.cells #[.map none, .slice none 0 0] 104)).alloc (.map #[] 0)) 104 #[.map (some (w.heap.size + 1 + 1)), .slice none 0 0]
  simp only [World.size_alloc] at this
  rw [hw1, hg3, hg2]
  exact this
 have hs1 : w1.heap.size = w.heap.size + 4 := by rw [hw1]; simp
 rw [← hw1, ← hg3, ← hg2, ← hg1]
 have HGE := zh (And.intro hg1 (And.intro hg2 hg3))
 clear hw1 HF0 hmm hr0 hc0 hg1 hg2 hg3
 have hc0 := hR1.cell0
 obtain ⟨i0, hi, hz0, hz1, hz2⟩ := info_parts infoU64
 have hbytes : i0.bytes * pts n ≤ 281474976710656 := by rw [hz2]; omega
 have HS1 := zh hs1; clear hs1
 have hle1 : w.heap.size ≤ w1.heap.size := by rw [HS1.out]; omega
 rw [← hpn] at hc0
 have HWD : Hid (wds n l = sdTo (fun i : Nat => wordN n l (i : Int)) (pts n) (pts n)) := zh (wds_sd n l)
 have HZ : Hid (sdTo (fun i : Nat => wordN n l (i : Int)) (pts n) 0 = List.replicate (pts n) 0) := sdTo_zero _ _
 have HR1 := zh hR1
 have HG1 := zh hG1
 have HF1 := zh hF1
 have HT1 := zh hT1
 have HB1 := zh hb1
 have HPN := zh hpn
 clear hR1 hG1 hF1 hT1 hb1 hpn
 obtain ⟨p, hpp⟩ : ∃ p, p = pts n := ⟨_, rfl⟩
 have HPP := zh hpp
 rw [← hpp] at hc0 hbytes HWD HZ hp hp1
 clear hpp
 go_wp2_with (at_make; refine wpList_make_full _ rfl (.tmp 14) (.tmp 14) 119 rfl w.heap.size 38 i0 _ 1 Tryz.underlying119 hi hz0 hz1 .i64 .i64 _ _ p rfl rfl rfl rfl hbytes (by unfold maxLen; omega) hle1 ?_; intro w2 hown hgr)
 have HO2 : Hid (SideAt w2 w1.heap.size (sdTo (fun i : Nat => wordN n l (i : Int)) p 0)) := zh (by
  obtain ⟨hO, _⟩ := own_whole hown
  rw [made_zero, ← HZ.out] at hO
  exact hO)
 have HB12 : Hid (Below w1.heap.size w1 w2) := zh ((zB w1.heap.size w1).grown hgr (zL _) (fun j hj => by cases hj))
 clear hown hgr hc0 hbytes hi hz0 hz1 hz2
 have h41 : w1.heap.size = w.heap.size + 4 := HS1.out
 have HR2 := zh (HR1.out.below HB12.out HR1.out.lt)
 have HG2 := zh (HG1.out.below HB12.out HG1.out.lt)
 have HF2 := zh (HF1.out.below HB12.out HF1.out.lt)
 have HT2 := zh (HT1.out.below HB12.out HT1.out.lt)
 have HB2 : Hid (Below w.heap.size w w2) := zh (HB1.out.trans (HB12.out.mono hle1))
 clear HR1 HG1 HF1 HT1 HB1 HB12
 obtain ⟨gw, hgw⟩ : ∃ gw, gw = w1.heap.size := ⟨_, rfl⟩
 rw [← hgw] at HO2 ⊢
 have hgs : w.heap.size + 4 = gw ∧ g1 = w.heap.size + 1 ∧ g2 = w.heap.size + 2 ∧ g3 = w.heap.size + 3 := by have := HGE.out; omega
 clear hgw h41 HGE hle1 HS1
 have HGS := zh hgs; clear hgs
 have hmx : p ≤ 4294967296 := by omega
 go_loopw [5, 18] (fun _ kv wr => ∃ k : Nat, k ≤ p ∧ kv = .int .i64 k ∧ Hid (RelAt wr w.heap.size n l) ∧ Hid (RowAt wr g1 104 #[.map none, .slice none 0 0]) ∧ Hid (FMapU wr g2 k (ptI n l k)) ∧ Hid (RowAt wr g3 104 #[.map (some g2), .slice none 0 0]) ∧
  Hid (SideAt wr gw (sdTo (fun i : Nat => wordN n l (i : Int)) p k)) ∧ Hid (Below w.heap.size w wr)) (fun _ kv _ => p - (intOf kv).toNat)
 case atStart => exact ⟨0, by omega, rfl, HR2, HG2, HF2, HT2, HO2, HB2⟩
 case round =>
  clear HR2 HG2 HF2 HT2 HO2 HB2
  obtain ⟨k, hk, rfl, HR, HG, HF, HT, HO, HB⟩ := hrel
  by_cases hlt : k < p
  ·have HC : Hid (∀ W, Calls Tryz.prog 71 #[.agg (rv n l), .int .i64 (k : Int)] W fun e w' => e = .returned (.int .u64 ((wordN n l (k : Int) : Nat) : Int)) ∧ Below W.heap.size W w') := zh (hword_any n l hl (k : Int))
   have HLEN : Hid ((sdTo (fun i : Nat => wordN n l (i : Int)) p k).length = p) := sdTo_length _ p k
   have HNX : Hid ((sdTo (fun i : Nat => wordN n l (i : Int)) p k).set k (wordN n l (k : Int)) = sdTo (fun i : Nat => wordN n l (i : Int)) p (k + 1)) := sdTo_set (fun i : Nat => wordN n l (i : Int)) p k
   have HPT : Hid (ptI n l (k + 1) = fun t => if t = wordN n l (k : Int) then (k : Int) else ptI n l k t) := zh (by funext t; rfl)
   have hwl := wordN_lt n l (k : Int)
   have HAT : Hid (k < p → (sdTo (fun i : Nat => wordN n l (i : Int)) p (k + 1)).getD k 0 = wordN n l (k : Int)) := zh fun h => by
        unfold sdTo
        rw [map_getD (fun i => if i < k + 1 then wordN n l (i : Int) else 0) p k h, if_pos (by omega)]
   have HLEN2 : Hid ((sdTo (fun i : Nat => wordN n l (i : Int)) p (k + 1)).length = p) := sdTo_length _ p (k + 1)
   generalize sdTo (fun i : Nat => wordN n l (i : Int)) p k = xs at *
   generalize hys : sdTo (fun i : Nat => wordN n l (i : Int)) p (k + 1) = ys at *
   have HYS := zh hys; clear hys
   generalize wordN n l (k : Int) = wk at *
   have hkL : (k : Int) < (p : Int) := by omega
   go_upto_region 7 with (first
        | (refine wpList_loadRel (by rfl) _ rfl w.heap.size rfl n l hl HR.out ?_)
        | (go_at_call 71; refine (HC.out _).mono ?_; rintro e w3 ⟨rfl, hb3⟩; have HO3 := zh (HO.out.below hb3 HO.out.lt); have HB3 := zh hb3; clear hb3; have hc3 := HO3.out.cell k (by rw [HLEN.out]; exact hlt); have hf3 := HO3.out.free k))
   have hne := HGS.out
   have HR4 := zh ((HR.out.below HB3.out HR.out.lt).far (p := ⟨gw, k, none⟩) (by show gw ≠ _; omega) (.int .u64 (wk : Int)))
   have HG4 := zh ((HG.out.below HB3.out HG.out.lt).far (p := ⟨gw, k, none⟩) (by show gw ≠ _; omega) (.int .u64 (wk : Int)))
   have HT4 := zh ((HT.out.below HB3.out HT.out.lt).far (p := ⟨gw, k, none⟩) (by show gw ≠ _; omega) (.int .u64 (wk : Int)))
   have HO4 : Hid (SideAt (w3.setCell ⟨gw, k, none⟩ (.int .u64 (wk : Int))) gw ys) := zh (by
        have := HO3.out.put k wk
        rw [HNX.out] at this
        exact this)
   have HF4 : Hid (FMapU (w3.setCell ⟨gw, k, none⟩ (.int .u64 (wk : Int))) g2 k (ptI n l k)) := zh ((HF.out.below HB3.out HF.out.lt).same (by
        simp only [World.setCell, Array.getElem?_modify]
        rw [if_neg (by omega)]))
   have HB4 : Hid (Below w.heap.size w (w3.setCell ⟨gw, k, none⟩ (.int .u64 (wk : Int)))) := zh ((HB.out.trans (HB3.out.mono HB.out.size)).setCell (p := ⟨gw, k, none⟩) (by show _ ≤ gw; omega) _)
   generalize (w3.setCell ⟨gw, k, none⟩ (.int .u64 (wk : Int))) = w4 at *
   clear hc3 hf3 HR HG HF HT HO HB HB3 HO3 HC HNX HLEN hne
   have hc4 : w4.cell? ⟨gw, k, none⟩ = some (.int .u64 (wk : Int)) := by
        rw [HO4.out.cell k (by rw [HLEN2.out]; exact hlt), HAT.out hlt]
   have hm4 : w4.cell? ⟨g3, 0, none⟩ = some (.map (some g2)) := (HT4.out.cell 0).trans rfl
   go_still_tail 7, (by kernel_rfl)
   change wpList _ _ _ _ _ w4.drew
   refine wpList_fmapU rfl _ _ _ rfl g2 k (ptI n l k) rfl HF4.out (by unfold maxLen; omega) wk hwl k (by omega) rfl rfl ?_
   intro w5 hf5 hg5
   have hg5' : w4.grownBy w5 (some g2) := ⟨hg5.os, hg5.tape, hg5.output, hg5.size, hg5.block⟩
   have HG5 := zh hg5'
   have HF5 := zh hf5
   clear hf5 hg5 hg5' hc4 hm4
   simp only [Act.put]
   go_wp2_with fail
   go_roundw
   case rel =>
        have hne := HGS.out
        refine ⟨k + 1, by omega, by go_num, zh (HR4.out.grown HG5.out (by intro e; cases e; omega)), zh (HG4.out.grown HG5.out (by intro e; cases e; omega)), zh (by rw [HPT.out]; exact HF5.out), zh (HT4.out.grown HG5.out (by intro e; cases e; omega)), zh (by rw [HYS.out]; exact HO4.out.grown HG5.out (by intro e; cases e; omega)), zh (HB4.out.grown HG5.out HB4.out.size (by intro j hj; cases hj; omega))⟩
   case measure => simp [intOf]; omega
  ·obtain rfl : k = p := by omega
   clear hlt hk
   rw [← HWD.out] at HO
   have HR0 : Hid (∀ k, k < 0 → w.heap.size ≤ ([] : List Nat).getD k 0 ∧ SideAt wr (([] : List Nat).getD k 0) (rowL n l k)) := zh fun k hk => by omega
   have HWL : Hid ((wds n l).length = k) := zh (by rw [wds_len]; exact HPP.out.symm)
   have HWX := zh (wds_lt n l)
   have HRS : Hid (∀ i, rowL n l i = sdTo (fun j => leT (wds n l) ((wds n l).getD i 0 ||| (wds n l).getD j 0) k) k k) := zh fun i => by
        rw [rowL_sd, ← HPP.out]
   have HLE : Hid (∀ (s : Nat) (W : World), s < 18446744073709551616 → SideAt W gw (wds n l) → Calls Tryz.prog 74 #[.slice (some ⟨gw, 0, none⟩) k k, .int .u64 (s : Int)] W fun e w' => e = .returned (.int .u64 ((leT (wds n l) s k : Nat) : Int)) ∧ W = w') := zh fun s W hs hW => by
        have := least_any gw k (wds n l) (wds_lt n l) (by rw [HWL.out]; exact hp) s hs W hW
        rw [HWL.out] at this
        exact this
   clear HWD HR HPN HZ
   generalize wds n l = xs at *
   clear hmx hn1 hlat
   go_wp2_with fail
   have HOW0 : Hid (wr.ownsRow w.heap.size 119 1 (.slice none 0 0) 0 (jcells k [])) := zh (World.ownsRow_nil _ _ _ _)
   obtain ⟨w0, hw0⟩ : ∃ w0, w0 = wr := ⟨_, rfl⟩
   rw [← hw0] at HG HF HT HO HB HR0 HOW0 ⊢
   clear hw0
   go_loopw [7, 8, 9, 10, 37, 44, 45, 46] (fun _ _ _ _ iv _ _ _ wr => ∃ (i jc : Nat) (JA : Option Addr) (gs : List Nat), i ≤ k ∧ iv = .int .i64 i ∧ Hid (RowAt wr g1 104 #[.map none, .slice none 0 0]) ∧ Hid (FMapU wr g2 k (ptI n l k)) ∧ Hid (RowAt wr g3 104 #[.map (some g2), .slice JA i jc]) ∧ Hid (SideAt wr gw xs) ∧
        Hid (wr.ownsRow w.heap.size 119 1 (.slice JA i jc) i (jcells k gs)) ∧ Hid (gs.length = i) ∧ Hid (∀ k, k < i → w.heap.size ≤ gs.getD k 0 ∧ SideAt wr (gs.getD k 0) (rowL n l k)) ∧ Hid (Below w.heap.size w wr)) (fun _ _ _ _ iv _ _ _ _ => k - (intOf iv).toNat)
   case atStart => exact ⟨0, 0, none, [], by omega, rfl, HG, HF, HT, HO, HOW0, zh rfl, HR0, HB⟩
   case round =>
        clear HG HF HT HO HB HR0 HOW0
        obtain ⟨i, jc, JA, gs, hi, rfl, HG, HF, HT, HO, HOW, HGL, HGR, HB⟩ := hrel
        by_cases hlt : i < k
        ·have hci := HO.out.cell i (by rw [HWL.out]; exact hlt)
         have hxi := HWX.out i
         have HRI : Hid (rowL n l i = sdTo (fun j => leT xs (xs.getD i 0 ||| xs.getD j 0) k) k k) := zh (HRS.out i)
         generalize hxx : xs.getD i 0 = xi at *
         clear hxx
         obtain ⟨i1, hi1, hz0, hz1, hz2⟩ := info_parts infoU64
         have hbytes : i1.bytes * k ≤ 281474976710656 := by rw [hz2]; omega
         have hle : wr.heap.size ≤ wr.heap.size := zL _
         have HZ : Hid (sdTo (fun j => leT xs (xi ||| xs.getD j 0) k) k 0 = List.replicate k 0) := sdTo_zero _ _
         go_upto_region 14 with (at_make; refine wpList_make_full _ rfl _ _ 119 rfl wr.heap.size 38 i1 _ 1 Tryz.underlying119 hi1 hz0 hz1 .i64 .i64 _ _ k rfl rfl rfl rfl hbytes (by unfold maxLen; omega) hle ?_; intro w2 hown hgr)
         have HZ2 : Hid (SideAt w2 wr.heap.size (sdTo (fun j => leT xs (xi ||| xs.getD j 0) k) k 0)) := zh (by
          obtain ⟨hO, _⟩ := own_whole hown
          rw [made_zero, ← HZ.out] at hO
          exact hO)
         have HB12 : Hid (Below wr.heap.size wr w2) := zh ((zB wr.heap.size wr).grown hgr (zL _) (fun j hj => by cases hj))
         clear hown hgr hbytes hi1 hz0 hz1 hz2 hle HZ hci
         have HG2 := zh (HG.out.below HB12.out HG.out.lt)
         have HF2 := zh (HF.out.below HB12.out HF.out.lt)
         have HT2 := zh (HT.out.below HB12.out HT.out.lt)
         have HO2 := zh (HO.out.below HB12.out HO.out.lt)
         have HOW2 := zh (own_below HOW.out HB12.out (zL _))
         have HGR2 : Hid (∀ k, k < i → w.heap.size ≤ gs.getD k 0 ∧ SideAt w2 (gs.getD k 0) (rowL n l k) ∧ gs.getD k 0 < wr.heap.size) := zh fun k hk => ⟨(HGR.out k hk).1, (HGR.out k hk).2.below HB12.out (HGR.out k hk).2.lt, (HGR.out k hk).2.lt⟩
         have hble := HB.out.size
         have HB2 : Hid (Below w.heap.size w w2) := zh (HB.out.trans (HB12.out.mono hble))
         have hlts : g1 < wr.heap.size ∧ g2 < wr.heap.size ∧ g3 < wr.heap.size ∧ gw < wr.heap.size := ⟨HG.out.lt, HF.out.lt, HT.out.lt, HO.out.lt⟩
         have HOL : Hid (∀ q, (Value.slice JA i jc).ownBlock = some q → q < wr.heap.size) := zh fun q hq => (HOW.out.lt q hq).2
         clear HG HF HT HO HOW HGR HB HB12
         obtain ⟨gr, hgr⟩ : ∃ gr, gr = wr.heap.size := ⟨_, rfl⟩
         rw [← hgr] at HZ2 HOL hlts hble HGR2 ⊢
         clear hgr
         have HLS := zh hlts; clear hlts
         have HBLE := zh hble; clear hble
         go_loopw [9, 10, 46] (fun _ _ jv wi => ∃ j : Nat, j ≤ k ∧ jv = .int .i64 j ∧ Hid (SideAt wi gr (sdTo (fun j => leT xs (xi ||| xs.getD j 0) k) k j)) ∧ Hid (Mut gr w2 wi)) (fun _ _ jv _ => k - (intOf jv).toNat)
         case atStart => exact ⟨0, by omega, rfl, HZ2, zh (Mut.refl _ _)⟩
         case round =>
          clear HZ2
          obtain ⟨j, hj, rfl, HS, HM⟩ := hrel
          by_cases hlj : j < k
          ·have hos : SideAt wr gw xs := HO2.out.mut HM.out (by have := HLS.out; omega)
           have hcj := hos.cell j (by rw [HWL.out]; exact hlj)
           have hxj := HWX.out j
           have HLEN : Hid ((sdTo (fun j => leT xs (xi ||| xs.getD j 0) k) k j).length = k) := sdTo_length _ k j
           have HNX : Hid ((sdTo (fun j => leT xs (xi ||| xs.getD j 0) k) k j).set j (leT xs (xi ||| xs.getD j 0) k) = sdTo (fun j => leT xs (xi ||| xs.getD j 0) k) k (j + 1)) := sdTo_set (fun j => leT xs (xi ||| xs.getD j 0) k) k j
           have hor : bits BinOp.or IntKind.u64 (xi : Int) ((xs.getD j 0 : Nat) : Int) = ((xi ||| xs.getD j 0 : Nat) : Int) := u64_or_nat _ _ hxi hxj
           have HCL := zh (HLE.out (xi ||| xs.getD j 0) wr (or_lt hxi hxj) hos)
           generalize sdTo (fun j => leT xs (xi ||| xs.getD j 0) k) k j = ys at *
           generalize hzz : sdTo (fun j => leT xs (xi ||| xs.getD j 0) k) k (j + 1) = zs at *
           have HZZ := zh hzz; clear hzz
           generalize leT xs (xi ||| xs.getD j 0) k = z at *
           generalize hoo : xi ||| xs.getD j 0 = oo at *
           clear hoo
           generalize xs.getD j 0 = xj at *
           have hcs := HS.out.cell j (by rw [HLEN.out]; exact hlj)
           have hfs := HS.out.free j
           clear hos
           go_wp2_with (go_at_call 74; refine HCL.out.mono ?_; rintro e w' ⟨rfl, rfl⟩)
           go_roundw
           case rel =>
            refine ⟨j + 1, by omega, by go_num, zh ?_, zh (HM.out.trans (Mut.of_set _ gr j _))⟩
            have := HS.out.put j z
            rw [HNX.out] at this
            rw [HZZ.out]
            exact this
           case measure => simp [intOf]; omega
          ·obtain rfl : j = k := by omega
           have hls := HLS.out
           have HG3 := zh (HG2.out.mut HM.out (by omega))
           have HF3 := zh (HF2.out.same (HM.out.block g2 HF2.out.lt (by omega)))
           have HT3 := zh (HT2.out.mut HM.out (by omega))
           have HO3 := zh (HO2.out.mut HM.out (by omega))
           have HOW3 := zh (own_same HOW2.out fun b hb hob => HM.out.block b hb (by have := HOL.out b hob; omega))
           have HGR3 : Hid (∀ k, k < i → w.heap.size ≤ gs.getD k 0 ∧ SideAt wr (gs.getD k 0) (rowL n l k)) := zh fun k hk => ⟨(HGR2.out k hk).1, (HGR2.out k hk).2.1.mut HM.out (by have := (HGR2.out k hk).2.2; omega)⟩
           have HB3 : Hid (Below w.heap.size w wr) := zh (HB2.out.trans (HM.out.below HBLE.out HB2.out.size))
           rw [← HRI.out] at HS
           clear HG2 HF2 HT2 HO2 HOW2 HGR2 HB2 HM hls HRI HLE HWX HWL HRS
           have h0 := HB3.out.size
           have hil : i + 1 ≤ maxLen := by unfold maxLen; omega
           have hib : (i + 1) * 24 ≤ 140737488355328 := by omega
           have ht1 : wr.cell? ⟨g3, 1, none⟩ = some (.slice JA i jc) := (HT3.out.cell 1).trans rfl
           have ht1f := HT3.out.free 1
           have hg3s : g3 < wr.heap.size := HT3.out.lt
           go_wp2_with (at_builtin; refine wpList_moreS _ rfl _ _ 102 rfl 119 (.slice none 0 0) 1 24 Tryz.underlying102 infoUs rfl (by decide) w.heap.size JA i jc (jcells j gs) rfl ?c1 wr.heap.size [.slice (some ⟨gr, 0, none⟩) j j] rfl rfl ?c2 (by intro u hu; simp at hu; subst hu; rfl) hil hib ?c5 ?_)
           case c1 => exact own_below HOW3.out ((zB _ _).alloc (zL _) _) (zL _)
           case c2 => exact one_new wr _ _
           case c5 => rw [World.size_alloc]; omega
           have HBA : Hid (Below wr.heap.size wr (wr.alloc (.cells #[.slice (some ⟨gr, 0, none⟩) j j] 119))) := zh ((zB _ _).alloc (zL _) _)
           have HN3 : Hid ((Value.slice JA i jc).ownBlock ≠ some g3) := zh (own_apart HOW3.out HT3.out (by intro c f e; injection e with _ e2 _; exact absurd e2 (by decide)))
           have HNW : Hid ((Value.slice JA i jc).ownBlock ≠ some gw) := zh (own_apart HOW3.out HO3.out (by intro c f e; injection e with _ e2 _; exact absurd e2 (by decide)))
           have HN1 : Hid ((Value.slice JA i jc).ownBlock ≠ some g1) := zh (own_apart HOW3.out HG3.out (by intro c f e; injection e with _ e2 _; exact absurd e2 (by decide)))
           have HN2 : Hid ((Value.slice JA i jc).ownBlock ≠ some g2) := zh (by
            obtain ⟨es, clock, hm⟩ := HF3.out.map
            exact own_apart HOW3.out hm (by intro c f e; cases e))
           have HNR : Hid ((Value.slice JA i jc).ownBlock ≠ some gr) := zh (own_apart HOW3.out HS.out (by intro c f e; injection e with _ e2 _; exact absurd e2 (by decide)))
           have HNG : Hid (∀ k, k < i → (Value.slice JA i jc).ownBlock ≠ some (gs.getD k 0)) := zh fun k hk => own_apart HOW3.out (HGR3.out k hk).2 (by intro c f e; injection e with _ e2 _; exact absurd e2 (by decide))
           intro A6 d6 w6 hown6 hb6 hg6 _
           have HO6 := zh hown6
           have HG6 := zh hg6
           have HB6 := zh hb6
           have hT6 := ((HT3.out.below HBA.out HT3.out.lt).grown HG6.out HN3.out)
           have ht6 : w6.cell? ⟨g3, 1, none⟩ = some (.slice JA i jc) := (hT6.cell 1).trans rfl
           have hf6 := hT6.free 1
           have HT6 := zh hT6
           clear hown6 hb6 hg6 hT6 ht1 ht1f
           go_wp2_with fail
           have hgg : gs.length = i := HGL.out
           have hfar : ∀ q, q ≠ g3 → (⟨g3, 1, none⟩ : Addr).block ≠ q := fun q hq e => hq e.symm
           go_roundw
           case rel =>
            have hls := HLS.out
            have hgs := HGS.out
            have hT2 : (104 : TypeId) ≠ 38 := by decide
            refine ⟨i + 1, d6, A6, gs ++ [gr], by omega, by go_num, zh ?_, zh ?_, zh ?_, zh ?_, zh ?_, zh (by rw [zA7, hgg]; rfl), zh ?_, zh ?_⟩
            ·exact ((HG3.out.below HBA.out HG3.out.lt).grown HG6.out HN1.out).far (by show g3 ≠ g1; omega) _
            ·refine ((HF3.out.below HBA.out HF3.out.lt).kept HG6.out (fun e => HN2.out e.symm)).same ?_
             simp only [World.setCell, Array.getElem?_modify]
             rw [if_neg (by omega)]
            ·exact HT6.out.put 1 _
            ·have := (HO3.out.below HBA.out HO3.out.lt).grown HG6.out HNW.out
             exact RowAt.far this (by show g3 ≠ gw; omega) _
            ·rw [jcells_app]
             refine own_same HO6.out fun b hb hob => ?_
             simp only [World.setCell, Array.getElem?_modify]
             rw [if_neg]
             intro e
             subst e
             exact own_apart HO6.out HT6.out (by intro c f e; injection e with _ e2 _; exact absurd e2 (by decide)) hob
            ·intro q hq
             have hS : ∀ q xs, SideAt wr q xs → (Value.slice JA i jc).ownBlock ≠ some q → SideAt (w6.setCell ⟨g3, 1, none⟩ (.slice A6 (i + 1) d6)) q xs := fun q xs h hn => by
                    have h6 : SideAt w6 q xs := (h.below HBA.out h.lt).grown HG6.out hn
                    exact RowAt.far h6 (row_side HT6.out h6 hT2) _
             by_cases hqi : q < i
             ·rw [getD_left (by rw [hgg]; exact hqi)]
              exact ⟨(HGR3.out q hqi).1, hS _ _ (HGR3.out q hqi).2 (HNG.out q hqi)⟩
             ·obtain rfl : q = i := by omega
              have e : (gs ++ [gr]).getD q 0 = gr := by
                     rw [List.getD_eq_getElem?_getD, List.getElem?_append_right (by omega), hgg, Nat.sub_self]; rfl
              rw [e]
              exact ⟨by have := HBLE.out; omega, hS _ _ HS.out HNR.out⟩
            ·have h1 : Below w.heap.size w w6 := (HB3.out.trans (HBA.out.mono HB3.out.size)).trans HB6.out
             exact h1.setCell (p := ⟨g3, 1, none⟩) (by show _ ≤ g3; omega) _
           case measure => simp [intOf]; omega
        ·obtain rfl : i = k := by omega
         obtain ⟨jb, cur, rfl, hjb, hcur, hcc⟩ := own_cells HOW.out (by omega)
         have HCU := zh hcur
         have HCC := zh hcc
         clear HLE HRS HWX HWL hlt hi hcur hcc
         obtain ⟨t0, t1, _, _⟩ := rw2 HT.out
         obtain ⟨q0, q1, z0, z1⟩ := rw2 HG.out
         go_wp2_with fail
         have HR5 : Hid (RowAt ((wr.setCell ⟨g1, 0, none⟩ (.map (some g2))).setCell ⟨g1, 1, none⟩ (.slice (some ⟨jb, 0, none⟩) i jc)) g1 104 #[.map (some g2), .slice (some ⟨jb, 0, none⟩) i jc]) := zh ((HG.out.put 0 _).put 1 _)
         have HE5 : Hid (Else g1 wr ((wr.setCell ⟨g1, 0, none⟩ (.map (some g2))).setCell ⟨g1, 1, none⟩ (.slice (some ⟨jb, 0, none⟩) i jc))) := zh ((Else.setCell wr ⟨g1, 0, none⟩ _).trans (Else.setCell _ ⟨g1, 1, none⟩ _))
         have hgs := HGS.out
         refine bodyPost_ret (retRow rfl _ _ g1 _ _ (0, 0) _ rfl HR5.out Tryz.underlying104 rfl (by kernel_rfl)) rfl (HQ.out _ _ ⟨g2, jb, jc, by rw [HPP.out], ?_, HB.out.trans (HE5.out.below (by omega))⟩)
         have hne : jb ≠ g1 := blk_apart HCU.out HG.out (by decide)
         refine ⟨⟨i, ?_⟩, by omega, hjb, cur, (0, 0), fun q => gs.getD q 0, ?_, fun q hq => ?_⟩
         ·rw [← HPP.out]
          exact HF.out.same (HE5.out.block g2 (by omega))
         ·rw [HE5.out.block jb hne]
          exact HCU.out
         ·rw [← HPP.out] at hq ⊢
          refine ⟨?_, (HGR.out q hq).1, ?_⟩
          ·rw [HCC.out q hq]
           have hl : q < gs.length := by rw [HGL.out]; exact hq
           unfold jcells
           show _ = some (Value.slice (some ⟨gs.getD q 0, 0, none⟩) i i)
           rw [List.getElem?_map, List.getD_eq_getElem?_getD, List.getElem?_eq_getElem hl]
           rfl
          ·have h6 := (HGR.out q hq).2
           exact (HE5.out.block _ (fun e => row_side HG.out h6 (by decide) e.symm)).trans h6
end
section
open Go.RowKit RM Go.Maps
theorem infoTb : (Tryz.prog.info? 104).map (fun i => (i.zero, i.size, i.bytes)) = some (some (.agg #[.map none, .slice none 0 0]), 2, 32) := by kernel_rfl
theorem TabAt.mut {W W' : World} {lo mb jb g : Nat} {n : Int} {l : List Nat} (h : TabAt W lo mb jb n l) (hm : Mut g W W') (hg : g < lo) : TabAt W' lo mb jb n l := h.same fun k h1 h2 => hm.block k h2 (by omega)
def TK (W : World) (lo : Nat) (fs : List Fac) (k : Nat) (cur : Array Value) : Prop :=
 cur.size = 16 ∧ ∀ i, i < 8 → ∃ m s, cur[i * 2]? = some m ∧ cur[i * 2 + 1]? = some s ∧
    if i < k ∧ (fs.getD i f0).kind = 4 then ∃ mb jb c, m = .map (some mb) ∧ s = .slice (some ⟨jb, 0, none⟩) (pts (fs.getD i f0).n) c ∧ TabAt W lo mb jb (fs.getD i f0).n (fs.getD i f0).l else m = .map none ∧ s = .slice none 0 0
theorem TK.same {W W' : World} {lo k : Nat} {fs : List Fac} {cur : Array Value} (h : TK W lo fs k cur) (hs : ∀ b, lo ≤ b → b < W.heap.size → W'.heap[b]? = W.heap[b]?) : TK W' lo fs k cur := by
 refine ⟨h.1, fun i hi => ?_⟩
 obtain ⟨m, s, h1, h2, h3⟩ := h.2 i hi
 refine ⟨m, s, h1, h2, ?_⟩
 split
 ·rename_i hc
  rw [if_pos hc] at h3
  obtain ⟨mb, jb, c, e1, e2, h4⟩ := h3
  exact ⟨mb, jb, c, e1, e2, h4.same hs⟩
 ·rename_i hc
  rw [if_neg hc] at h3
  exact h3
theorem TK.zero (W : World) (lo : Nat) (fs : List Fac) {cur : Array Value} (h : cur.size = 16) (hz : ∀ i, i < 8 → cur[i * 2]? = some (.map none) ∧ cur[i * 2 + 1]? = some (.slice none 0 0)) : TK W lo fs 0 cur :=
 ⟨h, fun i hi => ⟨_, _, (hz i hi).1, (hz i hi).2, by rw [if_neg (by omega)]; exact ⟨rfl, rfl⟩⟩⟩
theorem TK.skip {W : World} {lo k : Nat} {fs : List Fac} {cur : Array Value} (h : TK W lo fs k cur) (hk : ¬ (fs.getD k f0).kind = 4) : TK W lo fs (k + 1) cur := by
 refine ⟨h.1, fun i hi => ?_⟩
 obtain ⟨m, s, h1, h2, h3⟩ := h.2 i hi
 refine ⟨m, s, h1, h2, ?_⟩
 by_cases hc : i < k ∧ (fs.getD i f0).kind = 4
 ·rw [if_pos hc] at h3
  rw [if_pos ⟨by omega, hc.2⟩]
  exact h3
 ·rw [if_neg hc] at h3
  rw [if_neg (fun h => hc ⟨by
   rcases Nat.lt_or_ge i k with h4 | h4
   ·exact h4
   ·have : i = k := by omega
    subst this
    exact absurd h.2 hk, h.2⟩)]
  exact h3
theorem TK.put {W : World} {lo k mb jb c : Nat} {fs : List Fac} {cur : Array Value} (h : TK W lo fs k cur) (hk : (fs.getD k f0).kind = 4) (hT : TabAt W lo mb jb (fs.getD k f0).n (fs.getD k f0).l) :
 TK W lo fs (k + 1) ((cur.setIfInBounds (k * 2) (.map (some mb))).setIfInBounds (k * 2 + 1) (.slice (some ⟨jb, 0, none⟩) (pts (fs.getD k f0).n) c)) := by
 have hs := h.1
 refine ⟨by simp [hs], fun i hi => ?_⟩
 by_cases e : i = k
 ·subst e
  refine ⟨.map (some mb), .slice (some ⟨jb, 0, none⟩) (pts (fs.getD i f0).n) c, ?_, ?_, ?_⟩
  ·rw [Array.getElem?_setIfInBounds_ne (by omega), Array.getElem?_setIfInBounds_self_of_lt (by omega)]
  ·rw [Array.getElem?_setIfInBounds_self_of_lt (by rw [Array.size_setIfInBounds]; omega)]
  ·rw [if_pos ⟨by omega, hk⟩]
   exact ⟨mb, jb, c, rfl, rfl, hT⟩
 ·obtain ⟨m, s, h1, h2, h3⟩ := h.2 i hi
  refine ⟨m, s, ?_, ?_, ?_⟩
  ·rw [Array.getElem?_setIfInBounds_ne (by omega), Array.getElem?_setIfInBounds_ne (by omega)]; exact h1
  ·rw [Array.getElem?_setIfInBounds_ne (by omega), Array.getElem?_setIfInBounds_ne (by omega)]; exact h2
  ·by_cases hc : i < k ∧ (fs.getD i f0).kind = 4
   ·rw [if_pos hc] at h3
    rw [if_pos ⟨by omega, hc.2⟩]
    exact h3
   ·rw [if_neg hc] at h3
    rw [if_neg (fun h => hc ⟨by omega, h.2⟩)]
    exact h3
theorem own_full {w : World} {base size n g : Nat} {e : TypeId} {cs : List Value} (h : w.ownsRow base e size (.slice (some ⟨g, 0, none⟩) n n) n cs) : RowAt w g e cs.toArray := by
 rcases h.2 with ⟨hv, _⟩ | ⟨g', cap, cur, hv, hb, hh, h1, _, h3, h4⟩
 ·cases hv
 ·injection hv with e1 e2 e3
  injection e1 with e1
  injection e1 with e1
  subst e1 e3
  unfold RowAt
  rw [hh, ← h4, List.take_of_length_le (by simp [h3])]
def TblsAt (W : World) (lo tb : Nat) (fs : List Fac) : Prop := ∃ cur, lo ≤ tb ∧ RowAt W tb 104 cur ∧ TK W lo fs fs.length cur
theorem TblsAt.same {W W' : World} {lo tb : Nat} {fs : List Fac} (h : TblsAt W lo tb fs) (hs : ∀ b, lo ≤ b → b < W.heap.size → W'.heap[b]? = W.heap[b]?) : TblsAt W' lo tb fs := by
 obtain ⟨cur, h1, h2, h3⟩ := h
 exact ⟨cur, h1, (hs tb h1 h2.lt).trans h2, h3.same hs⟩
theorem TK.mono {W : World} {lo lo' k : Nat} {fs : List Fac} {cur : Array Value} (h : TK W lo fs k cur) (hl : lo' ≤ lo) : TK W lo' fs k cur := by
 refine ⟨h.1, fun i hi => ?_⟩
 obtain ⟨m, s, h5, h6, h7⟩ := h.2 i hi
 refine ⟨m, s, h5, h6, ?_⟩
 split
 ·rename_i hc
  rw [if_pos hc] at h7
  obtain ⟨mb, jb, c, e1, e2, h8⟩ := h7
  exact ⟨mb, jb, c, e1, e2, h8.mono hl⟩
 ·rename_i hc
  rw [if_neg hc] at h7
  exact h7
theorem TblsAt.mono {W : World} {lo lo' tb : Nat} {fs : List Fac} (h : TblsAt W lo tb fs) (hl : lo' ≤ lo) : TblsAt W lo' tb fs := by
 obtain ⟨cur, h1, h2, h3⟩ := h
 exact ⟨cur, by omega, h2, h3.mono hl⟩
end
end Go.Proofs.YtdahllhbpdbknaaGreatDoor
