/-
  RelateOf holds. Conditions: the pairs in memory; the table of math/bits in memory.
-/
import Derived.Test.YtepmcdneafpmeaaDoorRelT
import Derived.Test.YtepmcdneafpmeaaDoorOrdT
namespace Go.Proofs.YtepmcdneafpmeaaDoor
open Go.RowKit RM

/-- Pairs appended to a row of the call's own, as one operation. -/
theorem app_pairs0 {w : World} {o : Oper} {a : Act} {K : Act → World → Prop} {Q : Exit → Act → World → Prop} (s x : Operand) (ho : o.op = .call { callee := .builtin .append, args := #[s, x], argTypes := #[22, 22] })
    (base : Nat) (v : Value) (xs ys : List (Int × Int)) (hs : a.eval s = v) (hown : w.ownsRow base 24 2 v xs.length (pcells xs)) (A : Option Addr) (c : Nat) (hx : a.eval x = .slice A ys.length c) (hnil : A = none → ys = [] ∧ c = 0)
    (hA : Prs w A ys) (hb1 : xs.length ≤ 65536) (hb2 : ys.length ≤ 65536) (hbase : base ≤ w.heap.size)
    (h : ∀ v' w', w'.ownsRow base 24 2 v' (xs.length + ys.length) (pcells (xs ++ ys)) → w.grownBy w' v.ownBlock → K (a.put o.dst v') w') : o.wp Tryd.prog a w K Q := by
  obtain ⟨i, hi, hz, hi1, hi2⟩ := info_parts infoPair
  cases A with
  | none =>
    obtain ⟨rfl, rfl⟩ := hnil rfl
    have hrun := run_append_owned_none (P := Tryd.prog) (w := w) base 22 o.type 24 i 2 Tryd.underlying22 hi v xs.length (pcells xs) hown
    unfold Oper.wp
    simp [execOp, ho, resolve, invoke, builtin, hs, hx, hrun, Result.andThen]
    exact h v w (by simpa using hown) ⟨rfl, rfl, rfl, Nat.le_refl _, fun _ _ _ => rfl⟩
  | some ad =>
    refine wp_append_own w s x _ ho base 24 i _ 2 16 Tryd.underlying22 hi hz hi1 hi2 rfl (by decide) v xs.length (pcells xs) hs hown ad ys.length c (pcells ys) hx (by rw [pcells_length]; omega) ?_ ?_ (by simp only [maxLen]; omega) (by omega) hbase ?_
    · intro j u hu
      have hne : pcells ys ≠ [] := by intro e; rw [e] at hu; simp at hu
      obtain ⟨b, off, e, _, hc⟩ := hA hne
      injection e with e
      subst e
      rw [Addr.add_lit]
      exact hc j u hu
    · intro u hu
      have : ∀ (l : List (Int × Int)), ∀ u ∈ pcells l, u.oneCell' = true := by
        intro l
        induction l with
        | nil => intro u hu; cases hu
        | cons q l ih =>
          intro u hu
          simp only [pcells, List.mem_cons] at hu
          rcases hu with rfl | rfl | hu
          · rfl
          · rfl
          · exact ih u hu
      exact this ys u hu
    · intro v' w' h2 h3 _
      rw [← pcells_append] at h2
      exact h v' w' h2 h3
theorem app_pairs {w : World} {o : Oper} {a : Act} {K : Act → World → Prop} {Q : Exit → Act → World → Prop} (s x : Operand) (ho : o.op = .call { callee := .builtin .append, args := #[s, x], argTypes := #[22, 22] })
    (base : Nat) (v : Value) (xs ys : List (Int × Int)) (n m : Nat) (hn : xs.length = n) (hm : ys.length = m) (hs : a.eval s = v) (hown : w.ownsRow base 24 2 v n (pcells xs)) (A : Option Addr) (c : Nat) (hx : a.eval x = .slice A m c) (hnil : A = none → ys = [] ∧ c = 0)
    (hA : Prs w A ys) (hb1 : n ≤ 65536) (hb2 : m ≤ 65536) (hbase : base ≤ w.heap.size)
    (h : ∀ v' w', w'.ownsRow base 24 2 v' (n + m) (pcells (xs ++ ys)) → w.grownBy w' v.ownBlock → K (a.put o.dst v') w') : o.wp Tryd.prog a w K Q := by
  subst hn; subst hm
  exact app_pairs0 s x ho base v xs ys hs hown A c hx hnil hA hb1 hb2 hbase h
theorem PairAt.grown {w w' : World} {g : Nat} {lo hi : Int} {row : Option Nat} (h : PairAt w g lo hi) (hb : w.grownBy w' row) (hg : row ≠ some g) : PairAt w' g lo hi := (hb.block g h.lt (fun e => hg e.symm)).trans h
theorem PairAt.prs {w : World} {g : Nat} {lo hi : Int} (h : PairAt w g lo hi) : Prs w (some ⟨g, 0, none⟩) [(lo, hi)] := fun _ =>
  ⟨g, 0, rfl, h.lt, fun j u hu => by
    rw [Nat.zero_add, cell_of_row _ g j _ 24 (0, 0) h]
    simpa [pcells] using hu⟩
theorem grown_below {w w' : World} {row : Option Nat} {B : Nat} (h : w.grownBy w' row) (hr : ∀ k, row = some k → B ≤ k) (hB : B ≤ w.heap.size) : Below B w w' :=
  ⟨h.os, h.tape, h.output, h.size, fun k hk => h.block k (by omega) (fun e => by have := hr k e.symm; omega)⟩
theorem own_ge {w : World} {base size n k : Nat} {e : TypeId} {v : Value} {cs : List Value} (h : w.ownsRow base e size v n cs) (hk : v.ownBlock = some k) : base ≤ k := by
  rcases h.2 with ⟨rfl, _⟩ | ⟨g, cap, cur, rfl, hg, _⟩
  · simp [Value.ownBlock] at hk
  · have : g = k := by simpa [Value.ownBlock] using hk
    omega
theorem pany_take {f : Int × Int → Bool} (xs : List (Int × Int)) (k : Nat) (h : k < xs.length) : (xs.take (k + 1)).any f = ((xs.take k).any f || f (xs.getD k (0, 0))) := by
  rw [List.take_succ_eq_append_getElem h, List.any_append, List.getD_eq_getElem?_getD, List.getElem?_eq_getElem h]; simp
theorem ex_gen2 (W : World) : ∃ S : World → Prop, Hid (S W.drew) ∧ (∀ w', S w' → Below W.heap.size W w') ∧ (∀ wa wb, S wa → Below wa.heap.size wa wb → S wb) ∧ Hid (∀ w', Below W.heap.size W w' → S w') :=
  ⟨fun w' => Below W.heap.size W w', (Below.refl _ _).drew, fun _ h => h, fun _ _ h hb => h.trans (hb.mono h.size), fun _ h => h⟩
section
variable {o : Oper} {a : Act} {S : World → Prop}
theorem take_neqSame (x y : Operand) (t : TypeId) (ho : o.op = .binOp .neq 29 x y t) (n : Int) (l : List Nat) (hx : a.eval x = .agg (rv n l)) (hy : a.eval y = .agg (rv n l)) (hl : RW l) :
    ∀ w, S w → (execOp a.eval o).run Tryd.prog w = .ok (.value (.bool false)) w := fun w h => by
  have := take_neqRel (S := S) x y t ho n n l l hx hy hl hl w h
  rw [eqRel_true rfl rfl] at this; exact this
theorem take_eqSame (x y : Operand) (t : TypeId) (ho : o.op = .binOp .eql 29 x y t) (n : Int) (l : List Nat) (hx : a.eval x = .agg (rv n l)) (hy : a.eval y = .agg (rv n l)) (hl : RW l) :
    ∀ w, S w → (execOp a.eval o).run Tryd.prog w = .ok (.value (.bool true)) w := fun w h => by
  have := take_eqRel (S := S) x y t ho n n l l hx hy hl hl w h
  rw [eqRel_true rfl rfl] at this; exact this
end
/-- More than 200 pairs: only the example. -/
theorem relateOf_big (n : Int) (A : Option Addr) (c : Nat) (m : Nat) (hm : 200 < m) (hm2 : m ≤ 9223372036854775807) (lo hi : Int) (w : World) (hT : Tab w) :
    Calls Tryd.prog 3 #[.int .i64 n, .slice A m c, .agg #[.int .i64 lo, .int .i64 hi]] w fun e w' => e = .returned (.bool true) ∧ Below w.heap.size w w' := by
  have HT := Lib.hid hT; clear hT
  have hm' : (200 : Int) < (m : Int) := by omega
  go_enter Tryd.func3, Tryd.ntmps3
  go_wp2_with fail
  have hb : Below w.heap.size w (w.alloc (.cells #[.int .i64 lo, .int .i64 hi] 24)) := (Below.refl _ _).alloc (Nat.le_refl _) _
  refine (ralive_any _ (HT.out.below hb)).mono ?_
  rintro e w5 ⟨rfl, hb5⟩
  have HB5 := Lib.hid (hb.trans (hb5.mono (by simp)))
  clear hb hb5
  go_wp2_with fail
  go_ret
  exact ⟨rfl, HB5.out⟩
set_option maxHeartbeats 8000000 in
theorem relateOf_law (n : Int) (A : Option Addr) (c : Nat) (xs : List (Int × Int)) (hm : xs.length ≤ 200) (hnil : A = none → xs = [] ∧ c = 0) (lo hi : Int) (w : World) (hA : Prs w A xs) (hT : Tab w) :
    Calls Tryd.prog 3 #[.int .i64 n, .slice A xs.length c, .agg #[.int .i64 lo, .int .i64 hi]] w fun e w' => e = .returned (.bool true) ∧ Below w.heap.size w w' := by
  have hmf : ∀ (fn : Fn) (first cap : Array Value) (w : World), (Instr.makeFunc fn first cap).run Tryd.prog w = .ok (.func fn first cap) w := fun _ _ _ _ => rfl
  have hR : RW (ofR n xs) := rw_ofR n xs
  have HOF : Hid (∀ w, Prs w A xs → Calls Tryd.prog 10 #[.int .i64 n, .slice A xs.length c] w fun e w' => e = .returned (.agg (rv ((pts n : Nat) : Int) (ofR n xs))) ∧ Below w.heap.size w w') := fun w h => rof_any n A c xs w (by omega) h
  have HIN : Hid (∀ g w, RelAt w g ((pts n : Nat) : Int) (ofR n xs) → ∀ p q : Int, Calls Tryd.prog 11 #[.agg #[.int .i64 p, .int .i64 q], .pointer (some ⟨g, 0, none⟩)] w fun e w' => e = .returned (.bool (inP n p q)) ∧ Below w.heap.size w w') := fun g w h p q => by
    have h2 := inOf_any g _ _ (rw_ofR n xs) p q w h
    have e : inP ((pts n : Nat) : Int) p q = inP n p q := by unfold inP; rw [isPt_pts, isPt_pts]
    rw [e] at h2; exact h2
  have HA := Lib.hid hA; clear hA
  have HT := Lib.hid hT; clear hT
  have HAT : Hid (∀ k, k < xs.length → wantB n (xs.take (k + 1)) lo hi = (wantB n (xs.take k) lo hi || (eqP (xs.getD k (0, 0)).1 (xs.getD k (0, 0)).2 lo hi && inP n (xs.getD k (0, 0)).1 (xs.getD k (0, 0)).2))) := fun k h => pany_take xs k h
  have HAE : Hid (wantB n (xs.take xs.length) lo hi = wantB n xs lo hi) := by rw [List.take_length]; exact rfl
  generalize hl : xs.length = m at *
  have HL := Lib.hid hl; clear hl
  have hm' : ¬ (200 : Int) < (m : Int) := by omega
  go_enter Tryd.func3, Tryd.ntmps3
  go_wp2_with fail
  have hb : Below w.heap.size w (w.alloc (.cells #[.int .i64 lo, .int .i64 hi] 24)) := (Below.refl _ _).alloc (Nat.le_refl _) _
  refine (HOF.out _ (HA.out.below hb)).mono ?_
  rintro e w1 ⟨rfl, hb1⟩
  have q1 := (PairAt.new w lo hi).below hb1 (by simp)
  have HB1 := Lib.hid (hb.trans (hb1.mono (by simp)))
  clear hb hb1
  go_wp2_with (refine wpList_storeRel rfl _ _ rfl w1.heap.size rfl _ _ rfl 0 zs RW.zs hR ?c2 ?_; (case c2 => rw [zero_rel]; exact RelAt.new _ _ _); intro w2 r2 he)
  have q2 := (q1.alloc (.cells Tryd.zeroCells29 29)).other he (Nat.ne_of_lt q1.lt)
  have HB2 := Lib.hid ((HB1.out.alloc HB1.out.size (.cells Tryd.zeroCells29 29)).trans (he.below HB1.out.size))
  clear he q1 HB1
  generalize w1.heap.size = g at *
  go_loopw [9, 11, 23] (fun wv _ kv wr => ∃ (k : Nat) (b : Bool), k ≤ m ∧ kv = .int .i64 k ∧ wv = .bool b ∧ Hid (b = wantB n (xs.take k) lo hi) ∧ RelAt wr g ((pts n : Nat) : Int) (ofR n xs) ∧ PairAt wr w.heap.size lo hi ∧ Hid (Below w.heap.size w wr)) (fun _ _ kv _ => m - (intOf kv).toNat)
  case atStart => exact ⟨0, false, by omega, rfl, rfl, by show false = _; simp [wantB], r2, q2, HB2⟩
  case round =>
    clear r2 q2 HB2
    obtain ⟨k, b, hk, rfl, rfl, HW, rr, qq, HB⟩ := hrel
    by_cases hlt : k < m
    · obtain ⟨bk, o, rfl, _, hc⟩ := (HA.out.below HB.out).cell (by intro h; rw [h] at HL; have := HL.out; simp at this; omega)
      obtain ⟨hc1, hc2⟩ := hc k (by rw [HL.out]; exact hlt)
      clear hc
      have HA2 := Lib.hid (HAT.out k hlt)
      generalize xs.getD k (0, 0) = q at *
      rw [← HW.out] at HA2
      clear HW
      have d0 := qq.c0
      have d1 := qq.c1
      have rr2 := rr.alloc (.cells #[.int .i64 q.1, .int .i64 q.2] 24)
      have qq2 := qq.alloc (.cells #[.int .i64 q.1, .int .i64 q.2] 24)
      have HB2 := Lib.hid (HB.out.alloc HB.out.size (.cells #[.int .i64 q.1, .int .i64 q.2] 24))
      have hwlt := qq.lt
      have hin := HIN.out g _ rr2 q.1 q.2
      have HINQ := Lib.hid hin; clear hin
      cases b with
      | true =>
        go_wp2_with fail
        go_roundw
        case rel => exact ⟨k + 1, true, by omega, by go_num, rfl, by rw [HA2.out]; exact rfl, rr2, qq2, HB2⟩
        case measure => simp [intOf]; omega
      | false =>
        have HEP : Hid (eqP q.1 q.2 lo hi = (decide (q.1 = lo) && decide (q.2 = hi))) := rfl
        by_cases h1 : q.1 = lo
        · by_cases h2 : q.2 = hi
          · have b1 : (q.1 == lo) = true := by simpa using h1
            have b2 : (q.2 == hi) = true := by simpa using h2
            have HA3 : Hid (wantB n (xs.take (k + 1)) lo hi = inP n q.1 q.2) := by rw [HA2.out, HEP.out, decide_eq_true h1, decide_eq_true h2]; simp; exact True.intro
            clear h1 h2 HA2 HEP
            go_wp2_with fail
            refine HINQ.out.mono ?_
            rintro e w5 ⟨rfl, hb5⟩
            have rr5 := rr2.below hb5 rr2.lt
            have qq5 := qq2.below hb5 qq2.lt
            have HB5 := Lib.hid (HB2.out.trans (hb5.mono HB2.out.size))
            clear hb5
            go_wp2_with fail
            go_roundw
            case rel => exact ⟨k + 1, inP n q.1 q.2, by omega, by go_num, rfl, by rw [HA3.out]; exact rfl, rr5, qq5, HB5⟩
            case measure => simp [intOf]; omega
          · have b1 : (q.1 == lo) = true := by simpa using h1
            have b2 : (q.2 == hi) = false := by simpa using h2
            have HA3 : Hid (wantB n (xs.take (k + 1)) lo hi = false) := by rw [HA2.out, HEP.out, decide_eq_false h2]; simp; exact True.intro
            clear h1 h2 HA2 HEP
            go_wp2_with fail
            go_roundw
            case rel => exact ⟨k + 1, false, by omega, by go_num, rfl, by rw [HA3.out]; exact rfl, rr2, qq2, HB2⟩
            case measure => simp [intOf]; omega
        · have b1 : (q.1 == lo) = false := by simpa using h1
          have HA3 : Hid (wantB n (xs.take (k + 1)) lo hi = false) := by rw [HA2.out, HEP.out, decide_eq_false h1]; simp; exact True.intro
          clear h1 HA2 HEP
          go_wp2_with fail
          go_roundw
          case rel => exact ⟨k + 1, false, by omega, by go_num, rfl, by rw [HA3.out]; exact rfl, rr2, qq2, HB2⟩
          case measure => simp [intOf]; omega
    · have e : k = m := by omega
      subst e
      rw [HAE.out] at HW
      clear HAT HAE
      have HPZ : Hid (∀ w, Calls Tryd.prog 12 #[.agg (rv n zs)] w fun e w' => e = .returned (.int .i64 ((pts n : Nat) : Int)) ∧ Below w.heap.size w w') := fun w => qpoints_any n zs w
      have HNEW : Hid (∀ w, Calls Tryd.prog 13 #[.int .i64 n] w fun e w' => e = .returned (.agg (rv ((pts n : Nat) : Int) zs)) ∧ Below w.heap.size w w') := new_any n
      have HHAS : Hid (∀ w, Calls Tryd.prog 14 #[.agg (rv ((pts n : Nat) : Int) (ofR n xs)), .int .i64 lo, .int .i64 hi] w fun e w' => e = .returned (.bool b) ∧ Below w.heap.size w w') := fun w => by
        have h := rhas_any ((pts n : Nat) : Int) (ofR n xs) (rw_ofR n xs) lo hi w
        rw [has_of, ← HW.out] at h; exact h
      have HWITH : Hid (∀ w, Calls Tryd.prog 15 #[.agg (rv ((pts n : Nat) : Int) (ofR n xs)), .int .i64 lo, .int .i64 hi] w fun e w' => e = .returned (.agg (rv ((pts n : Nat) : Int) (ofR n (xs ++ [(lo, hi)])))) ∧ Below w.heap.size w w') := fun w => by
        have h := rwith_any ((pts n : Nat) : Int) (ofR n xs) (rw_ofR n xs) lo hi w
        rw [cl_of, pts_pts] at h
        rw [ofR_snoc]; exact h
      have HOF2 : Hid (∀ w A c, Prs w A (xs ++ [(lo, hi)]) → Calls Tryd.prog 10 #[.int .i64 n, .slice A (k + 1) c] w fun e w' => e = .returned (.agg (rv ((pts n : Nat) : Int) (ofR n (xs ++ [(lo, hi)])))) ∧ Below w.heap.size w w') := fun w A c h => by
        have h2 := rof_any n A c (xs ++ [(lo, hi)]) w (by rw [List.length_append, HL.out]; simp; omega) h
        rw [List.length_append, HL.out] at h2; exact h2
      have HH2 : Hid (∀ w, Calls Tryd.prog 16 #[.agg (rv ((pts n : Nat) : Int) (ofR n (xs ++ [(lo, hi)]))), .int .i64 lo, .int .i64 hi] w fun e w' => e = .returned (.bool (inP n lo hi)) ∧ Below w.heap.size w w') := fun w => by
        have h := qhas_any ((pts n : Nat) : Int) (ofR n (xs ++ [(lo, hi)])) (rw_ofR n _) lo hi w
        rw [ofR_snoc, has_with n _ (rw_ofR n xs)] at h
        rw [ofR_snoc]; exact h
      have hR2 : RW (ofR n (xs ++ [(lo, hi)])) := rw_ofR n _
      have hbz : ∀ z : Int, Tryd.zeroCells29.setIfInBounds 0 (.int .i64 z) = rv z zs := fun z => by rw [zero_rel, rv_setN]
      clear HW HOF
      generalize ofR n (xs ++ [(lo, hi)]) = R2 at *
      generalize ofR n xs = R at *
      generalize pts n = p at *
      obtain ⟨S, HS, pW, keepS⟩ := ex_gen wr
      have pR := fun w' h => rr.below (pW w' h) rr.lt
      have pq := fun w' h => qq.below (pW w' h) qq.lt
      have c0 := fun w' h => (pq w' h).c0
      have c1 := fun w' h => (pq w' h).c1
      have cR := fun w' h => (pR w' h).cell0
      have PB : Hid (∀ w', S w' → Below w.heap.size w w') := fun w' h => HB.out.trans ((pW w' h).mono HB.out.size)
      have hzs := RW.zs
      clear pW HB
      go_wp2_with fail
      refine wp_region_ord S [(0, true), (1, true), (2, true), (3, true), (4, false), (5, true), (6, true), (7, true), (9, true), (10, true), (11, true), (8, false), (12, true), (13, true), (14, true), (15, true), (16, true), (17, true), (18, true), (19, true), (21, true), (20, false), (22, true), (23, true)] (by kernel_rfl) (by kernel_rfl) rfl (by kernel_rfl) HS.out ?_
      iterate 4
        (refine wpOrd_step (o := ?_) ?_ ?_; rotate_left 1; (simp only [List.getElem?_toArray, List.getElem?_cons_succ, List.getElem?_cons_zero]; with_reducible rfl))
        (first
            | (refine wpOrd_skip (by rfl) ?_)
            | (refine wpOrd_take (by rfl) (take_loadRel _ rfl _ rfl _ _ hR pR) ?_)
            | (refine wpOrd_take (v := ?_) (by rfl) ?_ ?_; rotate_left 1; (intro wx hSx; have hc_0 := c0 wx hSx; have hc_1 := c1 wx hSx; have hc_2 := cR wx hSx; go_simp; try with_reducible rfl)))
        (try simp only [Act.put, List.setIfInBounds_toArray, List.set_cons_zero, List.set_cons_succ])
      (refine wpOrd_solo (o := ?_) ?_ ?_; rotate_left 1; (simp only [List.getElem?_toArray, List.getElem?_cons_succ, List.getElem?_cons_zero]; with_reducible rfl))
      intro K hK
      go_simp
      go_at_call 12
      refine (HPZ.out _).mono ?_
      rintro e w3 ⟨rfl, hb⟩
      have hS := keepS _ _ HS.out hb
      clear HS
      have HS := Lib.hid hS; clear hS hb
      refine hK.out _ _ HS.out ?_
      clear hK K
      (try simp only [Act.put, List.setIfInBounds_toArray, List.set_cons_zero, List.set_cons_succ])
      iterate 6
        (refine wpOrd_step (o := ?_) ?_ ?_; rotate_left 1; (simp only [List.getElem?_toArray, List.getElem?_cons_succ, List.getElem?_cons_zero]; with_reducible rfl))
        (first
            | (refine wpOrd_skip (by rfl) ?_)
            | (refine wpOrd_take (by rfl) (take_loadRel _ rfl _ rfl _ _ hR pR) ?_)
            | (refine wpOrd_take (v := ?_) (by rfl) ?_ ?_; rotate_left 1; (intro wx hSx; have hc_0 := c0 wx hSx; have hc_1 := c1 wx hSx; have hc_2 := cR wx hSx; go_simp; try with_reducible rfl)))
        (try simp only [Act.put, List.setIfInBounds_toArray, List.set_cons_zero, List.set_cons_succ])
      (refine wpOrd_solo (o := ?_) ?_ ?_; rotate_left 1; (simp only [List.getElem?_toArray, List.getElem?_cons_succ, List.getElem?_cons_zero]; with_reducible rfl))
      intro K hK
      go_simp
      go_at_call 13
      refine (HNEW.out _).mono ?_
      rintro e w4 ⟨rfl, hb⟩
      have hS := keepS _ _ HS.out hb
      clear HS
      have HS := Lib.hid hS; clear hS hb
      refine hK.out _ _ HS.out ?_
      clear hK K
      (try simp only [Act.put, List.setIfInBounds_toArray, List.set_cons_zero, List.set_cons_succ])
      iterate 9
        (refine wpOrd_step (o := ?_) ?_ ?_; rotate_left 1; (simp only [List.getElem?_toArray, List.getElem?_cons_succ, List.getElem?_cons_zero]; with_reducible rfl))
        (first
            | (refine wpOrd_skip (by rfl) ?_)
            | (refine wpOrd_take (by rfl) (take_loadRel _ rfl _ rfl _ _ hR pR) ?_)
            | (refine wpOrd_take (by rfl) (take_neqSame _ _ _ rfl _ _ rfl rfl hzs) ?_)
            | (refine wpOrd_take (v := ?_) (by rfl) ?_ ?_; rotate_left 1; (intro wx hSx; have hc_0 := c0 wx hSx; have hc_1 := c1 wx hSx; have hc_2 := cR wx hSx; go_simp; try with_reducible rfl)))
        (try simp only [Act.put, List.setIfInBounds_toArray, List.set_cons_zero, List.set_cons_succ])
      (refine wpOrd_solo (o := ?_) ?_ ?_; rotate_left 1; (simp only [List.getElem?_toArray, List.getElem?_cons_succ, List.getElem?_cons_zero]; with_reducible rfl))
      intro K hK
      go_simp
      go_at_call 14
      refine (HHAS.out _).mono ?_
      rintro e w5 ⟨rfl, hb⟩
      have hS := keepS _ _ HS.out hb
      clear HS
      have HS := Lib.hid hS; clear hS hb
      refine hK.out _ _ HS.out ?_
      clear hK K
      (try simp only [Act.put, List.setIfInBounds_toArray, List.set_cons_zero, List.set_cons_succ])
      iterate 2
        (refine wpOrd_step (o := ?_) ?_ ?_; rotate_left 1; (simp only [List.getElem?_toArray, List.getElem?_cons_succ, List.getElem?_cons_zero]; with_reducible rfl))
        (first
            | (refine wpOrd_skip (by rfl) ?_)
            | (refine wpOrd_take (v := ?_) (by rfl) ?_ ?_; rotate_left 1; (intro wx hSx; go_simp; try with_reducible rfl)))
        (try simp only [Act.put, List.setIfInBounds_toArray, List.set_cons_zero, List.set_cons_succ])
      refine wpOrd_done ?_
      have rr5 := pR _ HS.out
      have qq5 := pq _ HS.out
      have HB5 := Lib.hid (PB.out _ HS.out)
      clear pR pq c0 c1 cR PB HS keepS rr qq
      have d0 := qq5.c0
      have d1 := qq5.c1
      go_wp2_with (refine wpList_loadRel rfl _ rfl g rfl _ _ hR rr5 ?_)
      refine (HWITH.out _).mono ?_
      rintro e w6 ⟨rfl, hb6⟩
      have rr6 := rr5.below hb6 rr5.lt
      have qq6 := qq5.below hb6 qq5.lt
      have HB6 := Lib.hid (HB5.out.trans (hb6.mono HB5.out.size))
      clear hb6 rr5 qq5 HB5 d0 d1
      go_wp2_with (refine wpList_storeRel rfl _ _ rfl w6.heap.size rfl _ _ rfl 0 zs RW.zs hR2 ?c2 ?_; (case c2 => rw [zero_rel]; exact RelAt.new _ _ _); intro W rW he)
      have rr7 := (rr6.alloc (.cells Tryd.zeroCells29 29)).other he (Nat.ne_of_lt rr6.lt)
      have qq7 := (qq6.alloc (.cells Tryd.zeroCells29 29)).other he (Nat.ne_of_lt qq6.lt)
      have HW := Lib.hid ((HB6.out.alloc HB6.out.size (.cells Tryd.zeroCells29 29)).trans (he.below HB6.out.size))
      clear he rr6 qq6 HB6
      generalize w6.heap.size = g12 at *
      obtain ⟨S, HS, pW, keepS, SI⟩ := ex_gen2 W
      have pR := fun w' h => rr7.below (pW w' h) rr7.lt
      have pW2 := fun w' h => rW.below (pW w' h) rW.lt
      have pq := fun w' h => qq7.below (pW w' h) qq7.lt
      have c0 := fun w' h => (pq w' h).c0
      have c1 := fun w' h => (pq w' h).c1
      have cR := fun w' h => (pR w' h).cell0
      have PB : Hid (∀ w', S w' → Below w.heap.size w w') := fun w' h => HW.out.trans ((pW w' h).mono HW.out.size)
      have PA : Hid (∀ w', Below W.heap.size W w' → Prs w' A xs) := fun w' h => (HA.out.below HW.out).below h
      have BV := Lib.hid (pW _ HS.out)
      clear pW pq rW rr7 qq7 HW
      refine wp_region_ot S (.take 0 (.take 1 (.take 3 (.take 5 (.two 2 (.two 4 (.solo 6 (.solo 7 (.solo 8 (.take 9 (.take 10 (.take 11 (.take 12 (.take 13 (.take 14 (.take 15 (.take 17 (.take 18 (.solo 16 (.solo 19 (.take 20 (.take 21 (.take 22 (.solo 23 (.take 24 (.take 25 .nil)))))))))))))))))))) 6 (.solo 4 (.solo 7 (.solo 8 (.take 9 (.take 10 (.take 11 (.take 12 (.take 13 (.take 14 (.take 15 (.take 17 (.take 18 (.solo 16 (.solo 19 (.take 20 (.take 21 (.take 22 (.solo 23 (.take 24 (.take 25 .nil))))))))))))))))))))) 6 (.solo 2 (.solo 4 (.solo 7 (.solo 8 (.take 9 (.take 10 (.take 11 (.take 12 (.take 13 (.take 14 (.take 15 (.take 17 (.take 18 (.solo 16 (.solo 19 (.take 20 (.take 21 (.take 22 (.solo 23 (.take 24 (.take 25 .nil)))))))))))))))))))))))))) (by kernel_rfl) (by kernel_rfl) rfl (by kernel_rfl) HS.out ?_
      generalize W.drew = V at HS BV ⊢
      iterate 4
        (refine wpOT_step (o := ?_) ?_ ?_; rotate_left 1; (simp only [List.getElem?_toArray, List.getElem?_cons_succ, List.getElem?_cons_zero]; with_reducible rfl))
        (first
            | (refine wpOT_skip (by rfl) ?_)
            | (refine wpOT_take (by rfl) (take_loadRel _ rfl _ rfl _ _ hR pR) ?_)
            | (refine wpOT_take (by rfl) (take_loadRel _ rfl _ rfl _ _ hR2 pW2) ?_)
            | (refine wpOT_take (v := ?_) (by rfl) ?_ ?_; rotate_left 1; (intro wx hSx; have hc_0 := c0 wx hSx; have hc_1 := c1 wx hSx; have hc_2 := cR wx hSx; go_simp; try with_reducible rfl)))
        (try simp only [Act.put, List.setIfInBounds_toArray, List.set_cons_zero, List.set_cons_succ])
      refine wpOT_two ?_ ?_
      · (refine wpOT_solo (o := ?_) ?_ ?_; rotate_left 1; (simp only [List.getElem?_toArray, List.getElem?_cons_succ, List.getElem?_cons_zero]; with_reducible rfl))
        intro K hK
        go_simp
        have BN := (BV.out.alloc BV.out.size (.cells #[] 24))
        have O2 : Hid ((V.alloc (.cells #[] 24)).ownsRow V.heap.size 24 2 (.slice (some ⟨V.heap.size, 0, none⟩) 0 0) 0 (pcells [])) := World.ownsRow_lit V #[] 0 (Nat.le_refl _) (by simp [maxLen]) rfl
        try simp only [World.size_alloc] at O2
        have HS2 := Lib.hid (SI.out _ BN)
        refine hK.out _ _ HS2.out ?_
        clear hK K HS
        have HS := HS2; clear HS2
        have B2 := Lib.hid BN; clear BN
        (try simp only [Act.put, List.setIfInBounds_toArray, List.set_cons_zero, List.set_cons_succ])
        refine wpOT_two ?_ ?_
        · (refine wpOT_now (o := ?_) ?_ ?_ ?_; rotate_left 1; (simp only [List.getElem?_toArray, List.getElem?_cons_succ, List.getElem?_cons_zero]; with_reducible rfl); (rfl))
          intro K hK
          refine app_pairs _ _ rfl V.heap.size (.slice (some ⟨V.heap.size, 0, none⟩) 0 0) [] xs 0 k rfl HL.out rfl O2.out A c rfl hnil (PA.out _ B2.out) (by omega) (by omega) (by simp) ?_
          intro v4 w4 o4 g4
          rw [Nat.zero_add, List.nil_append] at o4
          have BN := B2.out.trans (grown_below g4 (fun q hq => Nat.le_trans (by have := BV.out.size; simp at *; omega) (own_ge O2.out hq)) B2.out.size)
          have HS2 := Lib.hid (SI.out _ BN)
          refine hK.out _ _ HS2.out ?_
          clear hK K HS
          have HS := HS2; clear HS2
          have B4 := Lib.hid BN; clear BN
          have O4 := Lib.hid o4; clear o4
          have G4 := Lib.hid g4; clear g4
          (try simp only [Act.put, List.setIfInBounds_toArray, List.set_cons_zero, List.set_cons_succ])
          (refine wpOT_solo (o := ?_) ?_ ?_; rotate_left 1; (simp only [List.getElem?_toArray, List.getElem?_cons_succ, List.getElem?_cons_zero]; with_reducible rfl))
          intro K hK
          go_simp
          have BN := (B4.out.alloc B4.out.size (.cells #[.int .i64 lo, .int .i64 hi] 24))
          have P6 : Hid (PairAt (w4.alloc (.cells #[.int .i64 lo, .int .i64 hi] 24)) w4.heap.size lo hi) := PairAt.new w4 lo hi
          try simp only [World.size_alloc] at P6
          have HS2 := Lib.hid (SI.out _ BN)
          refine hK.out _ _ HS2.out ?_
          clear hK K HS
          have HS := HS2; clear HS2
          have B6 := Lib.hid BN; clear BN
          (try simp only [Act.put, List.setIfInBounds_toArray, List.set_cons_zero, List.set_cons_succ])
          (refine wpOT_now (o := ?_) ?_ ?_ ?_; rotate_left 1; (simp only [List.getElem?_toArray, List.getElem?_cons_succ, List.getElem?_cons_zero]; with_reducible rfl); (rfl))
          intro K hK
          refine app_pairs _ _ rfl V.heap.size v4 xs [(lo, hi)] k 1 HL.out rfl rfl (O4.out.alloc _) (some ⟨w4.heap.size, 0, none⟩) 1 rfl (fun h => by cases h) P6.out.prs (by omega) (by omega) (by have := G4.out.size; simp at *; omega) ?_
          intro v7 w7 o7 g7
          have BN := B6.out.trans (grown_below g7 (fun q hq => Nat.le_trans (by have := BV.out.size; simp at *; omega) (own_ge O4.out hq)) B6.out.size)
          have HS2 := Lib.hid (SI.out _ BN)
          obtain ⟨A7, c7, rfl, _, _⟩ := own_form o7
          have HP7 : Hid (Prs w7 A7 (xs ++ [(lo, hi)])) := Sl.of_own o7
          refine hK.out _ _ HS2.out ?_
          clear hK K HS o7 g7 BN
          have HS := HS2; clear HS2
          (try simp only [Act.put, List.setIfInBounds_toArray, List.set_cons_zero, List.set_cons_succ])
          (refine wpOT_solo (o := ?_) ?_ ?_; rotate_left 1; (simp only [List.getElem?_toArray, List.getElem?_cons_succ, List.getElem?_cons_zero]; with_reducible rfl))
          intro K hK
          go_simp
          go_at_call 10
          refine (HOF2.out _ _ _ HP7.out).mono ?_
          rintro e w8 ⟨rfl, hb⟩
          have hS := keepS _ _ HS.out hb
          clear HS
          have HS := Lib.hid hS; clear hS hb
          refine hK.out _ _ HS.out ?_
          clear hK K
          (try simp only [Act.put, List.setIfInBounds_toArray, List.set_cons_zero, List.set_cons_succ])
          iterate 9
            (refine wpOT_step (o := ?_) ?_ ?_; rotate_left 1; (simp only [List.getElem?_toArray, List.getElem?_cons_succ, List.getElem?_cons_zero]; with_reducible rfl))
            (first
                | (refine wpOT_skip (by rfl) ?_)
                | (refine wpOT_take (by rfl) (take_loadRel _ rfl _ rfl _ _ hR pR) ?_)
                | (refine wpOT_take (by rfl) (take_loadRel _ rfl _ rfl _ _ hR2 pW2) ?_)
                | (refine wpOT_take (by rfl) (take_eqSame _ _ _ rfl _ _ rfl rfl hR2) ?_)
                | (refine wpOT_take (v := ?_) (by rfl) ?_ ?_; rotate_left 1; (intro wx hSx; have hc_0 := c0 wx hSx; have hc_1 := c1 wx hSx; have hc_2 := cR wx hSx; go_simp; try with_reducible rfl)))
            (try simp only [Act.put, List.setIfInBounds_toArray, List.set_cons_zero, List.set_cons_succ])
          (refine wpOT_solo (o := ?_) ?_ ?_; rotate_left 1; (simp only [List.getElem?_toArray, List.getElem?_cons_succ, List.getElem?_cons_zero]; with_reducible rfl))
          intro K hK
          go_simp
          go_at_call 16
          refine (HH2.out _).mono ?_
          rintro e w9 ⟨rfl, hb⟩
          have hS := keepS _ _ HS.out hb
          clear HS
          have HS := Lib.hid hS; clear hS hb
          refine hK.out _ _ HS.out ?_
          clear hK K
          (try simp only [Act.put, List.setIfInBounds_toArray, List.set_cons_zero, List.set_cons_succ])
          (refine wpOT_solo (o := ?_) ?_ ?_; rotate_left 1; (simp only [List.getElem?_toArray, List.getElem?_cons_succ, List.getElem?_cons_zero]; with_reducible rfl))
          intro K hK
          go_simp
          go_at_call 11
          refine (HIN.out g _ (pR _ HS.out) lo hi).mono ?_
          rintro e w10 ⟨rfl, hb⟩
          have hS := keepS _ _ HS.out hb
          clear HS
          have HS := Lib.hid hS; clear hS hb
          refine hK.out _ _ HS.out ?_
          clear hK K
          (try simp only [Act.put, List.setIfInBounds_toArray, List.set_cons_zero, List.set_cons_succ])
          iterate 3
            (refine wpOT_step (o := ?_) ?_ ?_; rotate_left 1; (simp only [List.getElem?_toArray, List.getElem?_cons_succ, List.getElem?_cons_zero]; with_reducible rfl))
            (first
                | (refine wpOT_skip (by rfl) ?_)
                | (refine wpOT_take (v := ?_) (by rfl) ?_ ?_; rotate_left 1; (intro wx hSx; go_simp; try with_reducible rfl)))
            (try simp only [Act.put, List.setIfInBounds_toArray, List.set_cons_zero, List.set_cons_succ])
          (refine wpOT_solo (o := ?_) ?_ ?_; rotate_left 1; (simp only [List.getElem?_toArray, List.getElem?_cons_succ, List.getElem?_cons_zero]; with_reducible rfl))
          intro K hK
          go_simp
          go_at_call 9
          refine (ralive_any _ (HT.out.below (PB.out _ HS.out))).mono ?_
          rintro e w11 ⟨rfl, hb⟩
          have hS := keepS _ _ HS.out hb
          clear HS
          have HS := Lib.hid hS; clear hS hb
          refine hK.out _ _ HS.out ?_
          clear hK K
          (try simp only [Act.put, List.setIfInBounds_toArray, List.set_cons_zero, List.set_cons_succ])
          iterate 2
            (refine wpOT_step (o := ?_) ?_ ?_; rotate_left 1; (simp only [List.getElem?_toArray, List.getElem?_cons_succ, List.getElem?_cons_zero]; with_reducible rfl))
            (first
                | (refine wpOT_skip (by rfl) ?_)
                | (refine wpOT_take (v := ?_) (by rfl) ?_ ?_; rotate_left 1; (intro wx hSx; go_simp; try with_reducible rfl)))
            (try simp only [Act.put, List.setIfInBounds_toArray, List.set_cons_zero, List.set_cons_succ])
          refine wpOT_done ?_
          have HB11 := Lib.hid (PB.out _ HS.out)
          clear pR pW2 c0 c1 cR PB HS keepS
          go_wp2_with fail
          go_ret
          exact ⟨rfl, HB11.out⟩
        · (refine wpOT_solo (o := ?_) ?_ ?_; rotate_left 1; (simp only [List.getElem?_toArray, List.getElem?_cons_succ, List.getElem?_cons_zero]; with_reducible rfl))
          intro K hK
          go_simp
          have BN := (B2.out.alloc B2.out.size (.cells #[.int .i64 lo, .int .i64 hi] 24))
          have P6 : Hid (PairAt ((V.alloc (.cells #[] 24)).alloc (.cells #[.int .i64 lo, .int .i64 hi] 24)) (V.alloc (.cells #[] 24)).heap.size lo hi) := PairAt.new (V.alloc (.cells #[] 24)) lo hi
          try simp only [World.size_alloc] at P6
          have HS2 := Lib.hid (SI.out _ BN)
          refine hK.out _ _ HS2.out ?_
          clear hK K HS
          have HS := HS2; clear HS2
          have B6 := Lib.hid BN; clear BN
          (try simp only [Act.put, List.setIfInBounds_toArray, List.set_cons_zero, List.set_cons_succ])
          (refine wpOT_now (o := ?_) ?_ ?_ ?_; rotate_left 1; (simp only [List.getElem?_toArray, List.getElem?_cons_succ, List.getElem?_cons_zero]; with_reducible rfl); (rfl))
          intro K hK
          refine app_pairs _ _ rfl V.heap.size (.slice (some ⟨V.heap.size, 0, none⟩) 0 0) [] xs 0 k rfl HL.out rfl (O2.out.alloc _) A c rfl hnil (PA.out _ B6.out) (by omega) (by omega) (by simp; omega) ?_
          intro v4 w4 o4 g4
          rw [Nat.zero_add, List.nil_append] at o4
          have BN := B6.out.trans (grown_below g4 (fun q hq => Nat.le_trans (by have := BV.out.size; simp at *; omega) (own_ge O2.out hq)) B6.out.size)
          have HS2 := Lib.hid (SI.out _ BN)
          refine hK.out _ _ HS2.out ?_
          clear hK K HS
          have HS := HS2; clear HS2
          have B4 := Lib.hid BN; clear BN
          have O4 := Lib.hid o4; clear o4
          have G4 := Lib.hid g4; clear g4
          (try simp only [Act.put, List.setIfInBounds_toArray, List.set_cons_zero, List.set_cons_succ])
          (refine wpOT_now (o := ?_) ?_ ?_ ?_; rotate_left 1; (simp only [List.getElem?_toArray, List.getElem?_cons_succ, List.getElem?_cons_zero]; with_reducible rfl); (rfl))
          intro K hK
          refine app_pairs _ _ rfl V.heap.size v4 xs [(lo, hi)] k 1 HL.out rfl rfl O4.out (some ⟨V.heap.size + 1, 0, none⟩) 1 rfl (fun h => by cases h) (P6.out.grown G4.out (by simp [Value.ownBlock])).prs (by omega) (by omega) (by have := G4.out.size; simp at *; omega) ?_
          intro v7 w7 o7 g7
          have BN := B4.out.trans (grown_below g7 (fun q hq => Nat.le_trans (by have := BV.out.size; simp at *; omega) (own_ge O4.out hq)) B4.out.size)
          have HS2 := Lib.hid (SI.out _ BN)
          obtain ⟨A7, c7, rfl, _, _⟩ := own_form o7
          have HP7 : Hid (Prs w7 A7 (xs ++ [(lo, hi)])) := Sl.of_own o7
          refine hK.out _ _ HS2.out ?_
          clear hK K HS o7 g7 BN
          have HS := HS2; clear HS2
          (try simp only [Act.put, List.setIfInBounds_toArray, List.set_cons_zero, List.set_cons_succ])
          (refine wpOT_solo (o := ?_) ?_ ?_; rotate_left 1; (simp only [List.getElem?_toArray, List.getElem?_cons_succ, List.getElem?_cons_zero]; with_reducible rfl))
          intro K hK
          go_simp
          go_at_call 10
          refine (HOF2.out _ _ _ HP7.out).mono ?_
          rintro e w8 ⟨rfl, hb⟩
          have hS := keepS _ _ HS.out hb
          clear HS
          have HS := Lib.hid hS; clear hS hb
          refine hK.out _ _ HS.out ?_
          clear hK K
          (try simp only [Act.put, List.setIfInBounds_toArray, List.set_cons_zero, List.set_cons_succ])
          iterate 9
            (refine wpOT_step (o := ?_) ?_ ?_; rotate_left 1; (simp only [List.getElem?_toArray, List.getElem?_cons_succ, List.getElem?_cons_zero]; with_reducible rfl))
            (first
                | (refine wpOT_skip (by rfl) ?_)
                | (refine wpOT_take (by rfl) (take_loadRel _ rfl _ rfl _ _ hR pR) ?_)
                | (refine wpOT_take (by rfl) (take_loadRel _ rfl _ rfl _ _ hR2 pW2) ?_)
                | (refine wpOT_take (by rfl) (take_eqSame _ _ _ rfl _ _ rfl rfl hR2) ?_)
                | (refine wpOT_take (v := ?_) (by rfl) ?_ ?_; rotate_left 1; (intro wx hSx; have hc_0 := c0 wx hSx; have hc_1 := c1 wx hSx; have hc_2 := cR wx hSx; go_simp; try with_reducible rfl)))
            (try simp only [Act.put, List.setIfInBounds_toArray, List.set_cons_zero, List.set_cons_succ])
          (refine wpOT_solo (o := ?_) ?_ ?_; rotate_left 1; (simp only [List.getElem?_toArray, List.getElem?_cons_succ, List.getElem?_cons_zero]; with_reducible rfl))
          intro K hK
          go_simp
          go_at_call 16
          refine (HH2.out _).mono ?_
          rintro e w9 ⟨rfl, hb⟩
          have hS := keepS _ _ HS.out hb
          clear HS
          have HS := Lib.hid hS; clear hS hb
          refine hK.out _ _ HS.out ?_
          clear hK K
          (try simp only [Act.put, List.setIfInBounds_toArray, List.set_cons_zero, List.set_cons_succ])
          (refine wpOT_solo (o := ?_) ?_ ?_; rotate_left 1; (simp only [List.getElem?_toArray, List.getElem?_cons_succ, List.getElem?_cons_zero]; with_reducible rfl))
          intro K hK
          go_simp
          go_at_call 11
          refine (HIN.out g _ (pR _ HS.out) lo hi).mono ?_
          rintro e w10 ⟨rfl, hb⟩
          have hS := keepS _ _ HS.out hb
          clear HS
          have HS := Lib.hid hS; clear hS hb
          refine hK.out _ _ HS.out ?_
          clear hK K
          (try simp only [Act.put, List.setIfInBounds_toArray, List.set_cons_zero, List.set_cons_succ])
          iterate 3
            (refine wpOT_step (o := ?_) ?_ ?_; rotate_left 1; (simp only [List.getElem?_toArray, List.getElem?_cons_succ, List.getElem?_cons_zero]; with_reducible rfl))
            (first
                | (refine wpOT_skip (by rfl) ?_)
                | (refine wpOT_take (v := ?_) (by rfl) ?_ ?_; rotate_left 1; (intro wx hSx; go_simp; try with_reducible rfl)))
            (try simp only [Act.put, List.setIfInBounds_toArray, List.set_cons_zero, List.set_cons_succ])
          (refine wpOT_solo (o := ?_) ?_ ?_; rotate_left 1; (simp only [List.getElem?_toArray, List.getElem?_cons_succ, List.getElem?_cons_zero]; with_reducible rfl))
          intro K hK
          go_simp
          go_at_call 9
          refine (ralive_any _ (HT.out.below (PB.out _ HS.out))).mono ?_
          rintro e w11 ⟨rfl, hb⟩
          have hS := keepS _ _ HS.out hb
          clear HS
          have HS := Lib.hid hS; clear hS hb
          refine hK.out _ _ HS.out ?_
          clear hK K
          (try simp only [Act.put, List.setIfInBounds_toArray, List.set_cons_zero, List.set_cons_succ])
          iterate 2
            (refine wpOT_step (o := ?_) ?_ ?_; rotate_left 1; (simp only [List.getElem?_toArray, List.getElem?_cons_succ, List.getElem?_cons_zero]; with_reducible rfl))
            (first
                | (refine wpOT_skip (by rfl) ?_)
                | (refine wpOT_take (v := ?_) (by rfl) ?_ ?_; rotate_left 1; (intro wx hSx; go_simp; try with_reducible rfl)))
            (try simp only [Act.put, List.setIfInBounds_toArray, List.set_cons_zero, List.set_cons_succ])
          refine wpOT_done ?_
          have HB11 := Lib.hid (PB.out _ HS.out)
          clear pR pW2 c0 c1 cR PB HS keepS
          go_wp2_with fail
          go_ret
          exact ⟨rfl, HB11.out⟩
      · (refine wpOT_solo (o := ?_) ?_ ?_; rotate_left 1; (simp only [List.getElem?_toArray, List.getElem?_cons_succ, List.getElem?_cons_zero]; with_reducible rfl))
        intro K hK
        go_simp
        have BN := (BV.out.alloc BV.out.size (.cells #[.int .i64 lo, .int .i64 hi] 24))
        have P6 : Hid (PairAt (V.alloc (.cells #[.int .i64 lo, .int .i64 hi] 24)) V.heap.size lo hi) := PairAt.new V lo hi
        try simp only [World.size_alloc] at P6
        have HS2 := Lib.hid (SI.out _ BN)
        refine hK.out _ _ HS2.out ?_
        clear hK K HS
        have HS := HS2; clear HS2
        have B6 := Lib.hid BN; clear BN
        (try simp only [Act.put, List.setIfInBounds_toArray, List.set_cons_zero, List.set_cons_succ])
        (refine wpOT_solo (o := ?_) ?_ ?_; rotate_left 1; (simp only [List.getElem?_toArray, List.getElem?_cons_succ, List.getElem?_cons_zero]; with_reducible rfl))
        intro K hK
        go_simp
        have BN := (B6.out.alloc B6.out.size (.cells #[] 24))
        have O2 : Hid (((V.alloc (.cells #[.int .i64 lo, .int .i64 hi] 24)).alloc (.cells #[] 24)).ownsRow (V.alloc (.cells #[.int .i64 lo, .int .i64 hi] 24)).heap.size 24 2 (.slice (some ⟨(V.alloc (.cells #[.int .i64 lo, .int .i64 hi] 24)).heap.size, 0, none⟩) 0 0) 0 (pcells [])) := World.ownsRow_lit (V.alloc (.cells #[.int .i64 lo, .int .i64 hi] 24)) #[] 0 (Nat.le_refl _) (by simp [maxLen]) rfl
        try simp only [World.size_alloc] at O2
        have HS2 := Lib.hid (SI.out _ BN)
        refine hK.out _ _ HS2.out ?_
        clear hK K HS
        have HS := HS2; clear HS2
        have B2 := Lib.hid BN; clear BN
        (try simp only [Act.put, List.setIfInBounds_toArray, List.set_cons_zero, List.set_cons_succ])
        (refine wpOT_now (o := ?_) ?_ ?_ ?_; rotate_left 1; (simp only [List.getElem?_toArray, List.getElem?_cons_succ, List.getElem?_cons_zero]; with_reducible rfl); (rfl))
        intro K hK
        refine app_pairs _ _ rfl (V.heap.size + 1) (.slice (some ⟨V.heap.size + 1, 0, none⟩) 0 0) [] xs 0 k rfl HL.out rfl O2.out A c rfl hnil (PA.out _ B2.out) (by omega) (by omega) (by simp) ?_
        intro v4 w4 o4 g4
        rw [Nat.zero_add, List.nil_append] at o4
        have BN := B2.out.trans (grown_below g4 (fun q hq => Nat.le_trans (by have := BV.out.size; simp at *; omega) (own_ge O2.out hq)) B2.out.size)
        have HS2 := Lib.hid (SI.out _ BN)
        refine hK.out _ _ HS2.out ?_
        clear hK K HS
        have HS := HS2; clear HS2
        have B4 := Lib.hid BN; clear BN
        have O4 := Lib.hid o4; clear o4
        have G4 := Lib.hid g4; clear g4
        (try simp only [Act.put, List.setIfInBounds_toArray, List.set_cons_zero, List.set_cons_succ])
        (refine wpOT_now (o := ?_) ?_ ?_ ?_; rotate_left 1; (simp only [List.getElem?_toArray, List.getElem?_cons_succ, List.getElem?_cons_zero]; with_reducible rfl); (rfl))
        intro K hK
        refine app_pairs _ _ rfl (V.heap.size + 1) v4 xs [(lo, hi)] k 1 HL.out rfl rfl O4.out (some ⟨V.heap.size, 0, none⟩) 1 rfl (fun h => by cases h) ((P6.out.alloc _).grown G4.out (by simp [Value.ownBlock])).prs (by omega) (by omega) (by have := G4.out.size; simp at *; omega) ?_
        intro v7 w7 o7 g7
        have BN := B4.out.trans (grown_below g7 (fun q hq => Nat.le_trans (by have := BV.out.size; simp at *; omega) (own_ge O4.out hq)) B4.out.size)
        have HS2 := Lib.hid (SI.out _ BN)
        obtain ⟨A7, c7, rfl, _, _⟩ := own_form o7
        have HP7 : Hid (Prs w7 A7 (xs ++ [(lo, hi)])) := Sl.of_own o7
        refine hK.out _ _ HS2.out ?_
        clear hK K HS o7 g7 BN
        have HS := HS2; clear HS2
        (try simp only [Act.put, List.setIfInBounds_toArray, List.set_cons_zero, List.set_cons_succ])
        (refine wpOT_solo (o := ?_) ?_ ?_; rotate_left 1; (simp only [List.getElem?_toArray, List.getElem?_cons_succ, List.getElem?_cons_zero]; with_reducible rfl))
        intro K hK
        go_simp
        go_at_call 10
        refine (HOF2.out _ _ _ HP7.out).mono ?_
        rintro e w8 ⟨rfl, hb⟩
        have hS := keepS _ _ HS.out hb
        clear HS
        have HS := Lib.hid hS; clear hS hb
        refine hK.out _ _ HS.out ?_
        clear hK K
        (try simp only [Act.put, List.setIfInBounds_toArray, List.set_cons_zero, List.set_cons_succ])
        iterate 9
          (refine wpOT_step (o := ?_) ?_ ?_; rotate_left 1; (simp only [List.getElem?_toArray, List.getElem?_cons_succ, List.getElem?_cons_zero]; with_reducible rfl))
          (first
              | (refine wpOT_skip (by rfl) ?_)
              | (refine wpOT_take (by rfl) (take_loadRel _ rfl _ rfl _ _ hR pR) ?_)
              | (refine wpOT_take (by rfl) (take_loadRel _ rfl _ rfl _ _ hR2 pW2) ?_)
              | (refine wpOT_take (by rfl) (take_eqSame _ _ _ rfl _ _ rfl rfl hR2) ?_)
              | (refine wpOT_take (v := ?_) (by rfl) ?_ ?_; rotate_left 1; (intro wx hSx; have hc_0 := c0 wx hSx; have hc_1 := c1 wx hSx; have hc_2 := cR wx hSx; go_simp; try with_reducible rfl)))
          (try simp only [Act.put, List.setIfInBounds_toArray, List.set_cons_zero, List.set_cons_succ])
        (refine wpOT_solo (o := ?_) ?_ ?_; rotate_left 1; (simp only [List.getElem?_toArray, List.getElem?_cons_succ, List.getElem?_cons_zero]; with_reducible rfl))
        intro K hK
        go_simp
        go_at_call 16
        refine (HH2.out _).mono ?_
        rintro e w9 ⟨rfl, hb⟩
        have hS := keepS _ _ HS.out hb
        clear HS
        have HS := Lib.hid hS; clear hS hb
        refine hK.out _ _ HS.out ?_
        clear hK K
        (try simp only [Act.put, List.setIfInBounds_toArray, List.set_cons_zero, List.set_cons_succ])
        (refine wpOT_solo (o := ?_) ?_ ?_; rotate_left 1; (simp only [List.getElem?_toArray, List.getElem?_cons_succ, List.getElem?_cons_zero]; with_reducible rfl))
        intro K hK
        go_simp
        go_at_call 11
        refine (HIN.out g _ (pR _ HS.out) lo hi).mono ?_
        rintro e w10 ⟨rfl, hb⟩
        have hS := keepS _ _ HS.out hb
        clear HS
        have HS := Lib.hid hS; clear hS hb
        refine hK.out _ _ HS.out ?_
        clear hK K
        (try simp only [Act.put, List.setIfInBounds_toArray, List.set_cons_zero, List.set_cons_succ])
        iterate 3
          (refine wpOT_step (o := ?_) ?_ ?_; rotate_left 1; (simp only [List.getElem?_toArray, List.getElem?_cons_succ, List.getElem?_cons_zero]; with_reducible rfl))
          (first
              | (refine wpOT_skip (by rfl) ?_)
              | (refine wpOT_take (v := ?_) (by rfl) ?_ ?_; rotate_left 1; (intro wx hSx; go_simp; try with_reducible rfl)))
          (try simp only [Act.put, List.setIfInBounds_toArray, List.set_cons_zero, List.set_cons_succ])
        (refine wpOT_solo (o := ?_) ?_ ?_; rotate_left 1; (simp only [List.getElem?_toArray, List.getElem?_cons_succ, List.getElem?_cons_zero]; with_reducible rfl))
        intro K hK
        go_simp
        go_at_call 9
        refine (ralive_any _ (HT.out.below (PB.out _ HS.out))).mono ?_
        rintro e w11 ⟨rfl, hb⟩
        have hS := keepS _ _ HS.out hb
        clear HS
        have HS := Lib.hid hS; clear hS hb
        refine hK.out _ _ HS.out ?_
        clear hK K
        (try simp only [Act.put, List.setIfInBounds_toArray, List.set_cons_zero, List.set_cons_succ])
        iterate 2
          (refine wpOT_step (o := ?_) ?_ ?_; rotate_left 1; (simp only [List.getElem?_toArray, List.getElem?_cons_succ, List.getElem?_cons_zero]; with_reducible rfl))
          (first
              | (refine wpOT_skip (by rfl) ?_)
              | (refine wpOT_take (v := ?_) (by rfl) ?_ ?_; rotate_left 1; (intro wx hSx; go_simp; try with_reducible rfl)))
          (try simp only [Act.put, List.setIfInBounds_toArray, List.set_cons_zero, List.set_cons_succ])
        refine wpOT_done ?_
        have HB11 := Lib.hid (PB.out _ HS.out)
        clear pR pW2 c0 c1 cR PB HS keepS
        go_wp2_with fail
        go_ret
        exact ⟨rfl, HB11.out⟩
theorem relateOf_all (n : Int) (A : Option Addr) (c : Nat) (xs : List (Int × Int)) (hnil : A = none → xs = [] ∧ c = 0) (hm2 : xs.length ≤ 9223372036854775807) (lo hi : Int) (w : World) (hA : Prs w A xs) (hT : Tab w) :
    Calls Tryd.prog 3 #[.int .i64 n, .slice A xs.length c, .agg #[.int .i64 lo, .int .i64 hi]] w fun e w' => e = .returned (.bool true) ∧ Below w.heap.size w w' := by
  rcases Nat.lt_or_ge 200 xs.length with h | h
  · exact relateOf_big n A c xs.length h hm2 lo hi w hT
  · exact relateOf_law n A c xs h hnil lo hi w hA hT
end Go.Proofs.YtepmcdneafpmeaaDoor
