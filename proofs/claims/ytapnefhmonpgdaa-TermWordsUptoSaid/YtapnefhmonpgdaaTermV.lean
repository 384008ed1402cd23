/-
  The document's Words. Conditions: lists of at most 2^20 trees.
-/
import Derived.Test.YtapnefhmonpgdaaTermU
namespace Go.Proofs.Ytapnefhmonpgdaa
open Go.RowKit LX TR TM

theorem names_whole {x : Tr} {r : List Tr} {e : Int} (hk : x.t.k = 123) : namesR (x :: r) e = match wholeR x.ks x.e with
    | .error p => .error p
    | .ok ws => .ok (ws, r) := by
  unfold namesR
  simp only [withinR]
  rw [if_pos hk]
  unfold wholeR
  cases someR nameR x.ks x.e with
  | error p => rfl
  | ok yr =>
    obtain ⟨y, q⟩ := yr
    cases q <;> rfl
theorem names_miss {ts : List Tr} {e : Int} (hk : kindOf ts none ≠ 123) : namesR ts e = .error (offOf ts e) := by
  cases ts with
  | nil => rfl
  | cons x r =>
    have h' : ¬ x.t.k = 123 := hk
    unfold namesR
    simp only [withinR]
    rw [if_neg h']; rfl
theorem whole_few {x : Tr} {ws : List Wd} (h : wholeR x.ks x.e = .ok ws) : ws.length ≤ x.ks.length + 1 := by
  unfold wholeR at h
  cases hq : someR nameR x.ks x.e with
  | error p => rw [hq] at h; cases h
  | ok yr =>
    obtain ⟨y, q⟩ := yr
    have hy : y.length ≤ x.ks.length + 1 := by
      unfold someR at hq
      cases h1 : nameR x.ks x.e with
      | error p => rw [h1] at hq; cases hq
      | ok ar =>
        obtain ⟨a, r⟩ := ar
        rw [h1] at hq
        simp only [bnd] at hq
        have hm : ∀ (n : Nat) (ts : List Tr) (xs : List Wd) (r3 : List Tr), moreR nameR n ts x.e = .ok (xs, r3) → xs.length ≤ n := by
          intro n
          induction n with
          | zero => intro ts xs r3 h; simp only [moreR, Except.ok.injEq, Prod.mk.injEq] at h; rw [← h.1]; simp
          | succ n ih =>
            intro ts xs r3 h
            cases ts with
            | nil => simp only [moreR, Except.ok.injEq, Prod.mk.injEq] at h; rw [← h.1]; simp
            | cons c r =>
              simp only [moreR] at h
              split at h
              · cases h2 : nameR r x.e with
                | error p => rw [h2] at h; cases h
                | ok ar2 =>
                  obtain ⟨a2, r2⟩ := ar2
                  rw [h2] at h
                  simp only [bnd] at h
                  cases h3 : moreR nameR n r2 x.e with
                  | error p => rw [h3] at h; cases h
                  | ok ar3 =>
                    obtain ⟨a3, r4⟩ := ar3
                    rw [h3] at h
                    simp only [Except.ok.injEq, Prod.mk.injEq] at h
                    have := ih _ _ _ h3
                    rw [← h.1]; simp; omega
              · simp only [Except.ok.injEq, Prod.mk.injEq] at h; rw [← h.1]; simp
        cases h2 : moreR nameR x.ks.length r x.e with
        | error p => rw [h2] at hq; cases hq
        | ok ar2 =>
          obtain ⟨a2, r2⟩ := ar2
          rw [h2] at hq
          simp only [Except.ok.injEq, Prod.mk.injEq] at hq
          have := hm _ _ _ _ h2
          rw [← hq.1]; simp; omega
    rw [hq] at h
    cases q with
    | nil => simp only [Except.ok.injEq] at h; rw [← h]; exact hy
    | cons a b => cases h
set_option maxRecDepth 100000 in
set_option maxHeartbeats 3200000 in
theorem refwords_any (A : Option Addr) (c : Nat) (l : List Tr) (i e : Int) (w : World) (hT : Trs w w.heap.size A l) (hl : ∀ x ∈ l, x.ks.length ≤ 300) :
    Calls Try.prog 10 #[.slice A l.length c, .int .i64 i, .int .i64 e] w fun e' w' =>
      (match namesR (rest l i) e with
        | .error p => ∃ Y n dd, e' = .returned (.tuple #[.slice Y n dd, gbad p])
        | .ok (ws, _) => ∃ Y dd s9 p9 i2, e' = .returned (.tuple #[.slice Y ws.length dd, gok s9 p9 i2]) ∧ SlC w' (fun k => w.heap.size < k) Y (wcs ws)) ∧ Below w.heap.size w w' := by
  have HG0 := Lib.hid (RowAt.new w 34 #[.int .i64 0, .int .i64 0, .string ⟨#[]⟩, .slice none 0 0, .slice none 0 0, .int .i64 0, .bool false, .int .i64 0])
  have hB : Below w.heap.size w (w.alloc (.cells #[.int .i64 0, .int .i64 0, .string ⟨#[]⟩, .slice none 0 0, .slice none 0 0, .int .i64 0, .bool false, .int .i64 0] 34)) := (Below.refl _ _).alloc (Nat.le_refl _) _
  have HB0 := Lib.hid hB
  have hT1 := (hT.below hB).mono hB.size
  have HI := Lib.hid (is_any A c l i 123 (by decide) _ hT1)
  have HWR := Lib.hid (wrong_any A c l i e _ hT1)
  have HTT := Lib.hid hT
  refine calls_hid fun Q' hQ => ?_
  by_cases hk : kindOf (rest l i) none = 123
  · rw [decide_eq_true hk] at HI
    have h9 := kind_at (l := l) (i := i)
    by_cases hin : 0 ≤ i ∧ i < l.length
    · rw [if_pos hin, hk] at h9
      obtain ⟨j, rfl⟩ := Int.eq_ofNat_of_zero_le hin.1
      rw [Int.toNat_natCast] at h9
      have hj : j < l.length := by omega
      have hr := rest_cons (l := l) (i := (j : Int)) (by omega) (by omega)
      rw [Int.toNat_natCast] at hr
      rw [hr, names_whole h9.symm] at hQ
      obtain ⟨bb, o, rfl, hbb, hc⟩ := hT1.at hj
      obtain ⟨q0, q1, q2, q3, q4⟩ := hc j hj
      have HC := Lib.hid (whole6_any (l.getD j r0) _ (hT1.kidAt hj) (by have := hl _ (getD_mem hj); omega))
      have hws := fun ws (h : wholeR (l.getD j r0).ks (l.getD j r0).e = .ok ws) => whole_few h
      have hkl := hl _ (getD_mem hj)
      have hjn : (j : Int) < (l.length : Int) := by omega
      clear hT hT1 hc h9 hk HWR hr hl hB
      generalize l.getD j r0 = y at *
      obtain ⟨⟨q, ts, tp⟩, YA, yc, ks, ye⟩ := y
      simp only [Tr.t, Tr.A, Tr.c, Tr.ks, Tr.e] at *
      unfold trv at HC
      simp only [Tr.t, Tr.A, Tr.c, Tr.ks, Tr.e] at HC
      generalize ks.length = nk at *
      generalize l.length = n at *
      cases hwh : wholeR ks ye with
      | error p =>
        rw [hwh] at hQ HC
        have HQ := Lib.hid hQ; clear hQ hwh hws
        go_enter Try.func10, Try.ntmps10
        go_wp2_with fail
        refine HI.out.mono ?_
        rintro e' w' ⟨rfl, rfl⟩
        go_wp2_with fail
        refine HC.out.mono ?_
        rintro e' w1 ⟨rfl, hb1⟩
        have hb2 : Below w1.heap.size w1 (w1.alloc (.cells #[.int .i64 0, .int .i64 0, .string ⟨#[]⟩, .slice none 0 0, .slice none 0 0, .int .i64 0, .bool true, .int .i64 p] 34)) := (Below.refl _ _).alloc (Nat.le_refl _) _
        have HSL2 := Lib.hid (fun W (_ : True) => refnames_any none 0 [] W.heap.size W (Nat.le_refl _) (by simp) (Sl.nil _ _ _))
        have HG1 := Lib.hid ((HG0.out.below hb1 HG0.out.lt).below hb2 (Nat.lt_of_lt_of_le HG0.out.lt hb1.size))
        have hz0 : w.heap.size < w1.heap.size := Nat.lt_of_lt_of_le HG0.out.lt hb1.size
        have HW1 := Lib.hid ((HB0.out.trans (hb1.mono HB0.out.size)).trans (hb2.mono (by omega)))
        have HGG := Lib.hid (RowAt.new w1 34 #[.int .i64 0, .int .i64 0, .string ⟨#[]⟩, .slice none 0 0, .slice none 0 0, .int .i64 0, .bool true, .int .i64 p])
        clear hb2 HG0 HB0
        unfold gbad
        go_upto_region 4 with fail
        generalize (w1.alloc (.cells #[.int .i64 0, .int .i64 0, .string ⟨#[]⟩, .slice none 0 0, .slice none 0 0, .int .i64 0, .bool true, .int .i64 p] 34)) = w2 at *
        have hz2 : w1.heap.size < w2.heap.size := HGG.out.lt
        obtain ⟨S, hSe⟩ : ∃ S : World → Prop, S = fun w' => RowAt w' w1.heap.size 34 #[.int .i64 0, .int .i64 0, .string ⟨#[]⟩, .slice none 0 0, .slice none 0 0, .int .i64 0, .bool true, .int .i64 p] := ⟨_, rfl⟩
        have HS : Hid (S w2.drew) := by rw [hSe]; exact Lib.hid HGG.out.drew
        have C0 : ∀ w', S w' → w'.cell? ⟨w1.heap.size, 0, none⟩ = some (#[.int .i64 0, .int .i64 0, .string ⟨#[]⟩, .slice none 0 0, .slice none 0 0, .int .i64 0, .bool true, .int .i64 p][0]) := fun w' h => by rw [hSe] at h; exact (RowAt.cell h 0).trans rfl
        have C1 : ∀ w', S w' → w'.cell? ⟨w1.heap.size, 1, none⟩ = some (#[.int .i64 0, .int .i64 0, .string ⟨#[]⟩, .slice none 0 0, .slice none 0 0, .int .i64 0, .bool true, .int .i64 p][1]) := fun w' h => by rw [hSe] at h; exact (RowAt.cell h 1).trans rfl
        have C2 : ∀ w', S w' → w'.cell? ⟨w1.heap.size, 2, none⟩ = some (#[.int .i64 0, .int .i64 0, .string ⟨#[]⟩, .slice none 0 0, .slice none 0 0, .int .i64 0, .bool true, .int .i64 p][2]) := fun w' h => by rw [hSe] at h; exact (RowAt.cell h 2).trans rfl
        have C3 : ∀ w', S w' → w'.cell? ⟨w1.heap.size, 3, none⟩ = some (#[.int .i64 0, .int .i64 0, .string ⟨#[]⟩, .slice none 0 0, .slice none 0 0, .int .i64 0, .bool true, .int .i64 p][3]) := fun w' h => by rw [hSe] at h; exact (RowAt.cell h 3).trans rfl
        have C4 : ∀ w', S w' → w'.cell? ⟨w1.heap.size, 4, none⟩ = some (#[.int .i64 0, .int .i64 0, .string ⟨#[]⟩, .slice none 0 0, .slice none 0 0, .int .i64 0, .bool true, .int .i64 p][4]) := fun w' h => by rw [hSe] at h; exact (RowAt.cell h 4).trans rfl
        have C5 : ∀ w', S w' → w'.cell? ⟨w1.heap.size, 5, none⟩ = some (#[.int .i64 0, .int .i64 0, .string ⟨#[]⟩, .slice none 0 0, .slice none 0 0, .int .i64 0, .bool true, .int .i64 p][5]) := fun w' h => by rw [hSe] at h; exact (RowAt.cell h 5).trans rfl
        have C6 : ∀ w', S w' → w'.cell? ⟨w1.heap.size, 6, none⟩ = some (#[.int .i64 0, .int .i64 0, .string ⟨#[]⟩, .slice none 0 0, .slice none 0 0, .int .i64 0, .bool true, .int .i64 p][6]) := fun w' h => by rw [hSe] at h; exact (RowAt.cell h 6).trans rfl
        have C7 : ∀ w', S w' → w'.cell? ⟨w1.heap.size, 7, none⟩ = some (#[.int .i64 0, .int .i64 0, .string ⟨#[]⟩, .slice none 0 0, .slice none 0 0, .int .i64 0, .bool true, .int .i64 p][7]) := fun w' h => by rw [hSe] at h; exact (RowAt.cell h 7).trans rfl
        have HC := Lib.hid (HSL2.out w2.drew (by first | trivial | rfl))
        refine wp_region_ord S [(0, true), (2, true), (1, false), (3, true), (4, false)] (by kernel_rfl) (by kernel_rfl) rfl (by kernel_rfl) HS.out ?_
        iterate 2
          (refine wpOrd_step (o := ?_) ?_ ?_; rotate_left 1; (simp only [List.getElem?_toArray, List.getElem?_cons_succ, List.getElem?_cons_zero]; with_reducible rfl))
          (first
              | (refine wpOrd_skip (by rfl) ?_)
              | (refine wpOrd_take (v := ?_) (by rfl) ?_ ?_; rotate_left 1; (intro wx hSx; have hc_0 := C0 wx hSx; have hc_1 := C1 wx hSx; have hc_2 := C2 wx hSx; have hc_3 := C3 wx hSx; have hc_4 := C4 wx hSx; have hc_5 := C5 wx hSx; have hc_6 := C6 wx hSx; have hc_7 := C7 wx hSx; go_simp; try with_reducible rfl)))
          (try simp only [Act.put, List.setIfInBounds_toArray, List.set_cons_zero, List.set_cons_succ])
        (refine wpOrd_solo (o := ?_) ?_ ?_; rotate_left 1; (simp only [List.getElem?_toArray, List.getElem?_cons_succ, List.getElem?_cons_zero]; with_reducible rfl))
        intro K hK
        go_simp
        go_at_call 36
        refine HC.out.mono ?_
        rintro e' w3 ⟨Y, dd, rfl, hdd, hsl3, hb3⟩
        have hb23 : Below w2.heap.size w2 w3 := ((Below.refl _ w2).drew).trans hb3
        have hS3 : S w3 := by rw [hSe]; exact HGG.out.below hb23 hz2
        refine hK.out _ _ hS3 ?_
        clear hK K HS
        have HS := Lib.hid hS3; clear hS3
        have HR3 := Lib.hid (HG1.out.below hb23 HG1.out.lt)
        have HW3 := Lib.hid (HW1.out.trans (hb23.mono (by omega)))
        have HSL3 : Hid (SlC w3 (fun k => w.heap.size < k) Y (wcs [])) := hsl3.weak fun k _ hk => by have h9 : w2.heap.size ≤ k := hk; omega
        clear hb3 hsl3 hb23
        iterate 1
          (refine wpOrd_step (o := ?_) ?_ ?_; rotate_left 1; (simp only [List.getElem?_toArray, List.getElem?_cons_succ, List.getElem?_cons_zero]; with_reducible rfl))
          (first
              | (refine wpOrd_skip (by rfl) ?_)
              | (refine wpOrd_take (v := ?_) (by rfl) ?_ ?_; rotate_left 1; (intro wx hSx; have hc_0 := C0 wx hSx; have hc_1 := C1 wx hSx; have hc_2 := C2 wx hSx; have hc_3 := C3 wx hSx; have hc_4 := C4 wx hSx; have hc_5 := C5 wx hSx; have hc_6 := C6 wx hSx; have hc_7 := C7 wx hSx; go_simp; try with_reducible rfl)))
          (try simp only [Act.put, List.setIfInBounds_toArray, List.set_cons_zero, List.set_cons_succ])
        (refine wpOrd_solo (o := ?_) ?_ ?_; rotate_left 1; (simp only [List.getElem?_toArray, List.getElem?_cons_succ, List.getElem?_cons_zero]; with_reducible rfl))
        intro K hK
        rw [if_pos (by rfl)]
        refine wp_store_row _ _ _ rfl w.heap.size #[.int .i64 0, .int .i64 0, .string ⟨#[]⟩, .slice none 0 0, .slice none 0 0, .int .i64 0, .bool true, .int .i64 p] rfl rfl _ _ HR3.out (got_info _ _ _ _ _ _ _ _) rfl (by simp [Value.oneCell']) ?_
        have hrow := HR3.out.setRow #[.int .i64 0, .int .i64 0, .string ⟨#[]⟩, .slice none 0 0, .slice none 0 0, .int .i64 0, .bool true, .int .i64 p]
        have hS4 : S (w3.setRow w.heap.size #[.int .i64 0, .int .i64 0, .string ⟨#[]⟩, .slice none 0 0, .slice none 0 0, .int .i64 0, .bool true, .int .i64 p]) := by
          have h := HS.out
          rw [hSe] at h ⊢
          exact (setRow_other w3 w.heap.size w1.heap.size _ (by omega)).trans h
        refine hK.out _ _ hS4 ?_
        clear hK K
        simp only [Act.put]
        refine wpOrd_done ?_
        have e2 : Below w.heap.size w (w3.setRow w.heap.size #[.int .i64 0, .int .i64 0, .string ⟨#[]⟩, .slice none 0 0, .slice none 0 0, .int .i64 0, .bool true, .int .i64 p]) := HW3.out.trans (below_setRow (Nat.le_refl _) _)
        have e3 := setRow_slc HSL3.out #[.int .i64 0, .int .i64 0, .string ⟨#[]⟩, .slice none 0 0, .slice none 0 0, .int .i64 0, .bool true, .int .i64 p] (g := w.heap.size) (ok' := fun k => w.heap.size < k) (fun k _ hk => ⟨by omega, hk⟩)
        go_wp2
        exact bodyPost_ret (ret_slot_cell rfl _ _ (.slice Y _ dd) w.heap.size _ _ (0, 0) _ rfl rfl hrow Try.underlying34 rfl (got_info _ _ _ _ _ _ _ _)) rfl (HQ.out _ _ ⟨⟨Y, _, dd, rfl⟩, e2⟩)
      | ok ws =>
        rw [hwh] at hQ HC
        have hwl := hws ws hwh
        have HQ := Lib.hid hQ; clear hQ hwh hws
        go_enter Try.func10, Try.ntmps10
        go_wp2_with fail
        refine HI.out.mono ?_
        rintro e' w' ⟨rfl, rfl⟩
        go_wp2_with fail
        refine HC.out.mono ?_
        rintro e' w1 ⟨⟨X, d, s9, p9, i2, rfl, hd, hsl⟩, hb1⟩
        have hb2 : Below w1.heap.size w1 (w1.alloc (.cells #[.int .i64 0, .int .i64 p9, .string s9, .slice none 0 0, .slice none 0 0, .int .i64 i2, .bool false, .int .i64 0] 34)) := (Below.refl _ _).alloc (Nat.le_refl _) _
        have HSL2 := Lib.hid (fun W (hW : W = (w1.alloc (.cells #[.int .i64 0, .int .i64 p9, .string s9, .slice none 0 0, .slice none 0 0, .int .i64 i2, .bool false, .int .i64 0] 34)).drew) => refnames_any X d ws W.heap.size W (Nat.le_refl _) (by omega) (by rw [hW]; exact ((hsl.keep9 (wb := (w1.alloc (.cells #[.int .i64 0, .int .i64 p9, .string s9, .slice none 0 0, .slice none 0 0, .int .i64 i2, .bool false, .int .i64 0] 34)).drew) fun k hk _ => hb2.block k hk).sl)))
        have HG1 := Lib.hid ((HG0.out.below hb1 HG0.out.lt).below hb2 (Nat.lt_of_lt_of_le HG0.out.lt hb1.size))
        have hz0 : w.heap.size < w1.heap.size := Nat.lt_of_lt_of_le HG0.out.lt hb1.size
        have HW1 := Lib.hid ((HB0.out.trans (hb1.mono HB0.out.size)).trans (hb2.mono (by omega)))
        have HGG := Lib.hid (RowAt.new w1 34 #[.int .i64 0, .int .i64 p9, .string s9, .slice none 0 0, .slice none 0 0, .int .i64 i2, .bool false, .int .i64 0])
        clear hb2 HG0 HB0
        unfold gok
        go_upto_region 4 with fail
        generalize (w1.alloc (.cells #[.int .i64 0, .int .i64 p9, .string s9, .slice none 0 0, .slice none 0 0, .int .i64 i2, .bool false, .int .i64 0] 34)) = w2 at *
        have hz2 : w1.heap.size < w2.heap.size := HGG.out.lt
        obtain ⟨S, hSe⟩ : ∃ S : World → Prop, S = fun w' => RowAt w' w1.heap.size 34 #[.int .i64 0, .int .i64 p9, .string s9, .slice none 0 0, .slice none 0 0, .int .i64 i2, .bool false, .int .i64 0] := ⟨_, rfl⟩
        have HS : Hid (S w2.drew) := by rw [hSe]; exact Lib.hid HGG.out.drew
        have C0 : ∀ w', S w' → w'.cell? ⟨w1.heap.size, 0, none⟩ = some (#[.int .i64 0, .int .i64 p9, .string s9, .slice none 0 0, .slice none 0 0, .int .i64 i2, .bool false, .int .i64 0][0]) := fun w' h => by rw [hSe] at h; exact (RowAt.cell h 0).trans rfl
        have C1 : ∀ w', S w' → w'.cell? ⟨w1.heap.size, 1, none⟩ = some (#[.int .i64 0, .int .i64 p9, .string s9, .slice none 0 0, .slice none 0 0, .int .i64 i2, .bool false, .int .i64 0][1]) := fun w' h => by rw [hSe] at h; exact (RowAt.cell h 1).trans rfl
        have C2 : ∀ w', S w' → w'.cell? ⟨w1.heap.size, 2, none⟩ = some (#[.int .i64 0, .int .i64 p9, .string s9, .slice none 0 0, .slice none 0 0, .int .i64 i2, .bool false, .int .i64 0][2]) := fun w' h => by rw [hSe] at h; exact (RowAt.cell h 2).trans rfl
        have C3 : ∀ w', S w' → w'.cell? ⟨w1.heap.size, 3, none⟩ = some (#[.int .i64 0, .int .i64 p9, .string s9, .slice none 0 0, .slice none 0 0, .int .i64 i2, .bool false, .int .i64 0][3]) := fun w' h => by rw [hSe] at h; exact (RowAt.cell h 3).trans rfl
        have C4 : ∀ w', S w' → w'.cell? ⟨w1.heap.size, 4, none⟩ = some (#[.int .i64 0, .int .i64 p9, .string s9, .slice none 0 0, .slice none 0 0, .int .i64 i2, .bool false, .int .i64 0][4]) := fun w' h => by rw [hSe] at h; exact (RowAt.cell h 4).trans rfl
        have C5 : ∀ w', S w' → w'.cell? ⟨w1.heap.size, 5, none⟩ = some (#[.int .i64 0, .int .i64 p9, .string s9, .slice none 0 0, .slice none 0 0, .int .i64 i2, .bool false, .int .i64 0][5]) := fun w' h => by rw [hSe] at h; exact (RowAt.cell h 5).trans rfl
        have C6 : ∀ w', S w' → w'.cell? ⟨w1.heap.size, 6, none⟩ = some (#[.int .i64 0, .int .i64 p9, .string s9, .slice none 0 0, .slice none 0 0, .int .i64 i2, .bool false, .int .i64 0][6]) := fun w' h => by rw [hSe] at h; exact (RowAt.cell h 6).trans rfl
        have C7 : ∀ w', S w' → w'.cell? ⟨w1.heap.size, 7, none⟩ = some (#[.int .i64 0, .int .i64 p9, .string s9, .slice none 0 0, .slice none 0 0, .int .i64 i2, .bool false, .int .i64 0][7]) := fun w' h => by rw [hSe] at h; exact (RowAt.cell h 7).trans rfl
        have HC := Lib.hid (HSL2.out w2.drew (by first | trivial | rfl))
        refine wp_region_ord S [(0, true), (2, true), (1, false), (3, true), (4, false)] (by kernel_rfl) (by kernel_rfl) rfl (by kernel_rfl) HS.out ?_
        iterate 2
          (refine wpOrd_step (o := ?_) ?_ ?_; rotate_left 1; (simp only [List.getElem?_toArray, List.getElem?_cons_succ, List.getElem?_cons_zero]; with_reducible rfl))
          (first
              | (refine wpOrd_skip (by rfl) ?_)
              | (refine wpOrd_take (v := ?_) (by rfl) ?_ ?_; rotate_left 1; (intro wx hSx; have hc_0 := C0 wx hSx; have hc_1 := C1 wx hSx; have hc_2 := C2 wx hSx; have hc_3 := C3 wx hSx; have hc_4 := C4 wx hSx; have hc_5 := C5 wx hSx; have hc_6 := C6 wx hSx; have hc_7 := C7 wx hSx; go_simp; try with_reducible rfl)))
          (try simp only [Act.put, List.setIfInBounds_toArray, List.set_cons_zero, List.set_cons_succ])
        (refine wpOrd_solo (o := ?_) ?_ ?_; rotate_left 1; (simp only [List.getElem?_toArray, List.getElem?_cons_succ, List.getElem?_cons_zero]; with_reducible rfl))
        intro K hK
        go_simp
        go_at_call 36
        refine HC.out.mono ?_
        rintro e' w3 ⟨Y, dd, rfl, hdd, hsl3, hb3⟩
        have hb23 : Below w2.heap.size w2 w3 := ((Below.refl _ w2).drew).trans hb3
        have hS3 : S w3 := by rw [hSe]; exact HGG.out.below hb23 hz2
        refine hK.out _ _ hS3 ?_
        clear hK K HS
        have HS := Lib.hid hS3; clear hS3
        have HR3 := Lib.hid (HG1.out.below hb23 HG1.out.lt)
        have HW3 := Lib.hid (HW1.out.trans (hb23.mono (by omega)))
        have HSL3 : Hid (SlC w3 (fun k => w.heap.size < k) Y (wcs ws)) := hsl3.weak fun k _ hk => by have h9 : w2.heap.size ≤ k := hk; omega
        clear hb3 hsl3 hb23
        iterate 1
          (refine wpOrd_step (o := ?_) ?_ ?_; rotate_left 1; (simp only [List.getElem?_toArray, List.getElem?_cons_succ, List.getElem?_cons_zero]; with_reducible rfl))
          (first
              | (refine wpOrd_skip (by rfl) ?_)
              | (refine wpOrd_take (v := ?_) (by rfl) ?_ ?_; rotate_left 1; (intro wx hSx; have hc_0 := C0 wx hSx; have hc_1 := C1 wx hSx; have hc_2 := C2 wx hSx; have hc_3 := C3 wx hSx; have hc_4 := C4 wx hSx; have hc_5 := C5 wx hSx; have hc_6 := C6 wx hSx; have hc_7 := C7 wx hSx; go_simp; try with_reducible rfl)))
          (try simp only [Act.put, List.setIfInBounds_toArray, List.set_cons_zero, List.set_cons_succ])
        (refine wpOrd_solo (o := ?_) ?_ ?_; rotate_left 1; (simp only [List.getElem?_toArray, List.getElem?_cons_succ, List.getElem?_cons_zero]; with_reducible rfl))
        intro K hK
        rw [if_pos (by rfl)]
        refine wp_store_row _ _ _ rfl w.heap.size #[.int .i64 0, .int .i64 p9, .string s9, .slice none 0 0, .slice none 0 0, .int .i64 i2, .bool false, .int .i64 0] rfl rfl _ _ HR3.out (got_info _ _ _ _ _ _ _ _) rfl (by simp [Value.oneCell']) ?_
        have hrow := HR3.out.setRow #[.int .i64 0, .int .i64 p9, .string s9, .slice none 0 0, .slice none 0 0, .int .i64 i2, .bool false, .int .i64 0]
        have hS4 : S (w3.setRow w.heap.size #[.int .i64 0, .int .i64 p9, .string s9, .slice none 0 0, .slice none 0 0, .int .i64 i2, .bool false, .int .i64 0]) := by
          have h := HS.out
          rw [hSe] at h ⊢
          exact (setRow_other w3 w.heap.size w1.heap.size _ (by omega)).trans h
        refine hK.out _ _ hS4 ?_
        clear hK K
        simp only [Act.put]
        refine wpOrd_done ?_
        have e2 : Below w.heap.size w (w3.setRow w.heap.size #[.int .i64 0, .int .i64 p9, .string s9, .slice none 0 0, .slice none 0 0, .int .i64 i2, .bool false, .int .i64 0]) := HW3.out.trans (below_setRow (Nat.le_refl _) _)
        have e3 := setRow_slc HSL3.out #[.int .i64 0, .int .i64 p9, .string s9, .slice none 0 0, .slice none 0 0, .int .i64 i2, .bool false, .int .i64 0] (g := w.heap.size) (ok' := fun k => w.heap.size < k) (fun k _ hk => ⟨by omega, hk⟩)
        go_wp2
        exact bodyPost_ret (ret_slot_cell rfl _ _ (.slice Y _ dd) w.heap.size _ _ (0, 0) _ rfl rfl hrow Try.underlying34 rfl (got_info _ _ _ _ _ _ _ _)) rfl (HQ.out _ _ ⟨⟨Y, dd, s9, p9, i2, rfl, e3⟩, e2⟩)
    · rw [if_neg hin, hk] at h9; omega
  · rw [decide_eq_false hk] at HI
    rw [names_miss hk] at hQ
    have HQ := Lib.hid hQ
    clear hT hT1 hk hQ hl hB
    generalize offOf (rest l i) e = p at *
    generalize l.length = n at *
    go_enter Try.func10, Try.ntmps10
    go_wp2_with fail
    refine HI.out.mono ?_
    rintro e' w' ⟨rfl, rfl⟩
    go_wp2_with fail
    refine HWR.out.mono ?_
    rintro e' w1 ⟨rfl, hb1⟩
    have HR1 := Lib.hid (HG0.out.below hb1 HG0.out.lt)
    have HW1 := Lib.hid (HB0.out.trans (hb1.mono HB0.out.size))
    obtain ⟨⟨h0, h1, h2, h3, h4, h5, h6, h7⟩, ff⟩ := row8 HR1.out
    clear hb1
    unfold gbad
    go_wp2_with fail
    change bodyPost _ _ _ _ _ (set8 w1 w.heap.size (.int .i64 0) (.int .i64 0) (.string ⟨#[]⟩) (.slice none 0 0) (.slice none 0 0) (.int .i64 0) (.bool true) (.int .i64 p))
    exact bodyPost_ret (ret_slot_cell rfl _ _ (.slice none 0 0) w.heap.size _ _ (0, 0) _ rfl rfl (set8_row HR1.out) Try.underlying34 rfl (got_info _ _ _ _ _ _ _ _)) rfl (HQ.out _ _ ⟨⟨none, 0, 0, rfl⟩, HW1.out.trans (set8_below (Nat.le_refl _))⟩)
end Go.Proofs.Ytapnefhmonpgdaa
