/-
  HasseLattice: it returns true. Conditions: 64 words below 2^64; the table of math/bits in memory.
-/
import Derived.Test.YtopckkdmldhmlaaDoorHasseQ
import Derived.Deep.CutRange
namespace Go.Proofs.YtopckkdmldhmlaaDoor
open Go.RowKit RM

/-- Three ints, as a value and in a block of their own. -/
def tv (xs : List Int) : Array Value := (xs.map (Value.int .i64)).toArray
theorem tv_at (xs : List Int) (h : xs.length = 3) (i : Nat) (hi : i < 3) : (tv xs)[i]? = some (.int .i64 (xs.getD i 0)) := by
  unfold tv
  rw [List.getElem?_toArray, List.getElem?_map, List.getElem?_eq_getElem (by omega), List.getD_eq_getElem?_getD, List.getElem?_eq_getElem (by omega)]; rfl
theorem tv_size (xs : List Int) (h : xs.length = 3) : (tv xs).size = 3 := by simp [tv, h]
def ThreeAt (w : World) (g : Nat) (xs : List Int) : Prop := w.heap[g]? = some (.cells (tv xs) 40 (0, 0))
section
variable {w w' : World} {g : Nat} {xs : List Int}
theorem ThreeAt.lt (h : ThreeAt w g xs) : g < w.heap.size := (Array.getElem?_eq_some_iff.1 h).1
theorem ThreeAt.cell (h : ThreeAt w g xs) (hl : xs.length = 3) (i : Nat) (hi : i < 3) : w.cell? ⟨g, i, none⟩ = some (.int .i64 (xs.getD i 0)) := by rw [cell_of_row w g i _ 40 (0, 0) h, tv_at xs hl i hi]
theorem ThreeAt.below {B : Nat} (h : ThreeAt w g xs) (hb : Below B w w') (hg : g < B) : ThreeAt w' g xs := (hb.block g hg).trans h
end
theorem tinfo (xs : List Int) (h : xs.length = 3) : (Tryd.prog.info? 40).map (·.size) = some (tv xs).size := by rw [tv_size xs h]; kernel_rfl
theorem wpList_loadThree {ops : Array Oper} {rest : List Oper} {o : Oper} {a : Act} {w : World} {Q : Exit → Act → World → Prop} (hgd : Region.wanted o (yielded ops a.tmps) = true) (x : Operand) (ho : o.op = .load 40 x) (g : Nat) (hx : a.eval x = .pointer (some ⟨g, 0, none⟩))
    (xs : List Int) (hl : xs.length = 3) (hg : ThreeAt w g xs) (h : wpList Tryd.prog ops Q rest (a.put o.dst (.agg (tv xs))) w) : wpList Tryd.prog ops Q (o :: rest) a w :=
  wpList_wanted hgd fun _ hK => wp_load_row _ x ho g hx _ _ (0, 0) _ hg Tryd.underlying40 rfl (tinfo xs hl) (hK _ _ h)
theorem run_index3 (xs : List Int) (hl : xs.length = 3) (i : Nat) (hi : i < 3) (w : World) : (Instr.index 40 (.agg (tv xs)) (.int .i64 (i : Int))).run Tryd.prog w = .ok (.int .i64 (xs.getD i 0)) w := by
  unfold Instr.index
  simp only [asIntOf, Sem.run_bind, Sem.run_pure, Result.andThen_ok, Tryd.runUnderlying40]
  rw [if_pos (by omega)]
  simp only [Sem.run_bind, Tryd.sizeOf3, Result.andThen_ok, Int.toNat_natCast, Nat.mul_one]
  exact run_part_one (tv_at xs hl i hi) w

theorem hlj_any (g : Nat) (n : Int) (l : List Nat) (hl : RW l) (i j : Int) (w : World) (hT : Tab w) (hg : RelAt w g n l) :
    Calls Tryd.prog 24 #[.int .i64 i, .int .i64 j, .pointer (some ⟨g, 0, none⟩)] w fun e w' => e = .returned (.int .i64 (((joinR n l i j).getD 0 : Nat) : Int)) ∧ Below w.heap.size w w' := by
  have HJ := Lib.hid (hjoin_any n l hl i j w hT)
  unfold optV at HJ
  generalize (joinR n l i j).getD 0 = v at *
  generalize (joinR n l i j).isSome = b at *
  clear hT
  go_enter Tryd.func24, Tryd.ntmps24
  go_wp2_with (refine wpList_loadRel rfl _ rfl g rfl n l hl hg ?_)
  refine HJ.out.mono ?_
  rintro e w1 ⟨rfl, hb1⟩
  have HB1 := Lib.hid hb1; clear hb1
  go_wp2_with fail
  go_ret
  exact ⟨rfl, HB1.out⟩
theorem hlm_any (g : Nat) (n : Int) (l : List Nat) (hl : RW l) (i j : Int) (w : World) (hg : RelAt w g n l) :
    Calls Tryd.prog 25 #[.int .i64 i, .int .i64 j, .pointer (some ⟨g, 0, none⟩)] w fun e w' => e = .returned (.int .i64 (((meetR n l i j).getD 0 : Nat) : Int)) ∧ Below w.heap.size w w' := by
  have HJ := Lib.hid (hmeet_any n l hl i j w)
  unfold optV at HJ
  generalize (meetR n l i j).getD 0 = v at *
  generalize (meetR n l i j).isSome = b at *
  go_enter Tryd.func25, Tryd.ntmps25
  go_wp2_with (refine wpList_loadRel rfl _ rfl g rfl n l hl hg ?_)
  refine HJ.out.mono ?_
  rintro e w1 ⟨rfl, hb1⟩
  have HB1 := Lib.hid hb1; clear hb1
  go_wp2_with fail
  go_ret
  exact ⟨rfl, HB1.out⟩

set_option maxRecDepth 8000 in
set_option maxHeartbeats 4000000 in
theorem hasseLattice_law (n : Int) (l : List Nat) (hl : RW l) (a b c : Int) (w : World) (hT : Tab w) :
    Calls Tryd.prog 6 #[.agg (rv n l), .agg (tv [a, b, c])] w fun e w' => e = .returned (.bool true) ∧ Below w.heap.size w w' := by
  have hmf : ∀ (fn : Fn) (first cap : Array Value) (w : World), (Instr.makeFunc fn first cap).run Tryd.prog w = .ok (.func fn first cap) w := fun _ _ _ _ => rfl
  have HLA : Hid (∀ w, Tab w → Calls Tryd.prog 16 #[.agg (rv n l)] w fun e w' => e = .returned (.bool (latB n l)) ∧ Below w.heap.size w w') := fun w h => hlattice_any n l hl w h
  have HT := Lib.hid hT; clear hT
  obtain ⟨xs, hxs⟩ : ∃ xs, xs = [a, b, c] := ⟨_, rfl⟩
  have h3 : xs.length = 3 := by rw [hxs]; rfl
  rw [← hxs]
  have HA0 : Hid (xs.getD 0 0 = a) := by show _ = _; rw [hxs]; rfl
  have HA1 : Hid (xs.getD 1 0 = b) := by show _ = _; rw [hxs]; rfl
  have HA2 : Hid (xs.getD 2 0 = c) := by show _ = _; rw [hxs]; rfl
  clear hxs
  have H3 := Lib.hid h3; clear h3
  have r0 : RelAt ((w.alloc (.cells (rv n l) 25)).alloc (.cells (tv xs) 40)) w.heap.size n l := (RelAt.new w n l).alloc _
  have p0 : ThreeAt ((w.alloc (.cells (rv n l) 25)).alloc (.cells (tv xs) 40)) (w.heap.size + 1) xs := by
    have : ThreeAt ((w.alloc (.cells (rv n l) 25)).alloc (.cells (tv xs) 40)) (w.alloc (.cells (rv n l) 25)).heap.size xs := heap_alloc_new _ _
    simpa using this
  have hb : Below w.heap.size w ((w.alloc (.cells (rv n l) 25)).alloc (.cells (tv xs) 40)) := ((Below.refl _ _).alloc (Nat.le_refl _) _).alloc (by simp) _
  have HB := Lib.hid hb; clear hb
  go_enter Tryd.func6, Tryd.ntmps6
  go_upto_region 1 with fail
  generalize (w.alloc (.cells (rv n l) 25)).alloc (.cells (tv xs) 40) = w0 at *
  go_wp2_with (refine wpList_loadRel rfl _ rfl w.heap.size rfl n l hl r0 ?_)
  refine (HLA.out _ (HT.out.below HB.out)).mono ?_
  rintro e W ⟨rfl, hb⟩
  have rW := r0.below hb r0.lt
  have pW := p0.below hb p0.lt
  have HBW := Lib.hid (HB.out.trans (hb.mono HB.out.size))
  clear hb r0 p0 HB
  cases hlat : latB n l with
  | false =>
    go_wp2_with fail
    refine (halive_any _ (HT.out.below HBW.out)).mono ?_
    rintro e w2 ⟨rfl, hb⟩
    have HB2 := Lib.hid (HBW.out.trans (hb.mono HBW.out.size)); clear hb
    go_wp2_with fail
    go_ret
    exact ⟨rfl, HB2.out⟩
  | true =>
    have HLAT := Lib.hid hlat; clear hlat
    have hc0 := rW.cell0
    go_wp2_with (refine wpList_loadThree rfl _ rfl (w.heap.size + 1) rfl xs H3.out pW ?_)
    have HIX : Hid (∀ (i : Nat), i < 3 → ∀ w, (Instr.index 40 (.agg (tv xs)) (.int .i64 (i : Int))).run Tryd.prog w = .ok (.int .i64 (xs.getD i 0)) w) := fun i hi w => run_index3 xs H3.out i hi w
    generalize tv xs = tx at *
    go_loop [6, 21] (fun _ kv => ∃ k : Nat, k ≤ 3 ∧ kv = .int .i64 k ∧ Hid (∀ j, j < k → 0 ≤ xs.getD j 0 ∧ xs.getD j 0 < n)) (fun _ kv => 3 - (intOf kv).toNat)
    case atStart => exact ⟨0, by omega, rfl, fun j hj => by omega⟩
    case round =>
      obtain ⟨k, hk, rfl, HK⟩ := hrel
      by_cases hlt : k < 3
      · have hix := HIX.out k hlt
        generalize hx : xs.getD k 0 = x at *
        have HX := Lib.hid hx; clear hx
        rcases Int.lt_or_le x 0 with h1 | h1
        · go_wp2_with fail
          refine (halive_any _ (HT.out.below HBW.out)).mono ?_
          rintro e w2 ⟨rfl, hb⟩
          have HB2 := Lib.hid (HBW.out.trans (hb.mono HBW.out.size)); clear hb
          go_wp2_with fail
          go_ret
          exact ⟨rfl, HB2.out⟩
        · rcases Int.lt_or_le x n with h2 | h2
          · go_wp2_with fail
            go_round
            case rel =>
              refine ⟨k + 1, by omega, by go_num, ?_⟩
              show ∀ j, j < k + 1 → 0 ≤ xs.getD j 0 ∧ xs.getD j 0 < n
              intro j hj
              by_cases e : j = k
              · subst e; rw [HX.out]; exact ⟨h1, h2⟩
              · exact HK.out j (by omega)
            case measure => simp [intOf]; omega
          · go_wp2_with fail
            refine (halive_any _ (HT.out.below HBW.out)).mono ?_
            rintro e w2 ⟨rfl, hb⟩
            have HB2 := Lib.hid (HBW.out.trans (hb.mono HBW.out.size)); clear hb
            go_wp2_with fail
            go_ret
            exact ⟨rfl, HB2.out⟩
      · have hk3 : k = 3 := by omega
        subst hk3
        have hn1 := pts_in (show 0 ≤ n by have := (lat_n HLAT.out).1; omega) (lat_n HLAT.out).2
        have g0 := HK.out 0 (by omega)
        have g1 := HK.out 1 (by omega)
        have g2 := HK.out 2 (by omega)
        have ca := pW.cell H3.out 0 (by omega)
        have cb := pW.cell H3.out 1 (by omega)
        have cc := pW.cell H3.out 2 (by omega)
        rw [HA0.out] at g0 ca
        rw [HA1.out] at g1 cb
        rw [HA2.out] at g2 cc
        obtain ⟨A, rfl⟩ := Int.eq_ofNat_of_zero_le g0.1
        obtain ⟨B, rfl⟩ := Int.eq_ofNat_of_zero_le g1.1
        obtain ⟨C, rfl⟩ := Int.eq_ofNat_of_zero_le g2.1
        have hA : A < pts n := by omega
        have hB : B < pts n := by omega
        have hC : C < pts n := by omega
        clear g0 g1 g2 hn1 HK hk HIX HA0 HA1 HA2 hlt pW hc0
        have L := lat_of HLAT.out
        have hAB := bJ_spec L hA hB
        have hBC := bJ_spec L hB hC
        have mAB := bJ_spec L.flip hA hB
        have mBC := bJ_spec L.flip hB hC
        obtain ⟨ab, eab⟩ : ∃ v, v = bJ (pts n) (hasR n l) A B := ⟨_, rfl⟩
        obtain ⟨bc, ebc⟩ : ∃ v, v = bJ (pts n) (hasR n l) B C := ⟨_, rfl⟩
        obtain ⟨mab, fab⟩ : ∃ v, v = bJ (pts n) (flp (hasR n l)) A B := ⟨_, rfl⟩
        obtain ⟨mbc, fbc⟩ : ∃ v, v = bJ (pts n) (flp (hasR n l)) B C := ⟨_, rfl⟩
        obtain ⟨t, et⟩ : ∃ v, v = bJ (pts n) (hasR n l) A bc := ⟨_, rfl⟩
        obtain ⟨s, fs⟩ : ∃ v, v = bJ (pts n) (flp (hasR n l)) A mbc := ⟨_, rfl⟩
        obtain ⟨low, elow⟩ : ∃ v, v = (endO (pts n) (hasR n l)).getD 0 := ⟨_, rfl⟩
        obtain ⟨high, ehigh⟩ : ∃ v, v = (endO (pts n) (flp (hasR n l))).getD 0 := ⟨_, rfl⟩
        have Eab : Hid ((joinR n l A B).getD 0 = ab) := eab.symm
        have Eba : Hid ((joinR n l B A).getD 0 = ab) := by rw [eab]; exact bJ_comm L hA hB
        have Ebc : Hid ((joinR n l B C).getD 0 = bc) := ebc.symm
        have Et : Hid ((joinR n l A bc).getD 0 = t) := et.symm
        have Et2 : Hid ((joinR n l ab C).getD 0 = t) := by rw [et, ebc, eab]; exact bJ_assoc L hA hB hC
        have Fab : Hid ((meetR n l A B).getD 0 = mab) := fab.symm
        have Fbc : Hid ((meetR n l B C).getD 0 = mbc) := fbc.symm
        have Fs : Hid ((meetR n l A mbc).getD 0 = s) := fs.symm
        have Fs2 : Hid ((meetR n l mab C).getD 0 = s) := by rw [fs, fbc, fab]; exact bJ_assoc L.flip hA hB hC
        have Eabs : Hid ((joinR n l A mab).getD 0 = A) := by rw [fab]; exact bJ_absorb L hA hB
        have Fabs : Hid ((meetR n l A ab).getD 0 = A) := by rw [eab]; exact bJ_absorb L.flip hA hB
        have Elow : Hid ((joinR n l A low).getD 0 = A) := by rw [elow]; exact bJ_end L hA
        have Fhigh : Hid ((meetR n l A high).getD 0 = A) := by rw [ehigh]; exact bJ_end L.flip hA
        have hE1 : ((ab : Int) == (B : Int)) = hasR n l A B := by rw [← bJ_le L hA hB, ← eab, Bool.eq_iff_iff]; simp; omega
        have hE2 : ((mab : Int) == (A : Int)) = hasR n l A B := by
          have h5 : (bJ (pts n) (flp (hasR n l)) B A == A) = hasR n l A B := bJ_le L.flip hB hA
          rw [bJ_comm L.flip hA hB, ← fab] at h5
          rw [← h5, Bool.eq_iff_iff]; simp; omega
        have HHS : Hid (∀ w, Calls Tryd.prog 26 #[.agg (rv n l), .int .i64 (A : Int), .int .i64 (B : Int)] w fun e w' => e = .returned (.bool (hasR n l A B)) ∧ Below w.heap.size w w') := fun w => rhas_any n l hl A B w
        have HBT : Hid (∀ w, Tab w → Calls Tryd.prog 13 #[.agg (rv n l)] w fun e w' => e = .returned (.tuple #[.int .i64 (low : Int), .bool (bottomR n l).isSome]) ∧ Below w.heap.size w w') := fun w h => by rw [elow]; exact hbottom_any n l hl w h
        have HTP : Hid (∀ w, Calls Tryd.prog 15 #[.agg (rv n l)] w fun e w' => e = .returned (.tuple #[.int .i64 (high : Int), .bool (topR n l).isSome]) ∧ Below w.heap.size w w') := fun w => by rw [ehigh]; exact htop_any n l hl w
        have HCJ : Hid (∀ (x y v : Nat), (joinR n l x y).getD 0 = v → ∀ W, RelAt W w.heap.size n l → Tab W → Calls Tryd.prog 24 #[.int .i64 (x : Int), .int .i64 (y : Int), .pointer (some ⟨w.heap.size, 0, none⟩)] W fun e w' => e = .returned (.int .i64 (v : Int)) ∧ Below W.heap.size W w') := fun x y v hv W hg h => by
          rw [← hv]; exact hlj_any w.heap.size n l hl x y W h hg
        have HCM : Hid (∀ (x y v : Nat), (meetR n l x y).getD 0 = v → ∀ W, RelAt W w.heap.size n l → Calls Tryd.prog 25 #[.int .i64 (x : Int), .int .i64 (y : Int), .pointer (some ⟨w.heap.size, 0, none⟩)] W fun e w' => e = .returned (.int .i64 (v : Int)) ∧ Below W.heap.size W w') := fun x y v hv W hg => by
          rw [← hv]; exact hlm_any w.heap.size n l hl x y W hg
        clear eab ebc fab fbc et fs elow ehigh hAB hBC mAB mBC L hA hB hC HLAT HLA
        generalize hasR n l A B = hs at *
        generalize (bottomR n l).isSome = q1 at *
        generalize (topR n l).isSome = q2 at *
        go_wp2_with fail
        go_quiet (fail)
        have r0 := rW.drewN nq
        have HB0 := Lib.hid (bdrewN HBW.out nq)
        clear ca cb cc rW HBW
        generalize W.drewN nq = wz at *
        go_wp2_with fail
        refine (HCJ.out A B ab Eab.out _ r0 (HT.out.below HB0.out)).mono ?_
        rintro e w1 ⟨rfl, hb⟩
        have r1 := r0.below hb r0.lt
        have HB1 := Lib.hid (HB0.out.trans (hb.mono HB0.out.size))
        clear hb r0 HB0
        go_wp2_with fail
        refine (HCJ.out B A ab Eba.out _ r1 (HT.out.below HB1.out)).mono ?_
        rintro e w2 ⟨rfl, hb⟩
        have r2 := r1.below hb r1.lt
        have HB2 := Lib.hid (HB1.out.trans (hb.mono HB1.out.size))
        clear hb r1 HB1
        go_wp2_with fail
        refine (HCJ.out B C bc Ebc.out _ r2 (HT.out.below HB2.out)).mono ?_
        rintro e w3 ⟨rfl, hb⟩
        have r3 := r2.below hb r2.lt
        have HB3 := Lib.hid (HB2.out.trans (hb.mono HB2.out.size))
        clear hb r2 HB2
        go_wp2_with fail
        refine (HCJ.out A bc t Et.out _ r3 (HT.out.below HB3.out)).mono ?_
        rintro e w4 ⟨rfl, hb⟩
        have r4 := r3.below hb r3.lt
        have HB4 := Lib.hid (HB3.out.trans (hb.mono HB3.out.size))
        clear hb r3 HB3
        go_wp2_with fail
        refine (HCJ.out A B ab Eab.out _ r4 (HT.out.below HB4.out)).mono ?_
        rintro e w5 ⟨rfl, hb⟩
        have r5 := r4.below hb r4.lt
        have HB5 := Lib.hid (HB4.out.trans (hb.mono HB4.out.size))
        clear hb r4 HB4
        go_wp2_with fail
        refine (HCJ.out ab C t Et2.out _ r5 (HT.out.below HB5.out)).mono ?_
        rintro e w6 ⟨rfl, hb⟩
        have r6 := r5.below hb r5.lt
        have HB6 := Lib.hid (HB5.out.trans (hb.mono HB5.out.size))
        clear hb r5 HB5
        go_wp2_with fail
        refine (HCM.out B C mbc Fbc.out _ r6).mono ?_
        rintro e w7 ⟨rfl, hb⟩
        have r7 := r6.below hb r6.lt
        have HB7 := Lib.hid (HB6.out.trans (hb.mono HB6.out.size))
        clear hb r6 HB6
        go_wp2_with fail
        refine (HCM.out A mbc s Fs.out _ r7).mono ?_
        rintro e w8 ⟨rfl, hb⟩
        have r8 := r7.below hb r7.lt
        have HB8 := Lib.hid (HB7.out.trans (hb.mono HB7.out.size))
        clear hb r7 HB7
        go_wp2_with fail
        refine (HCM.out A B mab Fab.out _ r8).mono ?_
        rintro e w9 ⟨rfl, hb⟩
        have r9 := r8.below hb r8.lt
        have HB9 := Lib.hid (HB8.out.trans (hb.mono HB8.out.size))
        clear hb r8 HB8
        go_wp2_with fail
        refine (HCM.out mab C s Fs2.out _ r9).mono ?_
        rintro e w10 ⟨rfl, hb⟩
        have r10 := r9.below hb r9.lt
        have HB10 := Lib.hid (HB9.out.trans (hb.mono HB9.out.size))
        clear hb r9 HB9
        go_wp2_with fail
        refine (HCM.out A B mab Fab.out _ r10).mono ?_
        rintro e w11 ⟨rfl, hb⟩
        have r11 := r10.below hb r10.lt
        have HB11 := Lib.hid (HB10.out.trans (hb.mono HB10.out.size))
        clear hb r10 HB10
        go_wp2_with fail
        refine (HCJ.out A mab A Eabs.out _ r11 (HT.out.below HB11.out)).mono ?_
        rintro e w12 ⟨rfl, hb⟩
        have r12 := r11.below hb r11.lt
        have HB12 := Lib.hid (HB11.out.trans (hb.mono HB11.out.size))
        clear hb r11 HB11
        go_wp2_with fail
        refine (HCJ.out A B ab Eab.out _ r12 (HT.out.below HB12.out)).mono ?_
        rintro e w13 ⟨rfl, hb⟩
        have r13 := r12.below hb r12.lt
        have HB13 := Lib.hid (HB12.out.trans (hb.mono HB12.out.size))
        clear hb r12 HB12
        go_wp2_with fail
        refine (HCM.out A ab A Fabs.out _ r13).mono ?_
        rintro e w14 ⟨rfl, hb⟩
        have r14 := r13.below hb r13.lt
        have HB14 := Lib.hid (HB13.out.trans (hb.mono HB13.out.size))
        clear hb r13 HB13
        go_wp2_with (refine wpList_loadRel (by rfl) _ rfl w.heap.size rfl n l hl r14 ?_)
        refine (HBT.out _ (HT.out.below HB14.out)).mono ?_
        rintro e w15 ⟨rfl, hb⟩
        have r15 := r14.below hb r14.lt
        have HB15 := Lib.hid (HB14.out.trans (hb.mono HB14.out.size))
        clear hb r14 HB14
        go_wp2_with (refine wpList_loadRel (by rfl) _ rfl w.heap.size rfl n l hl r15 ?_)
        refine (HTP.out _).mono ?_
        rintro e w16 ⟨rfl, hb⟩
        have r16 := r15.below hb r15.lt
        have HB16 := Lib.hid (HB15.out.trans (hb.mono HB15.out.size))
        clear hb r15 HB15
        go_wp2_with (refine wpList_loadRel (by rfl) _ rfl w.heap.size rfl n l hl r16 ?_)
        refine (HHS.out _).mono ?_
        rintro e w17 ⟨rfl, hb⟩
        have r17 := r16.below hb r16.lt
        have HB17 := Lib.hid (HB16.out.trans (hb.mono HB16.out.size))
        clear hb r16 HB16
        go_wp2_with fail
        refine (HCJ.out A B ab Eab.out _ r17 (HT.out.below HB17.out)).mono ?_
        rintro e w18 ⟨rfl, hb⟩
        have r18 := r17.below hb r17.lt
        have HB18 := Lib.hid (HB17.out.trans (hb.mono HB17.out.size))
        clear hb r17 HB17
        go_wp2_with (refine wpList_loadRel (by rfl) _ rfl w.heap.size rfl n l hl r18 ?_)
        refine (HHS.out _).mono ?_
        rintro e w19 ⟨rfl, hb⟩
        have r19 := r18.below hb r18.lt
        have HB19 := Lib.hid (HB18.out.trans (hb.mono HB18.out.size))
        clear hb r18 HB18
        go_wp2_with fail
        refine (HCM.out A B mab Fab.out _ r19).mono ?_
        rintro e w20 ⟨rfl, hb⟩
        have r20 := r19.below hb r19.lt
        have HB20 := Lib.hid (HB19.out.trans (hb.mono HB19.out.size))
        clear hb r19 HB19
        go_wp2_with fail
        refine (HCJ.out A low A Elow.out _ r20 (HT.out.below HB20.out)).mono ?_
        rintro e w21 ⟨rfl, hb⟩
        have r21 := r20.below hb r20.lt
        have HB21 := Lib.hid (HB20.out.trans (hb.mono HB20.out.size))
        clear hb r20 HB20
        go_wp2_with fail
        refine (HCM.out A high A Fhigh.out _ r21).mono ?_
        rintro e w22 ⟨rfl, hb⟩
        have r22 := r21.below hb r21.lt
        have HB22 := Lib.hid (HB21.out.trans (hb.mono HB21.out.size))
        clear hb r21 HB21
        go_wp2_with fail
        refine (halive_any _ (HT.out.below HB22.out)).mono ?_
        rintro e w23 ⟨rfl, hb⟩
        have HB23 := Lib.hid (HB22.out.trans (hb.mono HB22.out.size)); clear hb
        go_wp2_with fail
        go_ret
        exact ⟨rfl, HB23.out⟩
end Go.Proofs.YtopckkdmldhmlaaDoor
