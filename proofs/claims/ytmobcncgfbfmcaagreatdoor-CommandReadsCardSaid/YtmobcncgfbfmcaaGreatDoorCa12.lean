/- Texts that all the claims need. Conditions: those that each states. -/

import Derived.Test.YtmobcncgfbfmcaaGreatDoorCa11
set_option linter.unusedSimpArgs false
set_option linter.unusedVariables false
set_option maxRecDepth 100000
set_option maxHeartbeats 40000000
namespace Go.Proofs.YtmobcncgfbfmcaaGreatDoor
section
open Go.RowKit LX TR TM DT
namespace DT
theorem Qa5 {d : Nat} {ts : List Tr} {e : Int} (h : kindOf ts none ≠ 97) : Q0G d ts e = .error (Q00 ts e) := by
 unfold Q0G
 rw [Q2e h]; rfl
theorem Qa6 {d : Nat} {x : Tr} {r : List Tr} {e : Int} (h : x.t.k = 97) (h2 : kindOf r none ≠ 61) : Q0G d (x :: r) e = .error (Q00 r e) := by
 unfold Q0G
 rw [Q1p h]
 simp only [bnd]
 rw [Q1T h2]
theorem Qa7 {d : Nat} {x y : Tr} {r : List Tr} {e : Int} (h : x.t.k = 97) (h2 : y.t.k = 61) : Q0G d (x :: y :: r) e = bnd (Q0n d r e) fun n r3 => .ok (nd 11 x.t.p x.t.s [] [n], r3) := by
 unfold Q0G
 rw [Q1p h]
 simp only [bnd]
 rw [Q0P h2]
theorem Qa8 {l : List Tr} {i : Int} {d : Nat} (h0 : 0 ≤ i) (m : Nat) (h : (nodes (rest l i)).length ≤ d) (hm : i + m ≤ l.length) : (nodes (rest l (i + m))).length ≤ d := by
 have h2 : rest l (i + m) = (rest l i).drop m := by
  refine Q6k l i m ?_
  unfold rest
  rw [if_neg (by omega), List.length_drop]
  omega
 rw [h2]
 exact zM (Q2k _ _) h
end DT
theorem Qa9 (d9 : Nat) (hAtom : Oc 5 (Q0n (d9 + 1)) d9) : Gc 144 (Q0G (d9 + 1)) d9 := by
 intro A c l i e w hT hF h0 h1 hN
 have hl := hF.1
 have HT := zh hT
 have HIS : Hid (∀ W, Below w.heap.size w W → ∀ (j : Int) (k : Nat), 0 < k → Calls Tryz.prog 117 #[.slice A l.length c, .int .i64 j, .int .u8 (k : Int)] W fun e w' => e = .returned (.bool (decide (kindOf (rest l j) none = k))) ∧ w' = W) := zh fun W hW j k hk => Q1H A c l j k hk W ((HT.out.below hW).mono hW.size)
 have HWS : Hid (∀ W, Below w.heap.size w W → ∀ (j : Int), Calls Tryz.prog 118 #[.slice A l.length c, .int .i64 j, .int .i64 e] W fun e' w' => e' = .returned (gbad (Q00 (rest l j) e)) ∧ Below W.heap.size W w') := zh fun W hW j => Q1P A c l j e W ((HT.out.below hW).mono hW.size)
 have HG0 := zh (RowAt.new w 103 #[.int .i64 0, .int .i64 0, .string ⟨#[]⟩, .slice none 0 0, .slice none 0 0, .int .i64 0, .bool false, .int .i64 0])
 have HB0 : Hid (Below w.heap.size w (w.alloc (.cells #[.int .i64 0, .int .i64 0, .string ⟨#[]⟩, .slice none 0 0, .slice none 0 0, .int .i64 0, .bool false, .int .i64 0] 103))) := zh ((zB _ _).alloc (zL _) _)
 refine Q0e fun Q' hQ => ?_
 have HQ := zh hQ; clear hQ hT
 by_cases hk97 : kindOf (rest l i) none = 97
 ·obtain ⟨hi0, hr0, hx0⟩ := Q0Z h0 hk97 (by omega)
  by_cases hk61 : kindOf (rest l (i + 1)) none = 61
  ·obtain ⟨hi1, hr1, hx1⟩ := Q0Z (by omega) hk61 (by omega)
   rw [show i + 1 + 1 = i + 2 by omega] at hr1
   obtain ⟨j, rfl⟩ := Int.eq_ofNat_of_zero_le h0
   have hj : j < l.length := by omega
   rw [show ((j : Int)).toNat = j by omega] at hr0 hx0
   have HRL : Hid (Q0G (d9 + 1) (rest l (j : Int)) e = bnd (Q0n (d9 + 1) (rest l ((j : Int) + 2)) e) fun n r3 => .ok (nd 11 (l.getD j r0).t.p (l.getD j r0).t.s [] [n], r3)) := zh (by rw [hr0, hr1]; exact Qa7 hx0 hx1)
   have HADV : Hid (Adv l (j : Int) ((j : Int) + 2)) := zh ⟨2, rfl, by rw [hr0, hr1]; simp⟩
   have HCW := zh (hAtom A c l ((j : Int) + 2) e _ ((HT.out.below HB0.out).mono HB0.out.size) hF (by omega) (by omega) (Qa8 (by omega) 2 hN (by omega)))
   obtain ⟨bb, o, rfl, hbb, hc⟩ := HT.out.at (k := j) (by omega)
   obtain ⟨_, b1, b2, _, _⟩ := hc j hj
   have B1 : ∀ W, Below w.heap.size w W → W.cell? ⟨bb, o + j * 5 + 1, none⟩ = _ := fun W hW => (hW.cell (p := ⟨bb, o + j * 5 + 1, none⟩) hbb).trans b1
   have B2 : ∀ W, Below w.heap.size w W → W.cell? ⟨bb, o + j * 5 + 2, none⟩ = _ := fun W hW => (hW.cell (p := ⟨bb, o + j * 5 + 2, none⟩) hbb).trans b2
   clear hc b1 b2 hr0 hx0 hr1 hx1 hF
   generalize (l.getD j r0).t.p = xp at *
   generalize (l.getD j r0).t.s = xs at *
   generalize hn : l.length = n at *
   have HN := zh hn; clear hn
   go_enter Tryz.func144, Tryz.ntmps144
   go_upto_region 1 with fail
   change Code.wp _ _ _ _ (w.alloc (.cells #[.int .i64 0, .int .i64 0, .string ⟨#[]⟩, .slice none 0 0, .slice none 0 0, .int .i64 0, .bool false, .int .i64 0] 103))
   generalize w.alloc (.cells #[.int .i64 0, .int .i64 0, .string ⟨#[]⟩, .slice none 0 0, .slice none 0 0, .int .i64 0, .bool false, .int .i64 0] 103) = w0 at *
   have HI97 := zh (HIS.out w0 HB0.out ((j : Int)) 97 (by decide))
   rw [zE hk97] at HI97
   go_wp2_with fail
   refine HI97.out.mono ?_
   rintro e' w' ⟨rfl, hww⟩
   have hww := hww.symm
   subst hww
   clear HI97
   have HI61 := zh (HIS.out w0 HB0.out ((j : Int) + 1) 61 (by decide))
   rw [zE hk61] at HI61
   go_wp2_with fail
   refine HI61.out.mono ?_
   rintro e' w' ⟨rfl, hww⟩
   have hww := hww.symm
   subst hww
   clear HI61
   have hjn : (j : Int) + 1 < (n : Int) := by omega
   go_wp2_with fail
   refine HCW.out.mono ?_
   rintro e' w5 ⟨z, nx, f, rfl, ⟨p, rfl, her⟩ | ⟨rfl, hst, hdz⟩, hb5⟩
   ·have HST : Hid (Q0G (d9 + 1) (rest l (j : Int)) e = .error p) := zh (by rw [HRL.out, her]; rfl)
    have HG5 := zh (HG0.out.below hb5 HG0.out.lt)
    have HB5 := zh (HB0.out.trans (hb5.mono HB0.out.size))
    have hb6 : Below w5.heap.size w5 (w5.alloc (.cells #[.int .i64 z.k, .int .i64 z.p, .string z.s, .slice z.A z.ws.length z.c, .slice z.B z.ks.length z.d, .int .i64 nx, .bool true, .int .i64 p] 103)) := (zB _ _).alloc (zL _) _
    have HG6 := zh (HG5.out.below hb6 HG5.out.lt)
    have HB6 := zh (HB5.out.trans (hb6.mono HB5.out.size))
    have HGG := zh (RowAt.new w5 103 #[.int .i64 z.k, .int .i64 z.p, .string z.s, .slice z.A z.ws.length z.c, .slice z.B z.ks.length z.d, .int .i64 nx, .bool true, .int .i64 p])
    have hz0 := HG0.out.lt
    have hz5 : w.heap.size < w5.heap.size := HG5.out.lt
    clear hb5 hb6 HG0 HB0 HG5 HB5
    unfold gv
    simp only [Option.isSome_some, Option.getD_some]
    go_upto_region 6 with fail
    generalize w5.alloc (.cells #[.int .i64 z.k, .int .i64 z.p, .string z.s, .slice z.A z.ws.length z.c, .slice z.B z.ks.length z.d, .int .i64 nx, .bool true, .int .i64 p] 103) = w6 at *
    have h6 : w.heap.size < w6.heap.size := HG6.out.lt
    obtain ⟨⟨g0, g1, g2, g3, g4, g5, g6, g7⟩, ff⟩ := row8 HGG.out
    obtain ⟨⟨k0, k1, k2, k3, k4, k5, k6, k7⟩, fk⟩ := row8 HG6.out
    go_wp2_with fail
    change bodyPost _ _ _ _ _ (set8 w6 w.heap.size (.int .i64 z.k) (.int .i64 z.p) (.string z.s) (.slice z.A z.ws.length z.c) (.slice z.B z.ks.length z.d) (.int .i64 nx) (.bool true) (.int .i64 p))
    exact bodyPost_ret (Q04 rfl _ _ w.heap.size _ _ (0, 0) _ rfl (Q0t HG6.out) Tryz.underlying103 rfl (Q0k _ _ _ _ _ _ _ _)) rfl (HQ.out _ _ ⟨z, nx, some p, rfl, .inl ⟨p, rfl, HST.out⟩, HB6.out.trans (Q0u (zL _))⟩)
   ·have HST : Hid (∀ X : Option Addr, Step (Q0G (d9 + 1)) l (j : Int) e none (er1 (Nd.mk 11 xp xs none 0 [] X 1 [z])) nx none) := zh fun X => Step.ok (HADV.out.trans hst.1) (by
     have h9 := hst.2.2 rfl
     rw [HRL.out]
     cases hq : Q0n (d9 + 1) (rest l ((j : Int) + 2)) e with
     | error p => rw [hq] at h9; cases h9
     | ok yr =>
       obtain ⟨y, r⟩ := yr
       rw [hq] at h9
       obtain ⟨_, rfl, rfl⟩ := h9
       simp [er1, nd, Nd.k, Nd.p, Nd.s, Nd.ws, Nd.ks, TM.er, bnd, TM.Q1D])
    have HG5 := zh (HG0.out.below hb5 HG0.out.lt)
    have HB5 := zh (HB0.out.trans (hb5.mono HB0.out.size))
    have hb6 : Below w5.heap.size w5 (w5.alloc (.cells #[.int .i64 z.k, .int .i64 z.p, .string z.s, .slice z.A z.ws.length z.c, .slice z.B z.ks.length z.d, .int .i64 nx, .bool false, .int .i64 0] 103)) := (zB _ _).alloc (zL _) _
    have HG6 := zh (HG5.out.below hb6 HG5.out.lt)
    have HB6 := zh (HB5.out.trans (hb6.mono HB5.out.size))
    have HGG := zh (RowAt.new w5 103 #[.int .i64 z.k, .int .i64 z.p, .string z.s, .slice z.A z.ws.length z.c, .slice z.B z.ks.length z.d, .int .i64 nx, .bool false, .int .i64 0])
    have hz0 := HG0.out.lt
    have hz5 : w.heap.size < w5.heap.size := HG5.out.lt
    have HDZ : Hid (DeepN (w5.alloc (.cells #[.int .i64 z.k, .int .i64 z.p, .string z.s, .slice z.A z.ws.length z.c, .slice z.B z.ks.length z.d, .int .i64 nx, .bool false, .int .i64 0] 103)) (fun k => w.heap.size < k ∧ k ≠ w5.heap.size) [z]) := zh ((hdz.weak (ok' := fun k => w.heap.size < k ∧ k ≠ w5.heap.size) fun k hk h => ⟨by omega, by omega⟩).keep9 fun k hk _ => hb6.block k hk)
    clear hdz hst
    clear hb5 hb6 HG0 HB0 HG5 HB5
    unfold gv
    simp only [Option.isSome_none, Option.getD_none]
    go_upto_region 6 with fail
    generalize w5.alloc (.cells #[.int .i64 z.k, .int .i64 z.p, .string z.s, .slice z.A z.ws.length z.c, .slice z.B z.ks.length z.d, .int .i64 nx, .bool false, .int .i64 0] 103) = w6 at *
    have h6 : w.heap.size < w6.heap.size := HG6.out.lt
    obtain ⟨⟨g0, g1, g2, g3, g4, g5, g6, g7⟩, ff⟩ := row8 HGG.out
    go_upto_region 7 with fail
    clear g0 g1 g2 g3 g4 g5 g6 g7 ff
    have h65 : w5.heap.size < w6.heap.size := HGG.out.lt
    refine Q0y (fun W => Below w.heap.size w W) ((.take 0 (.take 1 (.take 2 (.take 3 (.take 4 (.take 5 (.take 6 (.take 7 (.take 8 (.take 9 (.take 10 (.take 11 (.take 12 (.solo 13 (.solo 14 (.take 15 (.take 16 (.solo 17 .nil))))))))))))))))))) (by kernel_rfl) (by kernel_rfl) rfl (by kernel_rfl) (HB6.out.drew) ?_
    iterate 13
     (refine Q07 (zO rfl) ?_)
     (first
           | (refine Q08 (by rfl) ?_)
           | (refine Q03 (v := ?_) (by rfl) ?_ ?_; rotate_left 1; (intro wx hSx; have hc_0 := B1 wx hSx; have hc_1 := B2 wx hSx; go_simp; try with_reducible rfl)))
     (try simp only [Act.put, zA4, zA5, zA6])
    (refine Q02 (zO rfl) ?_)
    intro K hK
    refine wp_load_mid _ _ rfl w5.heap.size 0 rfl [.int .i64 z.k, .int .i64 z.p, .string z.s, .slice z.A z.ws.length z.c, .slice z.B z.ks.length z.d] _ (RowAt.range HGG.out.drew 0 [.int .i64 z.k, .int .i64 z.p, .string z.s, .slice z.A z.ws.length z.c, .slice z.B z.ks.length z.d] (by intro j u hu; match j, hu with | 0, hu => exact hu | 1, hu => exact hu | 2, hu => exact hu | 3, hu => exact hu | 4, hu => exact hu)) Tryz.underlying29 rfl (by kernel_rfl) ?_
    refine hK.out _ _ HB6.out.drew ?_
    clear hK K
    (try simp only [Act.put, zA4, zA5, zA6])
    (refine Q02 (zO rfl) ?_)
    intro K hK
    go_simp
    have hbs : Below w6.heap.size w6 (w6.drew.alloc (.cells [.int .i64 z.k, .int .i64 z.p, .string z.s, .slice z.A z.ws.length z.c, .slice z.B z.ks.length z.d].toArray 29)) := ((zB _ w6).drew).alloc (zL _) _
    have HB7 := zh (HB6.out.trans (hbs.mono (Nat.le_of_lt h6)))
    have HG7 := zh (HG6.out.below hbs h6)
    have HV7 := zh (HGG.out.below hbs h65)
    have HN7 : Hid (SlC (w6.drew.alloc (.cells [.int .i64 z.k, .int .i64 z.p, .string z.s, .slice z.A z.ws.length z.c, .slice z.B z.ks.length z.d].toArray 29)) (fun k => w.heap.size < k ∧ k ≠ w5.heap.size) (some ⟨w6.heap.size, 0, none⟩) (ncs [z])) := zh (Q7c w6 (by omega) z)
    have HD7 : Hid (DeepN (w6.drew.alloc (.cells [.int .i64 z.k, .int .i64 z.p, .string z.s, .slice z.A z.ws.length z.c, .slice z.B z.ks.length z.d].toArray 29)) (fun k => w.heap.size < k ∧ k ≠ w5.heap.size) [z]) := zh (HDZ.out.keep9 fun k hk _ => hbs.block k hk)
    clear hbs
    refine hK.out _ _ HB7.out ?_
    clear hK K
    (try simp only [Act.put, zA4, zA5, zA6])
    change wpOT _ _ _ _ _ _ (w6.drew.alloc (.cells [.int .i64 z.k, .int .i64 z.p, .string z.s, .slice z.A z.ws.length z.c, .slice z.B z.ks.length z.d].toArray 29))
    generalize hgs : w6.heap.size = gs at *
    generalize (w6.drew.alloc (.cells [.int .i64 z.k, .int .i64 z.p, .string z.s, .slice z.A z.ws.length z.c, .slice z.B z.ks.length z.d].toArray 29)) = w7 at *
    iterate 2
     (refine Q07 (zO rfl) ?_)
     (first
           | (refine Q08 (by rfl) ?_)
           | (refine Q03 (v := ?_) (by rfl) ?_ ?_; rotate_left 1; (intro wx hSx; have hc_0 := B1 wx hSx; have hc_1 := B2 wx hSx; go_simp; try with_reducible rfl)))
     (try simp only [Act.put, zA4, zA5, zA6])
    (refine Q02 (zO rfl) ?_)
    intro K hK
    rw [if_pos (by rfl)]
    refine wp_store_mid _ _ _ rfl w5.heap.size 0 #[.int .i64 11, .int .i64 xp, .string xs, .slice none 0 0, .slice (some ⟨gs, 0, none⟩) 1 1] rfl rfl (RowAt.thereD HV7.out (by show 0 + 5 ≤ 8; omega)) (Q0h _ _ _ _ _) (by simp [Value.oneCell']) ?_
    have HB8 : Hid (Below w.heap.size w (w7.setCells w5.heap.size 0 #[.int .i64 11, .int .i64 xp, .string xs, .slice none 0 0, .slice (some ⟨gs, 0, none⟩) 1 1].toList)) := zh (HB7.out.trans (Q1i (Nat.le_of_lt hz5) 0 _))
    have hv8 := RowAt.putsD HV7.out #[.int .i64 11, .int .i64 xp, .string xs, .slice none 0 0, .slice (some ⟨gs, 0, none⟩) 1 1].toList 0
    have HV8 : Hid (RowAt (w7.setCells w5.heap.size 0 #[.int .i64 11, .int .i64 xp, .string xs, .slice none 0 0, .slice (some ⟨gs, 0, none⟩) 1 1].toList) w5.heap.size 103 #[.int .i64 11, .int .i64 xp, .string xs, .slice none 0 0, .slice (some ⟨gs, 0, none⟩) 1 1, .int .i64 nx, .bool false, .int .i64 0]) := zh hv8
    have HG8 : Hid (RowAt (w7.setCells w5.heap.size 0 #[.int .i64 11, .int .i64 xp, .string xs, .slice none 0 0, .slice (some ⟨gs, 0, none⟩) 1 1].toList) w.heap.size 103 #[.int .i64 0, .int .i64 0, .string ⟨#[]⟩, .slice none 0 0, .slice none 0 0, .int .i64 0, .bool false, .int .i64 0]) := zh ((Q0j _ _ _ _ _ (by omega)).trans HG7.out)
    have HN8 := zh (HN7.out.keep9 (wb := w7.setCells w5.heap.size 0 #[.int .i64 11, .int .i64 xp, .string xs, .slice none 0 0, .slice (some ⟨gs, 0, none⟩) 1 1].toList) fun k _ h => Q0j _ _ _ _ k h.2)
    have HD8 := zh (HD7.out.keep9 (wb := w7.setCells w5.heap.size 0 #[.int .i64 11, .int .i64 xp, .string xs, .slice none 0 0, .slice (some ⟨gs, 0, none⟩) 1 1].toList) fun k _ h => Q0j _ _ _ _ k h.2)
    refine hK.out _ _ HB8.out ?_
    clear hK K
    (try simp only [Act.put, zA4, zA5, zA6])
    generalize w7.setCells w5.heap.size 0 #[.int .i64 11, .int .i64 xp, .string xs, .slice none 0 0, .slice (some ⟨gs, 0, none⟩) 1 1].toList = w8 at *
    refine Q0s ?_
    obtain ⟨⟨k0, k1, k2, k3, k4, k5, k6, k7⟩, fk⟩ := row8 HG8.out
    obtain ⟨⟨v0, v1, v2, v3, v4, v5, v6, v7⟩, fv⟩ := row8 HV8.out
    go_wp2_with fail
    change bodyPost _ _ _ _ _ (set8 w8 w.heap.size (.int .i64 11) (.int .i64 xp) (.string xs) (.slice none 0 0) (.slice (some ⟨gs, 0, none⟩) 1 1) (.int .i64 nx) (.bool false) (.int .i64 0))
    have hn9 := HN8.out.keep9 (wb := set8 w8 w.heap.size (.int .i64 11) (.int .i64 xp) (.string xs) (.slice none 0 0) (.slice (some ⟨gs, 0, none⟩) 1 1) (.int .i64 nx) (.bool false) (.int .i64 0)) fun k _ hk => Q1k (by omega)
    have hd9 := HD8.out.keep9 (wb := set8 w8 w.heap.size (.int .i64 11) (.int .i64 xp) (.string xs) (.slice none 0 0) (.slice (some ⟨gs, 0, none⟩) 1 1) (.int .i64 nx) (.bool false) (.int .i64 0)) fun k _ hk => Q1k (by omega)
    exact bodyPost_ret (Q04 rfl _ _ w.heap.size _ _ (0, 0) _ rfl (Q0t HG8.out) Tryz.underlying103 rfl (Q0k _ _ _ _ _ _ _ _)) rfl (HQ.out _ _ ⟨Nd.mk 11 xp xs none 0 [] (some ⟨gs, 0, none⟩) 1 [z], nx, none, rfl, .inr ⟨rfl, HST.out (some ⟨gs, 0, none⟩), DeepN.one ⟨⟨SlC.nil _ _ _, zL _⟩, hn9.weak fun k _ h => by omega, zL _⟩ (hd9.weak fun k _ h => by omega)⟩, HB8.out.trans (Q0u (zL _))⟩)
  ·have HER : Hid (Q0G (d9 + 1) (rest l i) e = .error (Q00 (rest l (i + 1)) e)) := zh (by rw [hr0]; exact Qa6 hx0 hk61)
   clear hr0 hx0
   generalize hn : l.length = n at *
   have HN := zh hn; clear hn
   go_enter Tryz.func144, Tryz.ntmps144
   go_upto_region 1 with fail
   change Code.wp _ _ _ _ (w.alloc (.cells #[.int .i64 0, .int .i64 0, .string ⟨#[]⟩, .slice none 0 0, .slice none 0 0, .int .i64 0, .bool false, .int .i64 0] 103))
   generalize w.alloc (.cells #[.int .i64 0, .int .i64 0, .string ⟨#[]⟩, .slice none 0 0, .slice none 0 0, .int .i64 0, .bool false, .int .i64 0] 103) = w0 at *
   have HI97 := zh (HIS.out w0 HB0.out (i) 97 (by decide))
   rw [zE hk97] at HI97
   go_wp2_with fail
   refine HI97.out.mono ?_
   rintro e' w' ⟨rfl, hww⟩
   have hww := hww.symm
   subst hww
   clear HI97
   have HI61 := zh (HIS.out w0 HB0.out (i + 1) 61 (by decide))
   rw [zF hk61] at HI61
   go_wp2_with fail
   refine HI61.out.mono ?_
   rintro e' w' ⟨rfl, hww⟩
   have hww := hww.symm
   subst hww
   clear HI61
   have HWR := zh (HWS.out w0 HB0.out (i + 1))
   go_wp2_with fail
   refine HWR.out.mono ?_
   rintro e' w9 ⟨rfl, hb9⟩
   have HR9 := zh (HG0.out.below hb9 HG0.out.lt)
   have HB9 := zh (HB0.out.trans (hb9.mono HB0.out.size))
   clear hb9
   obtain ⟨⟨k0, k1, k2, k3, k4, k5, k6, k7⟩, fk⟩ := row8 HR9.out
   unfold gbad
   generalize Q00 (rest l (i + 1)) e = p at *
   go_wp2_with fail
   change bodyPost _ _ _ _ _ (set8 w9 w.heap.size (.int .i64 0) (.int .i64 0) (.string ⟨#[]⟩) (.slice none 0 0) (.slice none 0 0) (.int .i64 0) (.bool true) (.int .i64 p))
   exact bodyPost_ret (Q04 rfl _ _ w.heap.size _ _ (0, 0) _ rfl (Q0t HR9.out) Tryz.underlying103 rfl (Q0k _ _ _ _ _ _ _ _)) rfl (HQ.out _ _ ⟨n0, 0, some p, rfl, .inl ⟨p, rfl, HER.out⟩, HB9.out.trans (Q0u (zL _))⟩)
 ·have HER : Hid (Q0G (d9 + 1) (rest l i) e = .error (Q00 (rest l i) e)) := zh (Qa5 hk97)
  generalize hn : l.length = n at *
  have HN := zh hn; clear hn
  go_enter Tryz.func144, Tryz.ntmps144
  go_upto_region 1 with fail
  change Code.wp _ _ _ _ (w.alloc (.cells #[.int .i64 0, .int .i64 0, .string ⟨#[]⟩, .slice none 0 0, .slice none 0 0, .int .i64 0, .bool false, .int .i64 0] 103))
  generalize w.alloc (.cells #[.int .i64 0, .int .i64 0, .string ⟨#[]⟩, .slice none 0 0, .slice none 0 0, .int .i64 0, .bool false, .int .i64 0] 103) = w0 at *
  have HI97 := zh (HIS.out w0 HB0.out (i) 97 (by decide))
  rw [zF hk97] at HI97
  go_wp2_with fail
  refine HI97.out.mono ?_
  rintro e' w' ⟨rfl, hww⟩
  have hww := hww.symm
  subst hww
  clear HI97
  have HWR := zh (HWS.out w0 HB0.out (i))
  go_wp2_with fail
  refine HWR.out.mono ?_
  rintro e' w9 ⟨rfl, hb9⟩
  have HR9 := zh (HG0.out.below hb9 HG0.out.lt)
  have HB9 := zh (HB0.out.trans (hb9.mono HB0.out.size))
  clear hb9
  obtain ⟨⟨k0, k1, k2, k3, k4, k5, k6, k7⟩, fk⟩ := row8 HR9.out
  unfold gbad
  generalize Q00 (rest l (i)) e = p at *
  go_wp2_with fail
  change bodyPost _ _ _ _ _ (set8 w9 w.heap.size (.int .i64 0) (.int .i64 0) (.string ⟨#[]⟩) (.slice none 0 0) (.slice none 0 0) (.int .i64 0) (.bool true) (.int .i64 p))
  exact bodyPost_ret (Q04 rfl _ _ w.heap.size _ _ (0, 0) _ rfl (Q0t HR9.out) Tryz.underlying103 rfl (Q0k _ _ _ _ _ _ _ _)) rfl (HQ.out _ _ ⟨n0, 0, some p, rfl, .inl ⟨p, rfl, HER.out⟩, HB9.out.trans (Q0u (zL _))⟩)
end
section
open Go.RowKit LX TR TM DT
namespace DT
theorem Qaa {d : Nat} {x : Tr} {r : List Tr} {e : Int} (hk : x.t.k = 91) : rowR d (x :: r) e = match Q0Y d x.ks x.e with
 | .error p => .error p
 | .ok (kw, []) => .ok (nd 10 x.t.p e0 kw.2 kw.1, r)
 | .ok (_, y :: _) => .error y.t.p := by
 simp only [rowR]
 rw [if_pos hk]
 simp only [Q0f]
 rw [if_pos hk]
 cases Q0Y d x.ks x.e with
 | error p => rfl
 | ok yr =>
   obtain ⟨y, q⟩ := yr
   cases q <;> rfl
theorem Qab {d : Nat} {x : Tr} {r : List Tr} {e : Int} (hk : x.t.k = 97) : rowR d (x :: r) e = Q09 (d + 1) (x :: r) e := by
 rw [Q4e hk]
 simp only [rowR]
 rw [if_neg (by omega)]
 unfold varR
 rw [Q1p hk]; rfl
theorem Qac {d : Nat} {ts : List Tr} {e : Int} (h1 : kindOf ts none ≠ 97) (h2 : kindOf ts none ≠ 91) : rowR d ts e = .error (Q00 ts e) := by
 cases ts with
 | nil => rfl
 | cons x r =>
   have e2 : ¬ x.t.k = 91 := h2
   simp only [rowR]
   rw [if_neg e2]
   unfold varR
   rw [Q2e h1]; rfl
theorem Qad {α : Type} {rd : Rdr α} {ks : List Tr} {e : Int} (h : ks = [] ∨ kindOf ks none = 124) : optR rd ks e = .ok ([], ks) := by
 cases ks with
 | nil => rfl
 | cons x r =>
   have e2 : x.t.k = 124 := by rcases h with h | h; · cases h
                               ·exact h
   simp only [optR]
   rw [if_pos e2]
theorem Qae {α : Type} {rd : Rdr α} {ks : List Tr} {e : Int} (h1 : ks ≠ []) (h : kindOf ks none ≠ 124) : optR rd ks e = Q0c rd ks e := by
 cases ks with
 | nil => exact absurd rfl h1
 | cons x r =>
   have e2 : ¬ x.t.k = 124 := h
   simp only [optR]
   rw [if_neg e2]
theorem Qaf {d : Nat} {ks : List Tr} {e p : Int} (h : optR (Q0G d) ks e = .error p) : Q0Y d ks e = .error p := by unfold Q0Y; rw [h]; rfl
theorem Qag {d : Nat} {ks r : List Tr} {e : Int} {zs : List Nd} (h : optR (Q0G d) ks e = .ok (zs, r)) (hk : kindOf r none ≠ 124) : Q0Y d ks e = .ok ((zs, []), r) := by
 unfold Q0Y
 rw [h]
 simp only [bnd, Q0W]
 cases r with
 | nil => rfl
 | cons y s =>
   have e2 : ¬ y.t.k = 124 := hk
   simp only
   rw [if_neg e2]
theorem Qah {d : Nat} {ks r : List Tr} {y : Tr} {e : Int} {zs : List Nd} (h : optR (Q0G d) ks e = .ok (zs, y :: r)) (hk : y.t.k = 124) : Q0Y d ks e = bnd (Q05 r e) fun w r2 => .ok ((zs, [w]), r2) := by
 unfold Q0Y
 rw [h]
 simp only [bnd, Q0W]
 rw [if_pos hk]
theorem Qai {ts r : List Tr} {e : Int} {z : Nd} (h : wnR ts e = .ok (er1 z, r)) : Q05 ts e = .ok (nwd z, r) := by
 unfold wnR at h
 cases hq : Q05 ts e with
 | error p => rw [hq] at h; cases h
 | ok yr =>
   obtain ⟨y, q⟩ := yr
   rw [hq] at h
   simp only [bnd, Except.ok.injEq, Prod.mk.injEq] at h
   obtain ⟨h1, rfl⟩ := h
   have e1 := congrArg Nd.s h1
   have e2 := congrArg Nd.p h1
   have e3 : y = nwd z := by
    obtain ⟨s, p⟩ := y
    have a1 : s = z.s := e1
    have a2 : p = z.p := e2
    rw [a1, a2]; rfl
   rw [e3]
theorem Qaj {ts : List Tr} {e p : Int} (h : wnR ts e = .error p) : Q05 ts e = .error p := by
 unfold wnR at h
 cases hq : Q05 ts e with
 | error q => rw [hq] at h; simp only [bnd, Except.error.injEq] at h; rw [h]
 | ok yr => obtain ⟨y, q⟩ := yr; rw [hq] at h; cases h
theorem Qak {w : World} {ok : Nat → Prop} {k p : Int} {s : ByteArray} {Y X : Option Addr} {dd d : Nat} {ws : List Wd} {zs : List Nd} (hd : ws.length ≤ dd) (h : SlC w ok Y (wcs ws)) (hd2 : zs.length ≤ d) (h2 : SlC w ok X (ncs zs)) (h3 : DeepN w ok zs) : DeepN w ok [Nd.mk k p s Y dd ws X d zs] :=
 DeepN.one ⟨⟨h, hd⟩, h2, hd2⟩ h3
theorem Qal (w6 : World) (z : Nd) : Sl (w6.alloc (.cells [.int .i64 z.k, .int .i64 z.p, .string z.s, .slice z.A z.ws.length z.c, .slice z.B z.ks.length z.d].toArray 29)) (w6.alloc (.cells [.int .i64 z.k, .int .i64 z.p, .string z.s, .slice z.A z.ws.length z.c, .slice z.B z.ks.length z.d].toArray 29)).heap.size (some ⟨w6.heap.size, 0, none⟩) (ncs [z]) := fun _ => ⟨w6.heap.size, 0, rfl, (RowAt.new w6 29 (Q0g z).toArray).lt, fun j u hu => by
 have h2 := (RowAt.new w6 29 (Q0g z).toArray).cell j
 rw [Q3e] at hu
 rw [Nat.zero_add]
 exact h2.trans (by simpa using hu)⟩
end DT
theorem Qam (d9 : Nat) (hLabel : Gc 76 (Q09 (d9 + 1)) d9) (hField : Oc 4 (Q0G (d9 + 1)) d9) : Gc 77 (rowR (d9 + 1)) d9 := by
 intro A c l i e w hT hF h0 h1 hN
 have hl := hF.1
 have HT := zh hT
 have HIS : Hid (∀ W, Below w.heap.size w W → ∀ (j : Int) (k : Nat), 0 < k → Calls Tryz.prog 117 #[.slice A l.length c, .int .i64 j, .int .u8 (k : Int)] W fun e w' => e = .returned (.bool (decide (kindOf (rest l j) none = k))) ∧ w' = W) := zh fun W hW j k hk => Q1H A c l j k hk W ((HT.out.below hW).mono hW.size)
 have HWS : Hid (∀ W, Below w.heap.size w W → ∀ (j : Int), Calls Tryz.prog 118 #[.slice A l.length c, .int .i64 j, .int .i64 e] W fun e' w' => e' = .returned (gbad (Q00 (rest l j) e)) ∧ Below W.heap.size W w') := zh fun W hW j => Q1P A c l j e W ((HT.out.below hW).mono hW.size)
 have HG0 := zh (RowAt.new w 103 #[.int .i64 0, .int .i64 0, .string ⟨#[]⟩, .slice none 0 0, .slice none 0 0, .int .i64 0, .bool false, .int .i64 0])
 have HB0 : Hid (Below w.heap.size w (w.alloc (.cells #[.int .i64 0, .int .i64 0, .string ⟨#[]⟩, .slice none 0 0, .slice none 0 0, .int .i64 0, .bool false, .int .i64 0] 103))) := zh ((zB _ _).alloc (zL _) _)
 refine Q0e fun Q' hQ => ?_
 have HQ := zh hQ; clear hQ hT
 by_cases hk97 : kindOf (rest l i) none = 97
 ·have HLA : Hid (Q09 (d9 + 1) (rest l i) e = rowR (d9 + 1) (rest l i) e) := by
   obtain ⟨hi0, hr0, hx0⟩ := Q0Z h0 hk97 (by omega)
   rw [hr0, Qab hx0, Q4e hx0, Q4e hx0]; exact zh rfl
  have HC := zh (hLabel A c l i e _ ((HT.out.below HB0.out).mono HB0.out.size) hF h0 h1 hN)
  generalize hn : l.length = n at *
  have HN := zh hn; clear hn
  go_enter Tryz.func77, Tryz.ntmps77
  go_upto_region 1 with fail
  change Code.wp _ _ _ _ (w.alloc (.cells #[.int .i64 0, .int .i64 0, .string ⟨#[]⟩, .slice none 0 0, .slice none 0 0, .int .i64 0, .bool false, .int .i64 0] 103))
  generalize w.alloc (.cells #[.int .i64 0, .int .i64 0, .string ⟨#[]⟩, .slice none 0 0, .slice none 0 0, .int .i64 0, .bool false, .int .i64 0] 103) = w0 at *
  have HI97 := zh (HIS.out w0 HB0.out (i) 97 (by decide))
  rw [zE hk97] at HI97
  go_wp2_with fail
  refine HI97.out.mono ?_
  rintro e' w' ⟨rfl, hww⟩
  have hww := hww.symm
  subst hww
  clear HI97
  go_wp2_with fail
  refine HC.out.mono ?_
  rintro e' w1 ⟨z, n9, f, rfl, hgt, hb1⟩
  have HR1 := zh (HG0.out.below hb1 HG0.out.lt)
  have HB1 := zh (HB0.out.trans (hb1.mono HB0.out.size))
  have h0 := HG0.out.lt
  have HGT := zh hgt
  clear hb1 hgt
  go_wp2_with (first | (refine wpList_store_row rfl _ _ _ rfl w.heap.size (gv z n9 f) rfl rfl _ _ HR1.out (Q0I z n9 f) rfl (by simp [gv, Value.oneCell']) ?_))
  exact bodyPost_ret (Q04 rfl _ _ w.heap.size _ _ (0, 0) _ rfl (HR1.out.setRow (gv z n9 f)) Tryz.underlying103 rfl (Q0I z n9 f)) rfl (HQ.out _ _ ⟨z, n9, f, rfl, (HGT.out.keepN (w' := w1.setRow w.heap.size (gv z n9 f)) (Nat.le_of_lt h0) fun k hk hs => setRow_other _ _ k _ (by omega)).same HLA.out, HB1.out.trans (below_setRow (zL _) _)⟩)
 ·by_cases hk91 : kindOf (rest l i) none = 91
  ·obtain ⟨hi0, hr0, hx0⟩ := Q0Z h0 hk91 (by omega)
   obtain ⟨j, rfl⟩ := Int.eq_ofNat_of_zero_le h0
   have hj : j < l.length := by omega
   rw [show ((j : Int)).toNat = j by omega] at hr0 hx0
   have hFk : Fw (l.getD j r0).ks := hF.kid (Q1K hj)
   have hFk9 := hFk.1
   have hnd : (nodes (l.getD j r0).ks).length < (nodes (rest l (j : Int))).length := by rw [hr0]; exact Q32 (List.mem_cons_self ..)
   have HTK := zh (HT.out.kidAt hj)
   have HSM : Hid (∀ W, Below w.heap.size w W → _) := zh fun W (hW : Below w.heap.size w W) => Q7M hField (l.getD j r0).A (l.getD j r0).c (l.getD j r0).ks (l.getD j r0).e W ((HTK.out.below hW).mono hW.size) hFk (by omega)
   have HO6 : Hid (∀ W, Below w.heap.size w W → ∀ m : Int, 0 ≤ m → m ≤ (l.getD j r0).ks.length → _) := zh fun W (hW : Below w.heap.size w W) m (hm : 0 ≤ m) (hm2 : m ≤ (l.getD j r0).ks.length) => Q4p (nodes (l.getD j r0).ks).length (l.getD j r0).A (l.getD j r0).c (l.getD j r0).ks m (l.getD j r0).e W ((HTK.out.below hW).mono hW.size) hFk hm hm2 (Q7L hm)
   have HIK : Hid (∀ W, Below w.heap.size w W → ∀ (j2 : Int) (k : Nat), 0 < k → Calls Tryz.prog 117 #[.slice (l.getD j r0).A (l.getD j r0).ks.length (l.getD j r0).c, .int .i64 j2, .int .u8 (k : Int)] W fun e w' => e = .returned (.bool (decide (kindOf (rest (l.getD j r0).ks j2) none = k))) ∧ w' = W) := zh fun W hW j2 k hk => Q1H _ _ _ j2 k hk W ((HTK.out.below hW).mono hW.size)
   have HWK : Hid (∀ W, Below w.heap.size w W → ∀ (j2 : Int), Calls Tryz.prog 118 #[.slice (l.getD j r0).A (l.getD j r0).ks.length (l.getD j r0).c, .int .i64 j2, .int .i64 (l.getD j r0).e] W fun e' w' => e' = .returned (gbad (Q00 (rest (l.getD j r0).ks j2) (l.getD j r0).e)) ∧ Below W.heap.size W w') := zh fun W hW j2 => Q1P _ _ _ j2 _ W ((HTK.out.below hW).mono hW.size)
   have HRL := zh (Qaa (d := d9 + 1) (r := rest l ((j : Int) + 1)) (e := e) hx0)
   rw [← hr0] at HRL
   have HADV : Hid (Adv l (j : Int) ((j : Int) + 1)) := zh ⟨1, rfl, by rw [hr0]; simp⟩
   obtain ⟨bb, o, rfl, hbb, hc⟩ := HT.out.at (k := j) (by omega)
   obtain ⟨b0, b1, b2, b3, b4⟩ := hc j hj
   have B0 : ∀ W, Below w.heap.size w W → W.cell? ⟨bb, o + j * 5, none⟩ = _ := fun W hW => (hW.cell (p := ⟨bb, o + j * 5, none⟩) hbb).trans b0
   have B1 : ∀ W, Below w.heap.size w W → W.cell? ⟨bb, o + j * 5 + 1, none⟩ = _ := fun W hW => (hW.cell (p := ⟨bb, o + j * 5 + 1, none⟩) hbb).trans b1
   have B2 : ∀ W, Below w.heap.size w W → W.cell? ⟨bb, o + j * 5 + 2, none⟩ = _ := fun W hW => (hW.cell (p := ⟨bb, o + j * 5 + 2, none⟩) hbb).trans b2
   have B3 : ∀ W, Below w.heap.size w W → W.cell? ⟨bb, o + j * 5 + 3, none⟩ = _ := fun W hW => (hW.cell (p := ⟨bb, o + j * 5 + 3, none⟩) hbb).trans b3
   have B4 : ∀ W, Below w.heap.size w W → W.cell? ⟨bb, o + j * 5 + 4, none⟩ = _ := fun W hW => (hW.cell (p := ⟨bb, o + j * 5 + 4, none⟩) hbb).trans b4
   clear hc b0 b1 b2 b3 b4 hr0 hx0 hF hFk hnd HTK
   generalize l.getD j r0 = y at *
   obtain ⟨⟨yq, ys, xp⟩, YA, yc, ks, ye⟩ := y
   simp only [Tr.t, Tr.A, Tr.c, Tr.ks, Tr.e] at *
   generalize hkn : ks.length = kn at *
   have HKN := zh hkn; clear hkn
   generalize hn : l.length = n at *
   have HN := zh hn; clear hn
   go_enter Tryz.func77, Tryz.ntmps77
   go_upto_region 1 with fail
   change Code.wp _ _ _ _ (w.alloc (.cells #[.int .i64 0, .int .i64 0, .string ⟨#[]⟩, .slice none 0 0, .slice none 0 0, .int .i64 0, .bool false, .int .i64 0] 103))
   generalize w.alloc (.cells #[.int .i64 0, .int .i64 0, .string ⟨#[]⟩, .slice none 0 0, .slice none 0 0, .int .i64 0, .bool false, .int .i64 0] 103) = w0 at *
   have HI97 := zh (HIS.out w0 HB0.out ((j : Int)) 97 (by decide))
   rw [zF hk97] at HI97
   go_wp2_with fail
   refine HI97.out.mono ?_
   rintro e' w' ⟨rfl, hww⟩
   have hww := hww.symm
   subst hww
   clear HI97
   have HI91 := zh (HIS.out w0 HB0.out ((j : Int)) 91 (by decide))
   rw [zE hk91] at HI91
   go_wp2_with fail
   refine HI91.out.mono ?_
   rintro e' w' ⟨rfl, hww⟩
   have hww := hww.symm
   subst hww
   clear HI91
   have a0 := B0 w0 HB0.out
   have a1 := B1 w0 HB0.out
   have a2 := B2 w0 HB0.out
   have a3 := B3 w0 HB0.out
   have a4 := B4 w0 HB0.out
   have hjn : (j : Int) < (n : Int) := by omega
   go_upto_region 6 with fail
   have hb1 : Below w0.heap.size w0 (w0.alloc (.cells #[.int .u8 (yq : Int), .string ys, .int .i64 xp, .slice YA kn yc, .int .i64 ye] 55)) := (zB _ _).alloc (zL _) _
   have HG1 := zh (HG0.out.below hb1 HG0.out.lt)
   have HB1 := zh (HB0.out.trans (hb1.mono HB0.out.size))
   have HT1 := zh (RowAt.new w0 55 #[.int .u8 (yq : Int), .string ys, .int .i64 xp, .slice YA kn yc, .int .i64 ye])
   have hz0 := HG0.out.lt
   clear hb1 a0 a1 a2 a3 a4 B0 B1 B2 B3 B4 HG0 HB0
   generalize w0.alloc (.cells #[.int .u8 (yq : Int), .string ys, .int .i64 xp, .slice YA kn yc, .int .i64 ye] 55) = w1 at *
   generalize hg1 : w0.heap.size = g1 at *
   clear hg1
   obtain ⟨t0', t1', t2', t3', t4', _, _, _, _, _⟩ := row5 HT1.out
   have h1' : g1 < w1.heap.size := HT1.out.lt
   have hb2 : Below w1.heap.size w1 (w1.alloc (.cells #[.int .i64 10, .int .i64 xp, .string ⟨#[]⟩, .slice none 0 0, .slice none 0 0] 29)) := (zB _ _).alloc (zL _) _
   have HG2 := zh (HG1.out.below hb2 HG1.out.lt)
   have HB2 := zh (HB1.out.trans (hb2.mono HB1.out.size))
   have HT2 := zh (HT1.out.below hb2 h1')
   have HN2 := zh (RowAt.new w1 29 #[.int .i64 10, .int .i64 xp, .string ⟨#[]⟩, .slice none 0 0, .slice none 0 0])
   clear hb2
   go_upto_region 7 with fail
   generalize w1.alloc (.cells #[.int .i64 10, .int .i64 xp, .string ⟨#[]⟩, .slice none 0 0, .slice none 0 0] 29) = w2 at *
   generalize hg2 : w1.heap.size = g2 at *
   clear hg2 t0' t1' t2' t3' t4' HG1 HB1 HT1
   have h2' : g2 < w2.heap.size := HN2.out.lt
   obtain ⟨bK, hbK⟩ : ∃ bK : Bool, bK = (decide (0 < kn) && !decide (kindOf (rest ks 0) none = 124)) := ⟨_, rfl⟩
   have HBK := zh hbK; clear hbK
   go_upto_region 8 with fail
   go_cut [45] from 36 to 45 (fun v45 wx => v45 = .bool bK ∧ wx = w2)
   case first =>
        obtain ⟨t0', t1', t2', t3', t4', _, _, _, _, _⟩ := row5 HT2.out
        have HI0 := zh (HIK.out w2 HB2.out 0 124 (by decide))
        by_cases hk0 : 0 < kn
        ·have e0 : decide (0 < kn) = true := zE hk0
         have hb : bK = !decide (kindOf (rest ks 0) none = 124) := by rw [HBK.out, zE hk0]; rfl
         subst hb
         clear hk0
         go_wp2_with fail
         refine HI0.out.mono ?_
         rintro e' w' ⟨rfl, hww⟩
         have hww := hww.symm
         subst hww
         go_wp2_with fail
         go_meet
         case rel => exact ⟨rfl, rfl⟩
        ·have e0 : decide (0 < kn) = false := zF hk0
         have hb : bK = false := by rw [HBK.out, zF hk0]; rfl
         subst hb
         clear hk0
         go_wp2_with fail
         go_meet
         case rel => exact ⟨rfl, rfl⟩
   case rest =>
   obtain ⟨rfl, hwc⟩ := hcut
   have hwc := hwc.symm
   subst hwc
   go_upto_if 45 with fail
   go_cut [9, 10, 11] from 45 to 60 (fun v9 _ _ wx => ∃ (zs : List Nd) (X : Option Addr) (d m : Nat), v9 = .int .i64 (m : Int) ∧ m ≤ kn ∧ Hid (optR (Q0G (d9 + 1)) ks ye = .ok (TM.er zs, rest ks (m : Int))) ∧ Hid (RowAt wx g2 29 #[.int .i64 10, .int .i64 xp, .string ⟨#[]⟩, .slice none 0 0, .slice X zs.length d]) ∧ Hid (RowAt wx w.heap.size 103 #[.int .i64 0, .int .i64 0, .string ⟨#[]⟩, .slice none 0 0, .slice none 0 0, .int .i64 0, .bool false, .int .i64 0]) ∧ Hid (RowAt wx g1 55 #[.int .u8 (yq : Int), .string ys, .int .i64 xp, .slice YA kn yc, .int .i64 ye]) ∧ Hid (Below w.heap.size w wx) ∧ zs.length ≤ d ∧ Hid (SlC wx (fun k => w.heap.size < k ∧ k ≠ g2) X (ncs zs)) ∧ Hid (DeepN wx (fun k => w.heap.size < k ∧ k ≠ g2) zs))
   case first =>
        cases bK with
        | false =>
          have hop : ks = [] ∨ kindOf ks none = 124 := by
           have h := HBK.out
           rw [Q1j] at h
           by_cases hz : ks = []
           ·exact .inl hz
           ·right
            have hl : 0 < kn := by have := HKN.out; have := List.length_pos_iff.2 hz; omega
            rw [zE hl] at h
            simpa using h.symm
          have HOP : Hid (optR (Q0G (d9 + 1)) ks ye = .ok (TM.er [], rest ks ((0 : Nat) : Int))) := zh (by rw [Qad hop, show ((0 : Nat) : Int) = 0 from rfl, Q1j, TM.er])
          clear hop
          go_wp2_with fail
          go_meet
          case rel => exact ⟨[], none, 0, 0, rfl, Nat.zero_le _, HOP.out, HN2.out, HG2.out, HT2.out, HB2.out, zL _, SlC.nil _ _ _, DeepN.nil _ _⟩
        | true =>
          have hop : ks ≠ [] ∧ kindOf ks none ≠ 124 := by
           have h := HBK.out
           rw [Q1j] at h
           by_cases hz : kindOf ks none = 124
           ·rw [zE hz] at h; simp at h
           ·refine ⟨fun h2 => ?_, hz⟩
            have h3 : ¬ 0 < kn := by have := HKN.out; rw [h2] at this; simp at this; omega
            rw [zF h3] at h; simp at h
          have HOP := zh (Qae (rd := Q0G (d9 + 1)) (e := ye) hop.1 hop.2)
          have HSC := zh (HSM.out w2 HB2.out)
          obtain ⟨t0', t1', t2', t3', t4', _, _, _, _, _⟩ := row5 HT2.out
          clear hop
          go_wp2_with fail
          refine HSC.out.mono ?_
          rintro e' w5 ⟨out, z, nx, f, rfl, ⟨p, rfl, rfl, her⟩ | ⟨rfl, zs, X, d, rfl, hd, hlz, hst, hsl, hdz⟩, hb5⟩
          ·have HST : Hid (rowR (d9 + 1) (rest l (j : Int)) e = .error p) := zh (by rw [HRL.out, Qaf (by rw [HOP.out, her])])
           have HG5 := zh (HG2.out.below hb5 HG2.out.lt)
           have HB5 := zh (HB2.out.trans (hb5.mono HB2.out.size))
           have hb6 : Below w5.heap.size w5 (w5.alloc (.cells #[.int .i64 z.k, .int .i64 z.p, .string z.s, .slice z.A z.ws.length z.c, .slice z.B z.ks.length z.d, .int .i64 nx, .bool true, .int .i64 p] 103)) := (zB _ _).alloc (zL _) _
           have HG6 := zh (HG5.out.below hb6 HG5.out.lt)
           have HB6 := zh (HB5.out.trans (hb6.mono HB5.out.size))
           have HGG := zh (RowAt.new w5 103 #[.int .i64 z.k, .int .i64 z.p, .string z.s, .slice z.A z.ws.length z.c, .slice z.B z.ks.length z.d, .int .i64 nx, .bool true, .int .i64 p])
           clear hb5 hb6 her HG5 HB5 t0' t1' t2' t3' t4'
           unfold gv
           simp only [Option.isSome_some, Option.getD_some]
           go_upto_region 10 with fail
           generalize w5.alloc (.cells #[.int .i64 z.k, .int .i64 z.p, .string z.s, .slice z.A z.ws.length z.c, .slice z.B z.ks.length z.d, .int .i64 nx, .bool true, .int .i64 p] 103) = w6 at *
           obtain ⟨⟨g0, g1', g2', g3, g4, g5, g6, g7⟩, ff⟩ := row8 HGG.out
           obtain ⟨⟨k0, k1, k2, k3, k4, k5, k6, k7⟩, fk⟩ := row8 HG6.out
           go_wp2_with fail
           change bodyPost _ _ _ _ _ (set8 w6 w.heap.size (.int .i64 z.k) (.int .i64 z.p) (.string z.s) (.slice z.A z.ws.length z.c) (.slice z.B z.ks.length z.d) (.int .i64 nx) (.bool true) (.int .i64 p))
           exact bodyPost_ret (Q04 rfl _ _ w.heap.size _ _ (0, 0) _ rfl (Q0t HG6.out) Tryz.underlying103 rfl (Q0k _ _ _ _ _ _ _ _)) rfl (HQ.out _ _ ⟨z, nx, some p, rfl, .inl ⟨p, rfl, HST.out⟩, HB6.out.trans (Q0u (zL _))⟩)
          ·have hr9 : optR (Q0G (d9 + 1)) ks ye = .ok (TM.er zs, rest ks nx) := by
            rw [HOP.out]
            rcases hst.cases with ⟨p, h, _⟩ | ⟨_, _, h⟩
            ·cases h
            ·rwa [Q1j] at h
           obtain ⟨h5a, h5b⟩ := Adv.range hst.1 (Int.le_refl _) (by omega)
           rw [HKN.out] at h5b
           obtain ⟨m, rfl⟩ := Int.eq_ofNat_of_zero_le h5a
           have HOP2 := zh hr9
           have hz2 := hb5.size
           have hb6 : Below w5.heap.size w5 (w5.alloc (.cells #[.int .i64 z.k, .int .i64 z.p, .string z.s, .slice z.A z.ws.length z.c, .slice z.B z.ks.length z.d, .int .i64 (m : Int), .bool false, .int .i64 0] 103)) := (zB _ _).alloc (zL _) _
           have HG6 := zh ((HG2.out.below hb5 HG2.out.lt).below hb6 (zT HG2.out.lt hz2))
           have HT6 := zh ((HT2.out.below hb5 HT2.out.lt).below hb6 (zT HT2.out.lt hz2))
           have HN6 := zh ((HN2.out.below hb5 HN2.out.lt).below hb6 (zT HN2.out.lt hz2))
           have HB6 := zh ((HB2.out.trans (hb5.mono HB2.out.size)).trans (hb6.mono (zM HB2.out.size hz2)))
           have HGG := zh (RowAt.new w5 103 #[.int .i64 z.k, .int .i64 z.p, .string z.s, .slice z.A z.ws.length z.c, .slice z.B z.ks.length z.d, .int .i64 (m : Int), .bool false, .int .i64 0])
           have HSL6 : Hid (SlC (w5.alloc (.cells #[.int .i64 z.k, .int .i64 z.p, .string z.s, .slice z.A z.ws.length z.c, .slice z.B z.ks.length z.d, .int .i64 (m : Int), .bool false, .int .i64 0] 103)) (fun k => w.heap.size < k ∧ k ≠ g2) X (ncs zs)) := zh ((hsl.weak (ok' := fun k => w.heap.size < k ∧ k ≠ g2) fun k _ h => ⟨by omega, by omega⟩).keep9 fun k hk _ => hb6.block k hk)
           have HDZ6 : Hid (DeepN (w5.alloc (.cells #[.int .i64 z.k, .int .i64 z.p, .string z.s, .slice z.A z.ws.length z.c, .slice z.B z.ks.length z.d, .int .i64 (m : Int), .bool false, .int .i64 0] 103)) (fun k => w.heap.size < k ∧ k ≠ g2) zs) := zh ((hdz.weak (ok' := fun k => w.heap.size < k ∧ k ≠ g2) fun k _ h => ⟨by omega, by omega⟩).keep9 fun k hk _ => hb6.block k hk)
           clear hb5 hb6 hst hsl hdz hr9 HG2 HT2 HN2 HB2 HOP t0' t1' t2' t3' t4' hlz
           unfold gv
           simp only [Option.isSome_none, Option.getD_none]
           go_upto_region 10 with fail
           generalize w5.alloc (.cells #[.int .i64 z.k, .int .i64 z.p, .string z.s, .slice z.A z.ws.length z.c, .slice z.B z.ks.length z.d, .int .i64 (m : Int), .bool false, .int .i64 0] 103) = w6 at *
           have h6 : g2 < w6.heap.size := HN6.out.lt
           obtain ⟨⟨g0, g1', g2', g3, g4, g5, g6, g7⟩, ff⟩ := row8 HGG.out
           obtain ⟨n0', n1', n2', n3', n4', u0, u1, u2, u3, u4⟩ := row5 HN6.out
           have hne : g2 ≠ w5.heap.size := by omega
           have hne2 : w.heap.size ≠ g2 := by omega
           have hne3 : g1 ≠ g2 := by omega
           have HNz : Hid (RowAt (w6.setCell ⟨g2, 4, none⟩ (.slice X zs.length d)) g2 29 #[.int .i64 10, .int .i64 xp, .string ⟨#[]⟩, .slice none 0 0, .slice X zs.length d]) := zh (HN6.out.put 4 (.slice X zs.length d))
           have HGz := zh (HG6.out.far (p := ⟨g2, 4, none⟩) (by show g2 ≠ w.heap.size; omega) (.slice X zs.length d))
           have HTz := zh (HT6.out.far (p := ⟨g2, 4, none⟩) (by show g2 ≠ g1; omega) (.slice X zs.length d))
           have HBz := zh (HB6.out.setCell (p := ⟨g2, 4, none⟩) (by show w.heap.size ≤ g2; omega) (.slice X zs.length d))
           have HSLz := zh (HSL6.out.setCell9 (p := ⟨g2, 4, none⟩) (fun k hk => hk.2) (.slice X zs.length d))
           have HDZz := zh (HDZ6.out.setCell9 (p := ⟨g2, 4, none⟩) (fun k hk => hk.2) (.slice X zs.length d))
           go_wp2_with fail
           go_meet
           case rel => exact ⟨zs, X, d, m, rfl, by omega, HOP2.out, HNz.out, HGz.out, HTz.out, HBz.out, hd, HSLz.out, HDZz.out⟩
   case rest =>
        obtain ⟨zs, X, d, m, rfl, hm, HOP2, HN3, HG3, HT3, HB3, hd, HSL3, HDZ3⟩ := hcut
        clear HG2 HB2 HT2 HN2 HBK
        have hg2 : g2 < wc.heap.size := HN3.out.lt
        obtain ⟨t0', t1', t2', t3', t4', _, _, _, _, _⟩ := row5 HT3.out
        obtain ⟨b14, hb14, HI14⟩ : ∃ b : Bool, (b = true ↔ kindOf (rest ks (m : Int)) none = 124) ∧ Hid (Calls Tryz.prog 117 #[.slice YA kn yc, .int .i64 (m : Int), .int .u8 124] wc fun e w' => e = .returned (.bool b) ∧ w' = wc) := ⟨_, decide_eq_true_iff, HIK.out wc HB3.out (m : Int) 124 (by decide)⟩
        have HB14 := zh hb14; clear hb14
        go_wp2_with fail
        refine HI14.out.mono ?_
        rintro e' w' ⟨rfl, hww⟩
        have hww := hww.symm
        subst hww
        go_upto_if 64 with fail
        clear HI14
        go_cut [9, 12] from 61 to 81 (fun v9 _ wx => ∃ (ws : List Wd) (Y : Option Addr) (dd m2 : Nat), v9 = .int .i64 (m2 : Int) ∧ m2 ≤ kn ∧ Hid (Q0Y (d9 + 1) ks ye = .ok ((TM.er zs, ws), rest ks (m2 : Int))) ∧ Hid (RowAt wx g2 29 #[.int .i64 10, .int .i64 xp, .string ⟨#[]⟩, .slice Y ws.length dd, .slice X zs.length d]) ∧ ws.length ≤ dd ∧ Hid (SlC wx (fun k => w.heap.size < k ∧ k ≠ g2) Y (wcs ws)) ∧ Hid (RowAt wx w.heap.size 103 #[.int .i64 0, .int .i64 0, .string ⟨#[]⟩, .slice none 0 0, .slice none 0 0, .int .i64 0, .bool false, .int .i64 0]) ∧ Hid (RowAt wx g1 55 #[.int .u8 (yq : Int), .string ys, .int .i64 xp, .slice YA kn yc, .int .i64 ye]) ∧ Hid (Below w.heap.size w wx) ∧ zs.length ≤ d ∧ Hid (SlC wx (fun k => w.heap.size < k ∧ k ≠ g2) X (ncs zs)) ∧ Hid (DeepN wx (fun k => w.heap.size < k ∧ k ≠ g2) zs))
        case first =>
         cases b14 with
         | true =>
           have hk : kindOf (rest ks (m : Int)) none = 124 := HB14.out.1 rfl
           obtain ⟨hm1, hr1, hx1⟩ := Q0Z (by omega) hk (by omega)
           rw [HKN.out] at hm1
           have hop := HOP2.out
           rw [hr1] at hop
           have HIN := zh (Qah hop hx1)
           have HON := zh (HO6.out wc HB3.out ((m : Int) + 1) (by omega) (by omega))
           clear hk hr1 hx1 hop
           go_wp2_with fail
           refine HON.out.mono ?_
           rintro e' w5 ⟨z, nx, f, rfl, ⟨p, rfl, her⟩ | ⟨rfl, hst, hdz⟩, hb5⟩
           ·have HST : Hid (rowR (d9 + 1) (rest l (j : Int)) e = .error p) := zh (by rw [HRL.out, HIN.out, Qaj her]; rfl)
            have HG5 := zh (HG3.out.below hb5 HG3.out.lt)
            have HB5 := zh (HB3.out.trans (hb5.mono HB3.out.size))
            have hb6 : Below w5.heap.size w5 (w5.alloc (.cells #[.int .i64 z.k, .int .i64 z.p, .string z.s, .slice z.A z.ws.length z.c, .slice z.B z.ks.length z.d, .int .i64 nx, .bool true, .int .i64 p] 103)) := (zB _ _).alloc (zL _) _
            have HG6 := zh (HG5.out.below hb6 HG5.out.lt)
            have HB6 := zh (HB5.out.trans (hb6.mono HB5.out.size))
            have HGG := zh (RowAt.new w5 103 #[.int .i64 z.k, .int .i64 z.p, .string z.s, .slice z.A z.ws.length z.c, .slice z.B z.ks.length z.d, .int .i64 nx, .bool true, .int .i64 p])
            clear hb5 hb6 her HG5 HB5 t0' t1' t2' t3' t4'
            unfold gv
            simp only [Option.isSome_some, Option.getD_some]
            go_upto_region 16 with fail
            generalize w5.alloc (.cells #[.int .i64 z.k, .int .i64 z.p, .string z.s, .slice z.A z.ws.length z.c, .slice z.B z.ks.length z.d, .int .i64 nx, .bool true, .int .i64 p] 103) = w6 at *
            obtain ⟨⟨g0, g1', g2', g3, g4, g5, g6, g7⟩, ff⟩ := row8 HGG.out
            obtain ⟨⟨k0, k1, k2, k3, k4, k5, k6, k7⟩, fk⟩ := row8 HG6.out
            go_wp2_with fail
            change bodyPost _ _ _ _ _ (set8 w6 w.heap.size (.int .i64 z.k) (.int .i64 z.p) (.string z.s) (.slice z.A z.ws.length z.c) (.slice z.B z.ks.length z.d) (.int .i64 nx) (.bool true) (.int .i64 p))
            exact bodyPost_ret (Q04 rfl _ _ w.heap.size _ _ (0, 0) _ rfl (Q0t HG6.out) Tryz.underlying103 rfl (Q0k _ _ _ _ _ _ _ _)) rfl (HQ.out _ _ ⟨z, nx, some p, rfl, .inl ⟨p, rfl, HST.out⟩, HB6.out.trans (Q0u (zL _))⟩)
           ·have h9 : wnR (rest ks ((m : Int) + 1)) ye = .ok (er1 z, rest ks nx) := by
             rcases hst.cases with ⟨p, h, _⟩ | ⟨_, _, h⟩
             ·cases h
             ·exact h
            obtain ⟨h5a, h5b⟩ := Adv.range hst.1 (by omega) (by have := HKN.out; omega)
            rw [HKN.out] at h5b
            obtain ⟨m2, rfl⟩ := Int.eq_ofNat_of_zero_le (show 0 ≤ nx by omega)
            have HIN2 : Hid (Q0Y (d9 + 1) ks ye = .ok ((TM.er zs, [nwd z]), rest ks (m2 : Int))) := zh (by rw [HIN.out, Qai h9]; rfl)
            have hz2 := hb5.size
            have hb6 : Below w5.heap.size w5 (w5.alloc (.cells #[.int .i64 z.k, .int .i64 z.p, .string z.s, .slice z.A z.ws.length z.c, .slice z.B z.ks.length z.d, .int .i64 (m2 : Int), .bool false, .int .i64 0] 103)) := (zB _ _).alloc (zL _) _
            have hb36 := hb5.trans (hb6.mono hz2)
            have HG6 := zh (HG3.out.below hb36 HG3.out.lt)
            have HT6 := zh (HT3.out.below hb36 HT3.out.lt)
            have HN6 := zh (HN3.out.below hb36 HN3.out.lt)
            have HB6 := zh (HB3.out.trans (hb36.mono HB3.out.size))
            have HGG := zh (RowAt.new w5 103 #[.int .i64 z.k, .int .i64 z.p, .string z.s, .slice z.A z.ws.length z.c, .slice z.B z.ks.length z.d, .int .i64 (m2 : Int), .bool false, .int .i64 0])
            have HSL6 := zh (HSL3.out.keep9 fun k hk _ => hb36.block k hk)
            have HDZ6 := zh (HDZ3.out.keep9 fun k hk _ => hb36.block k hk)
            clear hb5 hb6 hb36 hst hdz h9 HG3 HT3 HN3 HB3 HIN t0' t1' t2' t3' t4' HSL3 HDZ3
            unfold gv
            simp only [Option.isSome_none, Option.getD_none]
            go_upto_region 16 with fail
            generalize w5.alloc (.cells #[.int .i64 z.k, .int .i64 z.p, .string z.s, .slice z.A z.ws.length z.c, .slice z.B z.ks.length z.d, .int .i64 (m2 : Int), .bool false, .int .i64 0] 103) = w6 at *
            have h6 : g2 < w6.heap.size := HN6.out.lt
            have h65 : w5.heap.size < w6.heap.size := HGG.out.lt
            obtain ⟨⟨g0, g1', g2', g3, g4, g5, g6, g7⟩, ff⟩ := row8 HGG.out
            have HNM : Hid (∀ W, W = w6.alloc (.cells [.int .i64 z.k, .int .i64 z.p, .string z.s, .slice z.A z.ws.length z.c, .slice z.B z.ks.length z.d].toArray 29) → _) := zh fun W (hW : W = w6.alloc (.cells [.int .i64 z.k, .int .i64 z.p, .string z.s, .slice z.A z.ws.length z.c, .slice z.B z.ks.length z.d].toArray 29)) => Q4o (some ⟨w6.heap.size, 0, none⟩) 1 [z] W.heap.size W (zL _) (by simp) (by rw [hW]; exact Qal w6 z)
            have hb7 : Below w6.heap.size w6 (w6.alloc (.cells [.int .i64 z.k, .int .i64 z.p, .string z.s, .slice z.A z.ws.length z.c, .slice z.B z.ks.length z.d].toArray 29)) := (zB _ _).alloc (zL _) _
            go_wp2_with fail
            refine (HNM.out _ rfl).mono ?_
            rintro e' w8 ⟨Y, dd, rfl, hdd, hsy, hb8⟩
            have hz7 := hb7.size
            have hb68 := hb7.trans (hb8.mono hz7)
            have HG8 := zh (HG6.out.below hb68 (by omega))
            have HT8 := zh (HT6.out.below hb68 HT6.out.lt)
            have HN8 := zh (HN6.out.below hb68 h6)
            have HV8 := zh (HGG.out.below hb68 h65)
            have HB8 := zh (HB6.out.trans (hb68.mono HB6.out.size))
            have HSL8 := zh (HSL6.out.keep9 fun k hk _ => hb68.block k hk)
            have HDZ8 := zh (HDZ6.out.keep9 fun k hk _ => hb68.block k hk)
            have HSY : Hid (SlC w8 (fun k => w.heap.size < k ∧ k ≠ g2) Y (wcs [nwd z])) := zh (hsy.weak fun k _ h => ⟨by omega, by omega⟩)
            clear hb7 hb8 hb68 hsy HNM HG6 HT6 HN6 HGG HB6 HSL6 HDZ6 g0 g1' g2' g3 g4 g5 g6 g7 ff
            obtain ⟨⟨g0, g1', g2', g3, g4, g5, g6, g7⟩, ff⟩ := row8 HV8.out
            obtain ⟨n0', n1', n2', n3', n4', u0, u1, u2, u3, u4⟩ := row5 HN8.out
            have hne : g2 ≠ w5.heap.size := by omega
            have HNz : Hid (RowAt (w8.setCell ⟨g2, 3, none⟩ (.slice Y [z].length dd)) g2 29 #[.int .i64 10, .int .i64 xp, .string ⟨#[]⟩, .slice Y [z].length dd, .slice X zs.length d]) := zh (HN8.out.put 3 (.slice Y [z].length dd))
            have HGz := zh (HG8.out.far (p := ⟨g2, 3, none⟩) (by show g2 ≠ w.heap.size; omega) (.slice Y [z].length dd))
            have HTz := zh (HT8.out.far (p := ⟨g2, 3, none⟩) (by show g2 ≠ g1; omega) (.slice Y [z].length dd))
            have HBz := zh (HB8.out.setCell (p := ⟨g2, 3, none⟩) (by show w.heap.size ≤ g2; omega) (.slice Y [z].length dd))
            have HSLz := zh (HSL8.out.setCell9 (p := ⟨g2, 3, none⟩) (fun k hk => hk.2) (.slice Y [z].length dd))
            have HDZz := zh (HDZ8.out.setCell9 (p := ⟨g2, 3, none⟩) (fun k hk => hk.2) (.slice Y [z].length dd))
            have HSYz := zh (HSY.out.setCell9 (p := ⟨g2, 3, none⟩) (fun k hk => hk.2) (.slice Y [z].length dd))
            go_wp2_with fail
            go_meet
            case rel => exact ⟨[nwd z], Y, dd, m2, rfl, by omega, HIN2.out, HNz.out, hdd, HSYz.out, HGz.out, HTz.out, HBz.out, hd, HSLz.out, HDZz.out⟩
         | false =>
           have hk : ¬ kindOf (rest ks (m : Int)) none = 124 := fun h => by have := HB14.out.2 h; cases this
           have HIN2 := zh (Qag HOP2.out hk)
           clear hk
           go_wp2_with fail
           go_meet
           case rel => exact ⟨[], none, 0, m, rfl, hm, HIN2.out, HN3.out, zL _, SlC.nil _ _ _, HG3.out, HT3.out, HB3.out, hd, HSL3.out, HDZ3.out⟩
        case rest =>
         clear HN3 HG3 HT3 HB3 HSL3 HDZ3 hg2 t0' t1' t2' t3' t4' HOP2 hm
         obtain ⟨ws, Y, dd, m2, rfl, hm2, HIN, HN4, hdd, HSY4, HG4, HT4, HB4, hd, HSL4, HDZ4⟩ := hcut
         obtain ⟨t0', t1', t2', t3', t4', _, _, _, _, _⟩ := row5 HT4.out
         have hrs : rest ks (m2 : Int) = ks.drop m2 := by unfold rest; rw [if_neg (by omega), Int.toNat_natCast]
         by_cases hlt : m2 < kn
         ·have e0 : decide (m2 < kn) = true := zE hlt
          have HER : Hid (rowR (d9 + 1) (rest l (j : Int)) e = .error (Q00 (rest ks (m2 : Int)) ye)) := by
           rw [HRL.out, HIN.out, hrs]
           cases hq : ks.drop m2 with
           | nil =>
             have h1 := congrArg List.length hq
             rw [List.length_drop, zA9] at h1
             have h2 := HKN.out
             omega
           | cons y r => exact zh rfl
          have HWR := zh (HWK.out wc HB4.out (m2 : Int))
          generalize Q00 (rest ks (m2 : Int)) ye = p at *
          clear hrs hlt
          go_wp2_with fail
          refine HWR.out.mono ?_
          rintro e' w9 ⟨rfl, hb9⟩
          have HR9 := zh (HG4.out.below hb9 HG4.out.lt)
          have HB9 := zh (HB4.out.trans (hb9.mono HB4.out.size))
          clear hb9
          obtain ⟨⟨k0, k1, k2, k3, k4, k5, k6, k7⟩, fk⟩ := row8 HR9.out
          unfold gbad
          go_wp2_with fail
          change bodyPost _ _ _ _ _ (set8 w9 w.heap.size (.int .i64 0) (.int .i64 0) (.string ⟨#[]⟩) (.slice none 0 0) (.slice none 0 0) (.int .i64 0) (.bool true) (.int .i64 p))
          exact bodyPost_ret (Q04 rfl _ _ w.heap.size _ _ (0, 0) _ rfl (Q0t HR9.out) Tryz.underlying103 rfl (Q0k _ _ _ _ _ _ _ _)) rfl (HQ.out _ _ ⟨n0, 0, some p, rfl, .inl ⟨p, rfl, HER.out⟩, HB9.out.trans (Q0u (zL _))⟩)
         ·have e0 : decide (m2 < kn) = false := zF hlt
          have HST : Hid (Step (rowR (d9 + 1)) l (j : Int) e none (er1 (Nd.mk 10 xp TM.e0 Y dd ws X d zs)) ((j : Int) + 1) none) := zh (Step.ok HADV.out (by
           have hnil : ks.drop m2 = [] := List.drop_eq_nil_of_le (by have := HKN.out; omega)
           rw [HRL.out, HIN.out, hrs, hnil]
           simp [er1, nd, Nd.k, Nd.p, Nd.s, Nd.ws, Nd.ks]))
          obtain ⟨n0', n1', n2', n3', n4', u0, u1, u2, u3, u4⟩ := row5 HN4.out
          obtain ⟨⟨k0, k1, k2, k3, k4, k5, k6, k7⟩, fk⟩ := row8 HG4.out
          clear hrs hlt
          go_wp2_with fail
          change bodyPost _ _ _ _ _ (set8 wc w.heap.size (.int .i64 10) (.int .i64 xp) (.string ⟨#[]⟩) (.slice Y ws.length dd) (.slice X zs.length d) (.int .i64 ((j : Int) + 1)) (.bool false) (.int .i64 0))
          have hd9 := (Qak (k := 10) (p := xp) (s := TM.e0) hdd HSY4.out hd HSL4.out HDZ4.out).keep9 (wb := set8 wc w.heap.size (.int .i64 10) (.int .i64 xp) (.string ⟨#[]⟩) (.slice Y ws.length dd) (.slice X zs.length d) (.int .i64 ((j : Int) + 1)) (.bool false) (.int .i64 0)) fun k _ hk => Q1k (by omega)
          exact bodyPost_ret (Q04 rfl _ _ w.heap.size _ _ (0, 0) _ rfl (Q0t HG4.out) Tryz.underlying103 rfl (Q0k _ _ _ _ _ _ _ _)) rfl (HQ.out _ _ ⟨Nd.mk 10 xp TM.e0 Y dd ws X d zs, (j : Int) + 1, none, rfl, .inr ⟨rfl, HST.out, hd9.weak fun k _ h => by omega⟩, HB4.out.trans (Q0u (zL _))⟩)
  ·have HER : Hid (rowR (d9 + 1) (rest l i) e = .error (Q00 (rest l i) e)) := zh (Qac hk97 hk91)
   generalize hn : l.length = n at *
   have HN := zh hn; clear hn
   go_enter Tryz.func77, Tryz.ntmps77
   go_upto_region 1 with fail
   change Code.wp _ _ _ _ (w.alloc (.cells #[.int .i64 0, .int .i64 0, .string ⟨#[]⟩, .slice none 0 0, .slice none 0 0, .int .i64 0, .bool false, .int .i64 0] 103))
   generalize w.alloc (.cells #[.int .i64 0, .int .i64 0, .string ⟨#[]⟩, .slice none 0 0, .slice none 0 0, .int .i64 0, .bool false, .int .i64 0] 103) = w0 at *
   have HI97 := zh (HIS.out w0 HB0.out (i) 97 (by decide))
   rw [zF hk97] at HI97
   go_wp2_with fail
   refine HI97.out.mono ?_
   rintro e' w' ⟨rfl, hww⟩
   have hww := hww.symm
   subst hww
   clear HI97
   have HI91 := zh (HIS.out w0 HB0.out (i) 91 (by decide))
   rw [zF hk91] at HI91
   go_wp2_with fail
   refine HI91.out.mono ?_
   rintro e' w' ⟨rfl, hww⟩
   have hww := hww.symm
   subst hww
   clear HI91
   have HWR := zh (HWS.out w0 HB0.out (i))
   go_wp2_with fail
   refine HWR.out.mono ?_
   rintro e' w9 ⟨rfl, hb9⟩
   have HR9 := zh (HG0.out.below hb9 HG0.out.lt)
   have HB9 := zh (HB0.out.trans (hb9.mono HB0.out.size))
   clear hb9
   obtain ⟨⟨k0, k1, k2, k3, k4, k5, k6, k7⟩, fk⟩ := row8 HR9.out
   unfold gbad
   generalize Q00 (rest l (i)) e = p at *
   go_wp2_with fail
   change bodyPost _ _ _ _ _ (set8 w9 w.heap.size (.int .i64 0) (.int .i64 0) (.string ⟨#[]⟩) (.slice none 0 0) (.slice none 0 0) (.int .i64 0) (.bool true) (.int .i64 p))
   exact bodyPost_ret (Q04 rfl _ _ w.heap.size _ _ (0, 0) _ rfl (Q0t HR9.out) Tryz.underlying103 rfl (Q0k _ _ _ _ _ _ _ _)) rfl (HQ.out _ _ ⟨n0, 0, some p, rfl, .inl ⟨p, rfl, HER.out⟩, HB9.out.trans (Q0u (zL _))⟩)
theorem Q58 : ∀ d, Gc 121 (Q0a (d + 1)) d
 | 0 => Q77 0 (fun d8 h => by omega) fun N => Q7a (Q76 N)
 | d + 1 => Q77 (d + 1) (fun d8 h => by
     obtain rfl : d = d8 := by omega
     exact Qbf (Q58 d)) fun N => Q7a (Q76 N)
theorem Q43 : ∀ d, Gc 76 (Q09 (d + 1)) d
 | 0 => Q7d 0 (fun d8 h => by omega) (Q58 0)
 | d + 1 => Q7d (d + 1) (fun d8 h => by
     obtain rfl : d = d8 := by omega
     exact Qbg (Q43 d)) (Q58 (d + 1))
theorem Qan (d : Nat) : Gc 77 (rowR (d + 1)) d := Qam d (Q43 d) (Qbh (Qa9 d (Qbi (Q43 d))))
end
section
namespace CM
open LX TR TM
structure Pw where
 a : Wd
 b : Wd
def Q1f (x : Pw) : List Value := [.string x.a.s, .int .i64 x.a.p, .string x.b.s, .int .i64 x.b.p]
def pwv (x : Pw) : Array Value := #[.string x.a.s, .int .i64 x.a.p, .string x.b.s, .int .i64 x.b.p]
theorem Q2N (x : Pw) : (Q1f x).length = 4 := rfl
def pwcs (l : List Pw) : List Value := l.flatMap Q1f
theorem Q6K (a b : List Pw) : pwcs (a ++ b) = pwcs a ++ pwcs b := by simp [pwcs]
theorem Q6L (x : Pw) : pwcs [x] = Q1f x := by simp [pwcs]
structure Cm where
 op : Int
 p : Int
 n : Wd
 A : Option Addr
 c : Nat
 ws : List Wd
 B : Option Addr
 d : Nat
 ps : List Pw
 pp : Int
 l : Nd
 r : Nd
def c0 : Cm := ⟨0, 0, w0, none, 0, [], none, 0, [], 0, n0, n0⟩
def erc (x : Cm) : Cm := ⟨x.op, x.p, x.n, none, 0, x.ws, none, 0, x.ps, x.pp, er1 x.l, er1 x.r⟩
def cv (x : Cm) : Array Value := #[.int .i64 x.op, .int .i64 x.p, .string x.n.s, .int .i64 x.n.p, .slice x.A x.ws.length x.c, .slice x.B x.ps.length x.d, .int .i64 x.pp,
 .int .i64 x.l.k, .int .i64 x.l.p, .string x.l.s, .slice x.l.A x.l.ws.length x.l.c, .slice x.l.B x.l.ks.length x.l.d, .int .i64 x.r.k, .int .i64 x.r.p, .string x.r.s, .slice x.r.A x.r.ws.length x.r.c, .slice x.r.B x.r.ks.length x.r.d]
def kws : List ByteArray := [⟨#[]⟩, ⟨#[99, 104, 97, 105, 110]⟩, ⟨#[112, 111, 119, 101, 114]⟩, ⟨#[112, 114, 111, 100, 117, 99, 116]⟩, ⟨#[103, 114, 105, 100]⟩, ⟨#[116, 97, 98, 108, 101]⟩, ⟨#[108, 97, 98, 101, 108]⟩, ⟨#[114, 111, 119]⟩, ⟨#[108, 101, 113]⟩, ⟨#[114, 111, 119, 101, 113]⟩, ⟨#[108, 97, 99, 107, 115]⟩, ⟨#[112, 117, 115, 104]⟩, ⟨#[112, 111, 112]⟩, ⟨#[99, 104, 101, 99, 107]⟩, ⟨#[99, 111, 114, 101]⟩, ⟨#[119, 104, 121]⟩]
def lts : List ByteArray := [⟨#[]⟩, ⟨#[110, 119]⟩, ⟨#[110, 119]⟩, ⟨#[110, 119]⟩, ⟨#[110, 119, 112]⟩, ⟨#[110, 119, 112]⟩, ⟨#[110, 119]⟩, ⟨#[110, 119]⟩, ⟨#[110, 116, 116]⟩, ⟨#[110, 114, 114]⟩, ⟨#[110, 102]⟩, ⟨#[]⟩, ⟨#[]⟩, ⟨#[]⟩, ⟨#[]⟩, ⟨#[110]⟩]
def wrd (op : Int) : ByteArray := if 0 ≤ op ∧ op < 16 then kws.getD op.toNat ⟨#[]⟩ else ⟨#[]⟩
def ltr (op : Int) : ByteArray := if 0 ≤ op ∧ op < 16 then lts.getD op.toNat ⟨#[]⟩ else ⟨#[]⟩
def ltl (op : Int) : List Nat := (lst (ltr op)).map (·.toNat)
def numOf (s : ByteArray) : Nat := (kws.findIdx? fun x => decide (x = s)).getD 0
theorem Q44 {op : Int} (h : ¬ (0 ≤ op ∧ op < 16)) : wrd op = ⟨#[]⟩ := by unfold wrd; rw [if_neg h]
theorem Q3i {op : Int} (h : ¬ (0 ≤ op ∧ op < 16)) : ltr op = ⟨#[]⟩ := by unfold ltr; rw [if_neg h]
theorem Q45 {k : Nat} (h : k < 16) : wrd k = kws.getD k ⟨#[]⟩ := by unfold wrd; rw [if_pos ⟨by omega, by omega⟩, Int.toNat_natCast]
theorem Q6M {k : Nat} (h : k < 16) : ltr k = lts.getD k ⟨#[]⟩ := by unfold ltr; rw [if_pos ⟨by omega, by omega⟩, Int.toNat_natCast]
theorem Qao : ∀ i : Fin 16, ∀ j : Fin 16, kws.getD i.val ⟨#[]⟩ = kws.getD j.val ⟨#[]⟩ → i = j := by decide
theorem Q3j (s : ByteArray) : numOf s < 16 := by
 unfold numOf
 cases h : kws.findIdx? fun x => decide (x = s) with
 | none => decide
 | some i =>
   have h1 := (List.findIdx?_eq_some_iff_getElem.1 h).1
   exact h1
theorem Q6N {s : ByteArray} {k : Nat} (hk : k < 16) (h : kws.getD k ⟨#[]⟩ = s) : numOf s = k := by
 unfold numOf
 cases hf : kws.findIdx? fun x => decide (x = s) with
 | none =>
   have h1 := List.findIdx?_eq_none_iff.1 hf
   have hl : k < kws.length := hk
   have h2 := h1 (kws.getD k ⟨#[]⟩) (by rw [List.getD_eq_getElem?_getD, List.getElem?_eq_getElem hl]; exact List.getElem_mem hl)
   exact absurd h (of_decide_eq_false h2)
 | some i =>
   obtain ⟨h1, h2, _⟩ := List.findIdx?_eq_some_iff_getElem.1 hf
   have h3 : kws.getD i ⟨#[]⟩ = s := by
    rw [List.getD_eq_getElem?_getD, List.getElem?_eq_getElem h1]
    exact of_decide_eq_true h2
   have h4 := Qao ⟨i, h1⟩ ⟨k, hk⟩ (h3.trans h.symm)
   exact congrArg Fin.val h4
theorem Q59 {s : ByteArray} (h : numOf s ≠ 0) : kws.getD (numOf s) ⟨#[]⟩ = s := by
 unfold numOf at h ⊢
 cases hf : kws.findIdx? fun x => decide (x = s) with
 | none => rw [hf] at h; exact absurd rfl h
 | some i =>
   obtain ⟨h1, h2, _⟩ := List.findIdx?_eq_some_iff_getElem.1 hf
   show kws.getD i ⟨#[]⟩ = s
   rw [List.getD_eq_getElem?_getD, List.getElem?_eq_getElem h1]
   exact of_decide_eq_true h2
theorem Qap {s : ByteArray} {k : Nat} (h1 : 1 ≤ k) (h2 : k < 16) : kws.getD k ⟨#[]⟩ = s ↔ numOf s = k :=
 ⟨Q6N h2, fun h => by rw [← h]; exact Q59 (by omega)⟩
structure Cs where
 n : Wd
 ws : List Wd
 ps : List Pw
 pp : Int
 ts : List Nd
def s0 : Cs := ⟨w0, [], [], 0, []⟩
def Q0w : Rdr Pw := fun ts e => bnd (Q05 ts e) fun a r => bnd (Q0d 60 r e) fun _ r2 => bnd (Q05 r2 e) fun b r3 => .ok (⟨a, b⟩, r3)
def prsR : Rdr (List Pw) := Q0f 123 (optR Q0w)
def Q0b (D k : Nat) (s : Cs) : Rdr Cs := fun ts e =>
 if k = 110 then bnd (Q05 ts e) fun w r => .ok (⟨w, s.ws, s.ps, s.pp, s.ts⟩, r)
 else if k = 102 then bnd (Q05 ts e) fun w r => .ok (⟨s.n, [w], s.ps, s.pp, s.ts⟩, r)
 else if k = 119 then bnd (Q0K ts e) fun l r => .ok (⟨s.n, l, s.ps, s.pp, s.ts⟩, r)
 else if k = 112 then bnd (prsR ts e) fun l r => .ok (⟨s.n, s.ws, l, Q00 ts e, s.ts⟩, r)
 else if k = 114 then bnd (rowR D ts e) fun z r => .ok (⟨s.n, s.ws, s.ps, s.pp, s.ts ++ [z]⟩, r)
 else bnd (Q09 D ts e) fun z r => .ok (⟨s.n, s.ws, s.ps, s.pp, s.ts ++ [z]⟩, r)
def Q0m (D : Nat) : List Nat → Cs → Rdr Cs
 | [], s => fun ts _ => .ok (s, ts)
 | k :: ks, s => fun ts e => bnd (Q0b D k s ts e) fun s2 r => Q0m D ks s2 r e
def finC (op : Nat) (p : Int) (s : Cs) : Cm := ⟨op, p, s.n, none, 0, s.ws, none, 0, s.ps, s.pp, s.ts.getD 0 n0, s.ts.getD 1 n0⟩
def cmdR (D : Nat) (ts : List Tr) (e : Int) : Except Int Cm := match ts with
 | [] => .ok c0
 | x :: r => if x.t.k = 97 ∧ numOf x.t.s ≠ 0 then (match Q0m D (ltl (numOf x.t.s)) s0 r e with
     | .error p => .error p
     | .ok (s, []) => .ok (finC (numOf x.t.s) x.t.p s)
     | .ok (_, y :: _) => .error y.t.p) else .error x.t.p
def Q0L (D : Nat) (line : ByteArray) : Except (Int × Int) Cm := match scan line 0 [] with
 | .error p => .error (1, p)
 | .ok R => match parse R with
   | .error p => .error (2, p)
   | .ok ts => match cmdR D ts line.size with
     | .error p => .error (2, p)
     | .ok c => .ok c
def ptx (x : Cm) : List Nat → List Nd → List UInt8
 | [], _ => []
 | k :: ks, ts => 32 :: (if k = 110 then lst x.n.s
   else if k = 102 then jc (x.ws.map fun v => lst v.s)
   else if k = 119 then 123 :: (jc (x.ws.map fun v => lst v.s) ++ [125])
   else if k = 112 then 123 :: (jc (x.ps.map fun v => lst v.a.s ++ 60 :: lst v.b.s) ++ [125])
   else tx (ts.headD n0)) ++ ptx x ks (if k = 110 ∨ k = 102 ∨ k = 119 ∨ k = 112 then ts else ts.tail)
def ctx (x : Cm) : List UInt8 := lst (wrd x.op) ++ ptx x (ltl x.op) [x.l, x.r]
def Q2O (x : Cm) : ByteArray := ⟨(ctx x).toArray⟩
end CM
end
section
open Go.RowKit LX TR TM CM
def Q5a (j : Nat) : List Value := [.string (kws.getD j ⟨#[]⟩), .string (lts.getD j ⟨#[]⟩)]
def ccells : List Value := (List.range 16).flatMap Q5a
def Cmds (w : World) : Prop := w.rangeAt 0 0 ccells
theorem Q3k {k j : Nat} (hk : k < 16) (hj : j < 2) : ccells[k * 2 + j]? = (Q5a k)[j]? := by
 have h := Q5H (f := Q5a) (m := 2) (fun _ => rfl) 0 (List.range 16) k j (by simpa using hk) hj
 rw [show (List.range 16).getD k 0 = k by rw [List.getD_eq_getElem?_getD, List.getElem?_range hk]; rfl] at h
 exact h
theorem Cmds.at {w : World} (h : Cmds w) {k : Nat} (hk : k < 16) : w.cell? ⟨0, k * 2, none⟩ = some (.string (kws.getD k ⟨#[]⟩)) ∧ w.cell? ⟨0, k * 2 + 1, none⟩ = some (.string (lts.getD k ⟨#[]⟩)) := by
 have h1 := h (k * 2 + 0) _ ((Q3k hk (j := 0) (by omega)).trans rfl)
 have h2 := h (k * 2 + 1) _ ((Q3k hk (j := 1) (by omega)).trans rfl)
 rw [Nat.zero_add, Nat.add_zero] at h1
 rw [Nat.zero_add] at h2
 exact ⟨h1, h2⟩
theorem Cmds.pos {w : World} (h : Cmds w) : 0 < w.heap.size := World.block_lt_of_cell? w _ (h.at (k := 0) (by omega)).1
theorem Cmds.below {w w' : World} (h : Cmds w) {B : Nat} (hb : Below B w w') (hB : 0 < B) : Cmds w' := QaS h hb hB
theorem Cmds.low {w w' : World} (h : Cmds w) (hb : Below w.heap.size w w') : Cmds w' := h.below hb h.pos
theorem Q2p {op : Int} (h : 0 ≤ op ∧ op < 16) : ∃ k : Nat, op = (k : Int) ∧ k < 16 := ⟨op.toNat, by omega, by omega⟩
theorem Qaq (op : Int) (w : World) (hT : Cmds w) : Calls Tryz.prog 18 #[.int .i64 op] w fun e w' => e = .returned (.string (wrd op)) ∧ w' = w := by
 by_cases h0 : op < 0
 ·rw [Q44 (by omega)]
  have e0 : decide (op < 0) = true := zE h0
  go_enter Tryz.func18, Tryz.ntmps18
  go_wp2_with fail
  go_ret
  exact ⟨rfl, rfl⟩
 ·have e0 : decide (op < 0) = false := zF h0
  by_cases h1 : 16 ≤ op
  ·rw [Q44 (by omega)]
   have e1 : decide ((16 : Int) ≤ op) = true := zE h1
   go_enter Tryz.func18, Tryz.ntmps18
   go_wp2_with fail
   go_ret
   exact ⟨rfl, rfl⟩
  ·obtain ⟨k, rfl, hk⟩ := Q2p (op := op) (by omega)
   have e1 : decide ((16 : Int) ≤ (k : Int)) = false := zF h1
   have hc := (hT.at hk).1
   rw [Q45 hk]
   generalize kws.getD k ⟨#[]⟩ = s at *
   have hk2 : (k : Int) < 16 := by omega
   clear hT h0 h1
   go_enter Tryz.func18, Tryz.ntmps18
   go_wp2_with fail
   go_ret
   exact ⟨rfl, rfl⟩
theorem Q6O (op : Int) (w : World) (hT : Cmds w) : Calls Tryz.prog 31 #[.int .i64 op] w fun e w' => e = .returned (.string (ltr op)) ∧ w' = w := by
 by_cases h0 : op < 0
 ·rw [Q3i (by omega)]
  have e0 : decide (op < 0) = true := zE h0
  go_enter Tryz.func31, Tryz.ntmps31
  go_wp2_with fail
  go_ret
  exact ⟨rfl, rfl⟩
 ·have e0 : decide (op < 0) = false := zF h0
  by_cases h1 : 16 ≤ op
  ·rw [Q3i (by omega)]
   have e1 : decide ((16 : Int) ≤ op) = true := zE h1
   go_enter Tryz.func31, Tryz.ntmps31
   go_wp2_with fail
   go_ret
   exact ⟨rfl, rfl⟩
  ·obtain ⟨k, rfl, hk⟩ := Q2p (op := op) (by omega)
   have e1 : decide ((16 : Int) ≤ (k : Int)) = false := zF h1
   have hc := (hT.at hk).2
   rw [Q6M hk]
   generalize lts.getD k ⟨#[]⟩ = s at *
   have hk2 : (k : Int) < 16 := by omega
   clear hT h0 h1
   go_enter Tryz.func31, Tryz.ntmps31
   go_wp2_with fail
   go_ret
   exact ⟨rfl, rfl⟩
end
section
open Go.RowKit LX TR TM
end
section
namespace TM
open LX TR
structure Fl where
 c : Bool
 l : Bool
 r : Bool
 ru : Bool
 fi : Bool
 at' : Bool
def wrB (ws : List Wd) : Bool := ws.all fun x => NM.right x.s
def Q28 (s : ByteArray) (ws : List Wd) (n : Nat) : Bool := NM.right s && (decide (ws.length = 0) && decide (n = 0))
def brB (s : ByteArray) (ws : List Wd) : Bool := decide (s = ⟨#[]⟩) && decide (ws.length = 0)
def fl0 : Fl := ⟨false, false, false, false, false, false⟩
def cB (k : Int) (s : ByteArray) (ws : List Wd) (ks : List Fl) : Bool :=
 if k = 2 then Q28 s ws ks.length else if k = 3 then decide (s = ⟨#[]⟩) && (decide (ks.length = 0) && wrB ws) else if k = 4 then brB s ws && (decide (0 < ks.length) && ks.all (·.c)) else if k = 5 then brB s ws && ks.all (·.ru) else false
def ruB (k : Int) (s : ByteArray) (ws : List Wd) (n : Nat) : Bool := decide (k = 6) && (NM.right s && (decide (n = 0) && wrB ws))
def atB (k : Int) (s : ByteArray) (ws : List Wd) (ks : List Fl) : Bool := if k = 1 then Q28 s ws ks.length else if k = 7 then brB s ws && (decide (ks.length = 1) && (ks.headD fl0).c) else false
def lB (k : Int) (s : ByteArray) (ws : List Wd) (ks : List Fl) : Bool := if k = 8 ∨ k = 9 then brB s ws && (decide (0 < ks.length) && ks.all (·.l)) else atB k s ws ks
def fiB (k : Int) (s : ByteArray) (ws : List Wd) (ks : List Fl) : Bool := decide (k = 11) && (NM.right s && (decide (ws.length = 0) && (decide (ks.length = 1) && (ks.headD fl0).at')))
def rB (k : Int) (s : ByteArray) (ws : List Wd) (ks : List Fl) : Bool := if k = 1 then Q28 s ws ks.length else if k = 10 then decide (s = ⟨#[]⟩) && (decide (ws.length ≤ 1) && (wrB ws && ks.all (·.fi))) else false
def fl1 (k : Int) (s : ByteArray) (ws : List Wd) (ks : List Fl) : Fl := ⟨cB k s ws ks, lB k s ws ks, rB k s ws ks, ruB k s ws ks.length, fiB k s ws ks, atB k s ws ks⟩
def fls : List Nd → List Fl
 | [] => []
 | .mk k _ s _ _ ws _ _ ks :: r => fl1 k s ws (fls ks) :: fls r
def fl (x : Nd) : Fl := fl1 x.k x.s x.ws (fls x.ks)
theorem Q3l (x : Nd) (r : List Nd) : fls (x :: r) = fl x :: fls r := by cases x; rw [fls]; rfl
theorem Q5b (l : List Nd) : fls l = l.map fl := by
 induction l with
 | nil => simp [fls]
 | cons x r ih => rw [Q3l, ih]; rfl
theorem Q29 (l : List Nd) : (fls l).length = l.length := by rw [Q5b, List.length_map]
end TM
open Go.RowKit LX TR TM
end
section
open Go.RowKit LX TR TM
end
section
open Go.RowKit LX TR TM
end
section
open Go.RowKit LX TR TM
end
section
open Go.RowKit LX TR TM
end
section
namespace TM
def eqL {α : Type} (g : α → α → Bool) : List α → List α → Bool
 | [], [] => true
 | [], _ :: _ => false
 | _ :: _, [] => false
 | x :: a, y :: b => g x y && eqL g a b
theorem Q2P {α : Type} {g : α → α → Bool} : ∀ {a b : List α}, ¬ a.length = b.length → eqL g a b = false
 | [], [], h => absurd rfl h
 | [], _ :: _, _ => rfl
 | _ :: _, [], _ => rfl
 | x :: a, y :: b, h => by
   rw [eqL, Q2P (fun e => h (by simp [e]))]
   exact Bool.and_false _
theorem Q3m {α : Type} {g : α → α → Bool} {z : α} : ∀ {a b : List α}, a.length = b.length → ∀ i, i < a.length → g (a.getD i z) (b.getD i z) = false → eqL g a b = false
 | [], [], _, i, hi, _ => by simp at hi
 | x :: a, y :: b, h, 0, _, hg => by
   rw [List.getD_cons_zero, List.getD_cons_zero] at hg
   rw [eqL, hg]; rfl
 | x :: a, y :: b, h, i + 1, hi, hg => by
   rw [List.getD_cons_succ, List.getD_cons_succ] at hg
   rw [eqL, Q3m (z := z) (by simpa using h) i (by simpa using hi) hg]
   exact Bool.and_false _
theorem Q3n {α : Type} {g : α → α → Bool} {z : α} : ∀ {a b : List α}, a.length = b.length → (∀ i, i < a.length → g (a.getD i z) (b.getD i z) = true) → eqL g a b = true
 | [], [], _, _ => rfl
 | x :: a, y :: b, h, hg => by
   have h0 := hg 0 (by simp)
   rw [List.getD_cons_zero, List.getD_cons_zero] at h0
   rw [eqL, h0, Q3n (z := z) (by simpa using h) fun i hi => by
     have h1 := hg (i + 1) (by simpa using hi)
     rw [List.getD_cons_succ, List.getD_cons_succ] at h1
     exact h1]
   rfl
theorem Q2q {α : Type} {l : List α} {i : Nat} {z : α} (h : i < l.length) : l.getD i z ∈ l := by
 rw [List.getD_eq_getElem?_getD, List.getElem?_eq_getElem h]
 exact List.getElem_mem h
end TM
open Go.RowKit LX TR TM
end
section
namespace TM
def sw (a b : Wd) : Bool := decide (a.s = b.s)
def sms : List Nd → List Nd → Bool
 | [], [] => true
 | [], _ :: _ => false
 | _ :: _, [] => false
 | .mk k _ s _ _ ws _ _ ks :: r, y :: b => (decide (k = y.k) && (decide (s = y.s) && (eqL sw ws y.ws && sms ks y.ks))) && sms r b
def sm (x y : Nd) : Bool := decide (x.k = y.k) && (decide (x.s = y.s) && (eqL sw x.ws y.ws && sms x.ks y.ks))
theorem Q2Q : ∀ a b : List Nd, sms a b = eqL sm a b
 | [], [] => by rw [sms, eqL]
 | [], _ :: _ => by rw [sms, eqL]
 | _ :: _, [] => by rw [sms, eqL]
 | .mk k p s A c ws B d ks :: r, y :: b => by rw [sms, eqL, Q2Q r b]; rfl
theorem Q6P {xk xp xs xA xc xw xB xd xx yk yp ys yA yc yw yB yd yy} : sm (.mk xk xp xs xA xc xw xB xd xx) (.mk yk yp ys yA yc yw yB yd yy) = (decide (xk = yk) && (decide (xs = ys) && (eqL sw xw yw && eqL sm xx yy))) := by
 rw [← Q2Q]; rfl
end TM
open Go.RowKit LX TR TM
end
section
open Go.RowKit LX TR TM
theorem Q0A {B : Nat} {w w' : World} (h : Below B w w') {b o : Nat} (hb : b < B) : w'.cell? ⟨b, o, none⟩ = w.cell? ⟨b, o, none⟩ := by
 simp only [World.cell?]
 rw [h.block b hb]
theorem Qar (N : Nat) (hN : N < 4294967296) (ih : ∀ x y, cnt [x] ≤ N → ∀ w, Nods w w.heap.size [x] → Nods w w.heap.size [y] → Calls Tryz.prog 44 #[.agg (nv x), .agg (nv y)] w fun e w' => e = .returned (.bool (sm x y)) ∧ Below w.heap.size w w') (x y : Nd) (hz : cnt [x] ≤ N + 1) (w : World) (hx : Nods w w.heap.size [x]) (hy : Nods w w.heap.size [y]) :
 Calls Tryz.prog 44 #[.agg (nv x), .agg (nv y)] w fun e w' => e = .returned (.bool (sm x y)) ∧ Below w.heap.size w w' := by
 obtain ⟨xk, xp, xs, xA, xc, xw, xB, xd, xx⟩ := x
 obtain ⟨yk, yp, ys, yA, yc, yw, yB, yd, yy⟩ := y
 have hcz : 1 + xw.length + cnt xx ≤ N + 1 := by rw [Q10] at hz; simp only [cnt, Nat.add_zero] at hz; exact hz
 have hzl := Q5x xx
 have hxw : xw.length ≤ 4294967296 := by omega
 have hxx : xx.length ≤ 4294967296 := by omega
 have hn := RowAt.new w 29 #[.int .i64 xk, .int .i64 xp, .string xs, .slice xA xw.length xc, .slice xB xx.length xd]
 have hrx := hn.alloc (.cells #[.int .i64 yk, .int .i64 yp, .string ys, .slice yA yw.length yc, .slice yB yy.length yd] 29)
 have hry := RowAt.new (w.alloc (.cells #[.int .i64 xk, .int .i64 xp, .string xs, .slice xA xw.length xc, .slice xB xx.length xd] 29)) 29 #[.int .i64 yk, .int .i64 yp, .string ys, .slice yA yw.length yc, .slice yB yy.length yd]
 rw [show ((w.alloc (.cells #[.int .i64 xk, .int .i64 xp, .string xs, .slice xA xw.length xc, .slice xB xx.length xd] 29))).heap.size = w.heap.size + 1 by simp] at hry
 have hB : Below w.heap.size w ((w.alloc (.cells #[.int .i64 xk, .int .i64 xp, .string xs, .slice xA xw.length xc, .slice xB xx.length xd] 29)).alloc (.cells #[.int .i64 yk, .int .i64 yp, .string ys, .slice yA yw.length yc, .slice yB yy.length yd] 29)) := ((zB _ _).alloc (zL _) _).alloc (by simp) _
 have HXK : Hid (∀ W, Below w.heap.size w W → Nods W W.heap.size xx) := fun W h => (hx.kids.below h).mono h.size
 have HYK : Hid (∀ W, Below w.heap.size w W → Nods W W.heap.size yy) := fun W h => (hy.kids.below h).mono h.size
 have HXW : Hid (∀ W, Below w.heap.size w W → Sl W w.heap.size xA (wcs xw)) := fun W h => hx.at.1.1.below h
 have HYW : Hid (∀ W, Below w.heap.size w W → Sl W w.heap.size yA (wcs yw)) := fun W h => hy.at.1.1.below h
 have HXS : Hid (∀ W, Below w.heap.size w W → Sl W w.heap.size xB (ncs xx)) := fun W h => hx.at.2.1.below h
 have HYS : Hid (∀ W, Below w.heap.size w W → Sl W w.heap.size yB (ncs yy)) := fun W h => hy.at.2.1.below h
 have HD : Hid (∀ i, i < xx.length → xx.length = yy.length → ∀ W, Below w.heap.size w W → Calls Tryz.prog 44 #[.agg (nv (xx.getD i n0)), .agg (nv (yy.getD i n0))] W fun e w' => e = .returned (.bool (sm (xx.getD i n0) (yy.getD i n0))) ∧ Below W.heap.size W w') := fun i hi he W h => ih _ _ (by
  have h1 := Q5w (Q2q (z := n0) hi)
  rw [Q10]
  simp only [cnt, Nat.add_zero]
  omega) W ((HXK.out W h).mem (Q2q hi)) ((HYK.out W h).mem (Q2q (by rw [← he]; exact hi)))
 have HSM : Hid (sm (.mk xk xp xs xA xc xw xB xd xx) (.mk yk yp ys yA yc yw yB yd yy) = (decide (xk = yk) && (decide (xs = ys) && (eqL sw xw yw && eqL sm xx yy)))) := Q6P
 have H1L : Hid (¬ xw.length = yw.length → eqL sw xw yw = false) := Q2P
 have H2L : Hid (¬ xx.length = yy.length → eqL sm xx yy = false) := Q2P
 have H1H : Hid (xw.length = yw.length → ∀ i, i < xw.length → sw (xw.getD i w0) (yw.getD i w0) = false → eqL sw xw yw = false) := fun h i => Q3m h i
 have H2H : Hid (xx.length = yy.length → ∀ i, i < xx.length → sm (xx.getD i n0) (yy.getD i n0) = false → eqL sm xx yy = false) := fun h i => Q3m h i
 have H1A : Hid (xw.length = yw.length → (∀ i, i < xw.length → sw (xw.getD i w0) (yw.getD i w0) = true) → eqL sw xw yw = true) := fun h => Q3n h
 have H2A : Hid (xx.length = yy.length → (∀ i, i < xx.length → sm (xx.getD i n0) (yy.getD i n0) = true) → eqL sm xx yy = true) := fun h => Q3n h
 unfold nv at HD ⊢
 simp only [Nd.k, Nd.p, Nd.s, Nd.A, Nd.c, Nd.ws, Nd.B, Nd.d, Nd.ks]
 rw [HSM.out]
 clear hx hy ih HXK HYK HSM hz hcz hzl
 have HWW : Hid (w.heap.size + 2 ≤ ((w.alloc (.cells #[.int .i64 xk, .int .i64 xp, .string xs, .slice xA xw.length xc, .slice xB xx.length xd] 29)).alloc (.cells #[.int .i64 yk, .int .i64 yp, .string ys, .slice yA yw.length yc, .slice yB yy.length yd] 29)).heap.size) := by show _ ≤ _; simp
 generalize eqL sw xw yw = r1 at *
 generalize eqL sm xx yy = r2 at *
 have HB := zh hB
 have HRX := zh hrx
 have HRY := zh hry
 generalize hnw : xw.length = nw at *
 generalize hmw : yw.length = mw at *
 generalize hnx : xx.length = nx at *
 generalize hmy : yy.length = my at *
 have HNW := zh hnw
 have HMW := zh hmw
 have HNX := zh hnx
 have HMY := zh hmy
 obtain ⟨m0, m1, m2, m3, m4, _, _, _, _, _⟩ := row5 hrx
 obtain ⟨n0', n1', n2', n3', n4', _, _, _, _, _⟩ := row5 hry
 clear hn hrx hry hB hnw hmw hnx hmy
 by_cases hk : xk = yk
 ·subst hk
  by_cases hs : xs = ys
  ·subst hs
   by_cases hw : nw = mw
   ·subst hw
    by_cases hkk : nx = my
    ·subst hkk
     go_enter Tryz.func44, Tryz.ntmps44
     go_wp2_with fail
     generalize ((w.alloc (.cells #[.int .i64 xk, .int .i64 xp, .string xs, .slice xA nw xc, .slice xB nx xd] 29)).alloc (.cells #[.int .i64 xk, .int .i64 yp, .string xs, .slice yA nw yc, .slice yB nx yd] 29)) = w2 at *
     go_loopw [5] (fun iv wr => ∃ i : Nat, i ≤ nw ∧ iv = .int .i64 i ∧ Hid (∀ j, j < i → sw (xw.getD j w0) (yw.getD j w0) = true) ∧ Hid (Below w2.heap.size w2 wr)) (fun iv _ => nw - (intOf iv).toNat)
     case atStart => exact ⟨0, by omega, rfl, fun j hj => by omega, zB _ _⟩
     case round =>
         obtain ⟨i, hi, rfl, HF, HW⟩ := hrel
         have HBW := zh (HB.out.trans (HW.out.mono HB.out.size))
         obtain ⟨m0, m1, m2, m3, m4, _, _, _, _, _⟩ := row5 (HRX.out.below HW.out HRX.out.lt)
         obtain ⟨n0', n1', n2', n3', n4', _, _, _, _, _⟩ := row5 (HRY.out.below HW.out HRY.out.lt)
         by_cases hlt : i < nw
         ·obtain ⟨b1, o1, rfl, _, hc1⟩ := Q0O (z := w0) Q1M (HXW.out wr HBW.out) (k := i) (by rw [HNW.out]; exact hlt) (by omega)
          obtain ⟨b2, o2, rfl, _, hc2⟩ := Q0O (z := w0) Q1M (HYW.out wr HBW.out) (k := i) (by rw [HMW.out]; exact hlt) (by omega)
          have p0 := hc1 i 0 _ (by rw [HNW.out]; exact hlt) (by omega) rfl
          rw [Nat.add_zero] at p0
          have q0 := hc2 i 0 _ (by rw [HMW.out]; exact hlt) (by omega) rfl
          rw [Nat.add_zero] at q0
          have hin : (i : Int) < (nw : Int) := by omega
          have HIN : Hid (sw (xw.getD i w0) (yw.getD i w0) = true → ∀ j, j < i + 1 → sw (xw.getD j w0) (yw.getD j w0) = true) := fun h j hj => by
           by_cases hji : j = i
           ·rw [hji]; exact h
           ·exact HF.out j (by omega)
          have HNO : Hid (sw (xw.getD i w0) (yw.getD i w0) = false → r1 = false) := fun h => H1H.out (by first | rfl | trivial) i hlt h
          clear hc1 hc2 HF
          unfold sw at HIN HNO
          have HIN : Hid (decide ((xw.getD i w0).s = (yw.getD i w0).s) = true → ∀ j, j < i + 1 → sw (xw.getD j w0) (yw.getD j w0) = true) := HIN
          have qe := NM.str_eq (xw.getD i w0).s (yw.getD i w0).s
          generalize (xw.getD i w0) = x at *
          generalize (yw.getD i w0) = y at *
          obtain ⟨s1, f1⟩ := x
          obtain ⟨s2, f2⟩ := y
          simp only at p0 q0 HIN HNO qe
          generalize decide (s1 = s2) = q at *
          have qn : (s1.toList != s2.toList) = !q := by rw [bne, qe]
          cases q
          ·have HT := zh (HNO.out rfl)
           clear HNO HIN
           go_wp2_with fail
           go_quiet (fail)
           go_wp2_with fail
           go_ret
           exact ⟨Q0o (Q0Q (by rw [HT.out]; simp)), HBW.out.trans (((Dr.refl wr).more _).below.mono HBW.out.size)⟩
          ·have HT := zh (HIN.out rfl)
           clear HNO HIN
           go_wp2_with fail
           go_quiet (fail)
           go_wp2_with fail
           go_roundw
           case rel => exact ⟨i + 1, by omega, by go_num, HT, HW.out.trans (((Dr.refl wr).more _).below.mono HW.out.size)⟩
           case measure => simp [intOf]; omega
         ·obtain rfl : i = nw := by omega
          have HR1 : Hid (r1 = true) := H1A.out (by first | rfl | trivial) HF.out
          go_wp2_with fail
          obtain ⟨wo, hwo⟩ : ∃ wo : World, wo = wr := ⟨_, rfl⟩
          subst hwo
          go_loopw [6] (fun iv wr => ∃ k : Nat, k ≤ nx ∧ iv = .int .i64 k ∧ Hid (∀ j, j < k → sm (xx.getD j n0) (yy.getD j n0) = true) ∧ Hid (Below w2.heap.size w2 wr)) (fun iv _ => nx - (intOf iv).toNat)
          case atStart => exact ⟨0, by omega, rfl, fun j hj => by omega, HW.out⟩
          case round =>
           obtain ⟨i, hi, rfl, HF, HW⟩ := hrel
           have HBW := zh (HB.out.trans (HW.out.mono HB.out.size))
           obtain ⟨m0, m1, m2, m3, m4, _, _, _, _, _⟩ := row5 (HRX.out.below HW.out HRX.out.lt)
           obtain ⟨n0', n1', n2', n3', n4', _, _, _, _, _⟩ := row5 (HRY.out.below HW.out HRY.out.lt)
           by_cases hlt : i < nx
           ·obtain ⟨b1, o1, rfl, hl1, hc1⟩ := Q0O (z := n0) Q2m (HXS.out wr HBW.out) (k := i) (by rw [HNX.out]; exact hlt) (by omega)
            obtain ⟨b2, o2, rfl, hl2, hc2⟩ := Q0O (z := n0) Q2m (HYS.out wr HBW.out) (k := i) (by rw [HMY.out]; exact hlt) (by omega)
            have p0 := hc1 i 0 _ (by rw [HNX.out]; exact hlt) (by omega) rfl
            have p1 := hc1 i 1 _ (by rw [HNX.out]; exact hlt) (by omega) rfl
            have p2 := hc1 i 2 _ (by rw [HNX.out]; exact hlt) (by omega) rfl
            have p3 := hc1 i 3 _ (by rw [HNX.out]; exact hlt) (by omega) rfl
            have p4 := hc1 i 4 _ (by rw [HNX.out]; exact hlt) (by omega) rfl
            rw [Nat.add_zero] at p0
            rw [← Nat.add_assoc] at p1 p2 p3 p4
            have q0 := hc2 i 0 _ (by rw [HMY.out]; exact hlt) (by omega) rfl
            have q1 := hc2 i 1 _ (by rw [HMY.out]; exact hlt) (by omega) rfl
            have q2 := hc2 i 2 _ (by rw [HMY.out]; exact hlt) (by omega) rfl
            have q3 := hc2 i 3 _ (by rw [HMY.out]; exact hlt) (by omega) rfl
            have q4 := hc2 i 4 _ (by rw [HMY.out]; exact hlt) (by omega) rfl
            rw [Nat.add_zero] at q0
            rw [← Nat.add_assoc] at q1 q2 q3 q4
            have hin : (i : Int) < (nx : Int) := by omega
            have HIN : Hid (sm (xx.getD i n0) (yy.getD i n0) = true → ∀ j, j < i + 1 → sm (xx.getD j n0) (yy.getD j n0) = true) := fun h j hj => by
             by_cases hji : j = i
             ·rw [hji]; exact h
             ·exact HF.out j (by omega)
            have HNO : Hid (sm (xx.getD i n0) (yy.getD i n0) = false → r2 = false) := fun h => H2H.out (by first | rfl | trivial) i hlt h
            have HDD := zh (HD.out i hlt (by first | rfl | trivial))
            clear hc1 hc2 HF
            generalize sm (xx.getD i n0) (yy.getD i n0) = q at *
            generalize (xx.getD i n0) = x at *
            generalize (yy.getD i n0) = y at *
            obtain ⟨ak, ap, as', aA, ac, aw, aB, ad, ax⟩ := x
            obtain ⟨ck, cp, cs', cA, cc, cw, cB', cd, cx⟩ := y
            simp only [Nd.k, Nd.p, Nd.s, Nd.A, Nd.c, Nd.ws, Nd.B, Nd.d, Nd.ks] at p0 p1 p2 p3 p4 q0 q1 q2 q3 q4 HDD
            obtain ⟨S, hSe⟩ : ∃ S : World → Prop, S = fun w' => Below w2.heap.size w2 w' ∧ Below wr.heap.size wr w' := ⟨_, rfl⟩
            have keepS : ∀ wa wb, S wa → Below wa.heap.size wa wb → S wb := fun wa wb h hb => by
             rw [hSe] at h ⊢
             exact ⟨h.1.trans (hb.mono h.1.size), h.2.trans (hb.mono h.2.size)⟩
            have HSB : Hid (∀ W, S W → Below w.heap.size w W) := fun W h => by
             rw [hSe] at h
             exact HB.out.trans (h.1.mono HB.out.size)
            have hl3 : b1 < wr.heap.size := zT hl1 HBW.out.size
            have hl4 : b2 < wr.heap.size := zT hl2 HBW.out.size
            have C0 : ∀ W, S W → W.cell? ⟨w.heap.size, 4, none⟩ = some (.slice (some ⟨b1, o1, none⟩) nx xd) := fun W h => by
             rw [hSe] at h
             exact (RowAt.cell (HRX.out.below h.1 HRX.out.lt) 4).trans rfl
            have C1 : ∀ W, S W → W.cell? ⟨w.heap.size + 1, 4, none⟩ = some (.slice (some ⟨b2, o2, none⟩) nx yd) := fun W h => by
             rw [hSe] at h
             exact (RowAt.cell (HRY.out.below h.1 HRY.out.lt) 4).trans rfl
            have P0 : ∀ W, S W → W.cell? ⟨b1, o1 + i * 5, none⟩ = some (.int .i64 ak) := fun W h => by
             rw [hSe] at h
             exact (Q0A h.2 hl3).trans p0
            have P1 : ∀ W, S W → W.cell? ⟨b1, o1 + i * 5 + 1, none⟩ = some (.int .i64 ap) := fun W h => by
             rw [hSe] at h
             exact (Q0A h.2 hl3).trans p1
            have P2 : ∀ W, S W → W.cell? ⟨b1, o1 + i * 5 + 2, none⟩ = some (.string as') := fun W h => by
             rw [hSe] at h
             exact (Q0A h.2 hl3).trans p2
            have P3 : ∀ W, S W → W.cell? ⟨b1, o1 + i * 5 + 3, none⟩ = some (.slice aA aw.length ac) := fun W h => by
             rw [hSe] at h
             exact (Q0A h.2 hl3).trans p3
            have P4 : ∀ W, S W → W.cell? ⟨b1, o1 + i * 5 + 4, none⟩ = some (.slice aB ax.length ad) := fun W h => by
             rw [hSe] at h
             exact (Q0A h.2 hl3).trans p4
            have Q0 : ∀ W, S W → W.cell? ⟨b2, o2 + i * 5, none⟩ = some (.int .i64 ck) := fun W h => by
             rw [hSe] at h
             exact (Q0A h.2 hl4).trans q0
            have Q1 : ∀ W, S W → W.cell? ⟨b2, o2 + i * 5 + 1, none⟩ = some (.int .i64 cp) := fun W h => by
             rw [hSe] at h
             exact (Q0A h.2 hl4).trans q1
            have Q2 : ∀ W, S W → W.cell? ⟨b2, o2 + i * 5 + 2, none⟩ = some (.string cs') := fun W h => by
             rw [hSe] at h
             exact (Q0A h.2 hl4).trans q2
            have Q3 : ∀ W, S W → W.cell? ⟨b2, o2 + i * 5 + 3, none⟩ = some (.slice cA cw.length cc) := fun W h => by
             rw [hSe] at h
             exact (Q0A h.2 hl4).trans q3
            have Q4 : ∀ W, S W → W.cell? ⟨b2, o2 + i * 5 + 4, none⟩ = some (.slice cB' cx.length cd) := fun W h => by
             rw [hSe] at h
             exact (Q0A h.2 hl4).trans q4
            have HS : Hid (S wr.drew) := by
             show S wr.drew
             rw [hSe]
             exact ⟨HW.out.drew, (zB _ _).drew⟩
            go_upto_region 11 with fail
            refine Q1X S [(0, true), (1, true), (2, true), (3, true), (4, true), (5, true), (6, true), (7, true), (8, true), (9, true), (10, false), (11, true)] (by kernel_rfl) (by kernel_rfl) rfl (by kernel_rfl) HS.out ?_
            iterate 10
             (refine Q1b (zO rfl) ?_)
             (first
                        | (refine Q1c (by rfl) ?_)
                        | (refine Q1d (v := ?_) (by rfl) ?_ ?_; rotate_left 1; (intro wx hSx; have hc_0 := C0 wx hSx; have hc_1 := C1 wx hSx; have hc_2 := P0 wx hSx; have hc_3 := P1 wx hSx; have hc_4 := P2 wx hSx; have hc_5 := P3 wx hSx; have hc_6 := P4 wx hSx; have hc_7 := Q0 wx hSx; have hc_8 := Q1 wx hSx; have hc_9 := Q2 wx hSx; have hc_10 := Q3 wx hSx; have hc_11 := Q4 wx hSx; go_simp; try with_reducible rfl)))
             (try simp only [Act.put, zA4, zA5, zA6])
            (refine Q13 (zO rfl) ?_)
            intro K hK
            go_simp
            go_at_call 44
            refine (HDD.out _ (HSB.out _ HS.out)).mono ?_
            rintro e w4 ⟨rfl, hb⟩
            have hS := keepS _ _ HS.out hb
            clear HS
            have HS := zh hS; clear hS hb
            refine hK.out _ _ HS.out ?_
            clear hK K
            (try simp only [Act.put, zA4, zA5, zA6])
            iterate 1
             (refine Q1b (zO rfl) ?_)
             (first
                        | (refine Q1c (by rfl) ?_)
                        | (refine Q1d (v := ?_) (by rfl) ?_ ?_; rotate_left 1; (intro wx hSx; go_simp; try with_reducible rfl)))
             (try simp only [Act.put, zA4, zA5, zA6])
            refine Q1Y ?_
            have hS4 := HS.out
            rw [hSe] at hS4
            have HW4 := zh hS4.1
            have HB4 := zh (HB.out.trans (HW4.out.mono HB.out.size))
            clear hS4
            cases q
            ·have HT := zh (HNO.out rfl)
             clear HNO HIN
             go_wp2_with fail
             go_ret
             exact ⟨Q0o (Q0Q (by rw [HT.out]; simp)), HB4.out⟩
            ·have HT := zh (HIN.out rfl)
             clear HNO HIN
             go_wp2_with fail
             go_roundw
             case rel => exact ⟨i + 1, by omega, by go_num, HT, HW4⟩
             case measure => simp [intOf]; omega
           ·obtain rfl : i = nx := by omega
            have HR2 : Hid (r2 = true) := H2A.out (by first | rfl | trivial) HF.out
            go_wp2_with fail
            go_ret
            exact ⟨Q0o (Q0Q (by rw [HR1.out, HR2.out]; simp)), HBW.out⟩
    ·have q4 : ((nx : Int) != (my : Int)) = true := by simp; omega
     have HR2 := zh (H2L.out hkk)
     go_enter Tryz.func44, Tryz.ntmps44
     go_wp2_with fail
     go_ret
     exact ⟨Q0o (Q0Q (by rw [HR2.out]; simp)), HB.out⟩
   ·have q3 : ((nw : Int) != (mw : Int)) = true := by simp; omega
    have HR1 := zh (H1L.out hw)
    go_enter Tryz.func44, Tryz.ntmps44
    go_wp2_with fail
    go_ret
    exact ⟨Q0o (Q0Q (by rw [HR1.out]; simp)), HB.out⟩
  ·have q1 : (xs.toList == ys.toList) = false := (NM.str_eq xs ys).trans (zF hs)
   have q2 : (xs.toList != ys.toList) = true := by rw [bne, q1]; rfl
   go_enter Tryz.func44, Tryz.ntmps44
   go_wp2_with fail
   go_ret
   exact ⟨Q0o (Q0Q (by simp [hs])), HB.out⟩
 ·have q2 : (xk != yk) = true := by rw [bne_iff_ne]; exact hk
  go_enter Tryz.func44, Tryz.ntmps44
  go_wp2_with fail
  go_ret
  exact ⟨Q0o (Q0Q (by simp [hk])), HB.out⟩
theorem Q5c : ∀ N, N ≤ 4294967296 → ∀ x y, cnt [x] ≤ N → ∀ w, Nods w w.heap.size [x] → Nods w w.heap.size [y] → Calls Tryz.prog 44 #[.agg (nv x), .agg (nv y)] w fun e w' => e = .returned (.bool (sm x y)) ∧ Below w.heap.size w w' := by
 intro N
 induction N with
 | zero => intro _ x y hz; rw [Q10] at hz; omega
 | succ N ih => intro h x y hz; exact Qar N (by omega) (ih (by omega)) x y hz
end
section
namespace TM
open LX TR
inductive W : Nat → Nd → Prop
 | point {p : Int} {s : ByteArray} {A : Option Addr} {c : Nat} {B : Option Addr} {d : Nat} (hs : NM.right s = true) : W 1 (.mk 2 p s A c [] B d [])
 | set {p : Int} {A : Option Addr} {c : Nat} {ws : List Wd} {B : Option Addr} {d : Nat} (hw : ∀ w ∈ ws, NM.right w.s = true) : W 1 (.mk 3 p e0 A c ws B d [])
 | tuple {p : Int} {A : Option Addr} {c : Nat} {B : Option Addr} {d : Nat} {ks : List Nd} (hne : ks ≠ []) (h : ∀ y ∈ ks, W 1 y) : W 1 (.mk 4 p e0 A c [] B d ks)
 | grid {p : Int} {A : Option Addr} {c : Nat} {B : Option Addr} {d : Nat} {ks : List Nd} (h : ∀ y ∈ ks, W 2 y) : W 1 (.mk 5 p e0 A c [] B d ks)
 | rule {p : Int} {s : ByteArray} {A : Option Addr} {c : Nat} {ws : List Wd} {B : Option Addr} {d : Nat} (hs : NM.right s = true) (hw : ∀ w ∈ ws, NM.right w.s = true) : W 2 (.mk 6 p s A c ws B d [])
 | var {p : Int} {s : ByteArray} {A : Option Addr} {c : Nat} {B : Option Addr} {d : Nat} (hs : NM.right s = true) : W 5 (.mk 1 p s A c [] B d [])
 | const {p : Int} {A : Option Addr} {c : Nat} {B : Option Addr} {d : Nat} {y : Nd} (h : W 1 y) : W 5 (.mk 7 p e0 A c [] B d [y])
 | atom {x : Nd} (h : W 5 x) : W 3 x
 | join {p : Int} {A : Option Addr} {c : Nat} {B : Option Addr} {d : Nat} {ks : List Nd} (hne : ks ≠ []) (h : ∀ y ∈ ks, W 3 y) : W 3 (.mk 8 p e0 A c [] B d ks)
 | meet {p : Int} {A : Option Addr} {c : Nat} {B : Option Addr} {d : Nat} {ks : List Nd} (hne : ks ≠ []) (h : ∀ y ∈ ks, W 3 y) : W 3 (.mk 9 p e0 A c [] B d ks)
 | field {p : Int} {s : ByteArray} {A : Option Addr} {c : Nat} {B : Option Addr} {d : Nat} {y : Nd} (hs : NM.right s = true) (h : W 5 y) : W 4 (.mk 11 p s A c [] B d [y])
 | rvar {p : Int} {s : ByteArray} {A : Option Addr} {c : Nat} {B : Option Addr} {d : Nat} (hs : NM.right s = true) : W 6 (.mk 1 p s A c [] B d [])
 | row {p : Int} {A : Option Addr} {c : Nat} {ws : List Wd} {B : Option Addr} {d : Nat} {ks : List Nd} (h1 : ws.length ≤ 1) (hw : ∀ w ∈ ws, NM.right w.s = true) (h : ∀ y ∈ ks, W 4 y) : W 6 (.mk 10 p e0 A c ws B d ks)
def gF (n : Nat) (f : Fl) : Bool := match n with
 | 1 => f.c
 | 2 => f.ru
 | 3 => f.l
 | 4 => f.fi
 | 5 => f.at'
 | 6 => f.r
 | _ => false
theorem Q1g {k p s A c ws B d ks} : fl (.mk k p s A c ws B d ks) = fl1 k s ws (fls ks) := rfl
theorem Q3o {ws : List Wd} (h : ∀ w ∈ ws, NM.right w.s = true) : wrB ws = true := by
 unfold wrB; rw [List.all_eq_true]; exact h
theorem Q5d {ws : List Wd} (h : wrB ws = true) : ∀ w ∈ ws, NM.right w.s = true := by
 unfold wrB at h; rw [List.all_eq_true] at h; exact h
theorem Q3p {ks : List Nd} {g : Fl → Bool} (h : ∀ y ∈ ks, g (fl y) = true) : (fls ks).all g = true := by
 rw [Q5b, List.all_map, List.all_eq_true]; exact h
theorem Q46 {ks : List Nd} {g : Fl → Bool} (h : (fls ks).all g = true) : ∀ y ∈ ks, g (fl y) = true := by
 rw [Q5b, List.all_map, List.all_eq_true] at h; exact h
theorem Q47 {n : Nat} {x : Nd} (h : W n x) : gF n (fl x) = true := by
 induction h with
 | point hs => simp [gF, Q1g, fl1, cB, Q28, fls, hs]
 | set hw => simp [gF, Q1g, fl1, cB, fls, e0, Q3o hw]
 | @tuple p A c B d ks hne h ih =>
   have h1 : (fls ks).all (·.c) = true := Q3p ih
   have h2 : 0 < ks.length := List.length_pos_iff.2 hne
   simp only [gF, Q1g, fl1, cB, brB, e0, Q29, h1]
   simp [h2]
 | @grid p A c B d ks h ih =>
   have h1 : (fls ks).all (·.ru) = true := Q3p ih
   simp only [gF, Q1g, fl1, cB, brB, e0, h1]
   simp
 | rule hs hw => simp [gF, Q1g, fl1, ruB, fls, hs, Q3o hw]
 | var hs => simp [gF, Q1g, fl1, atB, Q28, fls, hs]
 | const h ih =>
   have h1 : (fl _).c = true := ih
   simp [gF, Q1g, fl1, atB, brB, Q3l, fls, e0, h1]
 | @atom x h ih =>
   have h1 : (fl x).at' = true := ih
   show (fl x).l = true
   obtain ⟨k, p, s, A, c, ws, B, d, ks⟩ := x
   rw [Q1g] at h1 ⊢
   have h2 : ¬ (k = 8 ∨ k = 9) := by
    rintro (rfl | rfl) <;> simp [fl1, atB] at h1
   simp only [fl1, lB, if_neg h2]
   exact h1
 | @join p A c B d ks hne h ih =>
   have h1 : (fls ks).all (·.l) = true := Q3p ih
   have h2 : 0 < ks.length := List.length_pos_iff.2 hne
   simp only [gF, Q1g, fl1, lB, brB, e0, Q29, h1]
   simp [h2]
 | @meet p A c B d ks hne h ih =>
   have h1 : (fls ks).all (·.l) = true := Q3p ih
   have h2 : 0 < ks.length := List.length_pos_iff.2 hne
   simp only [gF, Q1g, fl1, lB, brB, e0, Q29, h1]
   simp [h2]
 | field hs h ih =>
   have h1 : (fl _).at' = true := ih
   simp [gF, Q1g, fl1, fiB, Q3l, fls, hs, h1]
 | rvar hs => simp [gF, Q1g, fl1, rB, Q28, fls, hs]
 | @row p A c ws B d ks h1 hw h ih =>
   have h2 : (fls ks).all (·.fi) = true := Q3p ih
   simp only [gF, Q1g, fl1, rB, e0, h2, Q3o hw, zE h1]
   simp
theorem Q5e {s : ByteArray} {ws : List Wd} {n : Nat} (h : Q28 s ws n = true) : NM.right s = true ∧ ws = [] ∧ n = 0 := by
 simpa [Q28] using h
theorem Q48 {s : ByteArray} {ws : List Wd} (h : brB s ws = true) : s = e0 ∧ ws = [] := by
 simpa [brB, e0] using h
theorem Q3q {ks : List Nd} (h : (fls ks).length = 0) : ks = [] := by rw [Q29] at h; exact List.length_eq_zero_iff.1 h
theorem Qas {k : Int} {p s A c ws B d ks} (ih : ∀ y ∈ ks, (fl y).c = true → W 1 y) (h : atB k s ws (fls ks) = true) : W 5 (.mk k p s A c ws B d ks) := by
 unfold atB at h
 split at h
 ·rename_i hk
  obtain ⟨h1, rfl, h3⟩ := Q5e h
  obtain rfl := Q3q h3
  subst hk; exact .var h1
 ·split at h
  ·rename_i hk
   simp only [Bool.and_eq_true, decide_eq_true_eq] at h
   obtain ⟨h1, h2, h3⟩ := h
   obtain ⟨rfl, rfl⟩ := Q48 h1
   rw [Q29] at h2
   obtain ⟨y, rfl⟩ := List.length_eq_one_iff.1 h2
   subst hk
   refine .const (ih y (by simp) ?_)
   rw [Q3l] at h3
   exact h3
  ·cases h
theorem Qat : ∀ l : List Nd, ∀ x ∈ l, ((fl x).c = true → W 1 x) ∧ ((fl x).ru = true → W 2 x) ∧ ((fl x).l = true → W 3 x) ∧ ((fl x).fi = true → W 4 x) ∧ ((fl x).at' = true → W 5 x) ∧ ((fl x).r = true → W 6 x) := by
 refine ind (by simp) fun k p s A c ws B d ks r h1 h2 x hx => ?_
 rcases List.mem_cons.1 hx with rfl | hx
 ·rw [Q1g]
  have hat := fun h => Qas (p := p) (A := A) (c := c) (B := B) (d := d) (k := k) (s := s) (ws := ws) (fun y hy => (h1 y hy).1) h
  refine ⟨fun h => ?_, fun h => ?_, fun h => ?_, fun h => ?_, fun h => hat h, fun h => ?_⟩
  ·have h : cB k s ws (fls ks) = true := h
   unfold cB at h
   split at h
   ·rename_i hk
    obtain ⟨h3, rfl, h4⟩ := Q5e h
    obtain rfl := Q3q h4
    subst hk; exact .point h3
   ·split at h
    ·rename_i hk
     simp only [Bool.and_eq_true, decide_eq_true_eq] at h
     obtain ⟨rfl, h3, h4⟩ := h
     obtain rfl := Q3q h3
     subst hk; exact .set (Q5d h4)
    ·split at h
     ·rename_i hk
      simp only [Bool.and_eq_true, decide_eq_true_eq] at h
      obtain ⟨h3, h4, h5⟩ := h
      obtain ⟨rfl, rfl⟩ := Q48 h3
      subst hk
      rw [Q29] at h4
      exact .tuple (List.length_pos_iff.1 h4) fun y hy => (h1 y hy).1 (Q46 h5 y hy)
     ·split at h
      ·rename_i hk
       simp only [Bool.and_eq_true] at h
       obtain ⟨h3, h5⟩ := h
       obtain ⟨rfl, rfl⟩ := Q48 h3
       subst hk
       exact .grid fun y hy => (h1 y hy).2.1 (Q46 h5 y hy)
      ·cases h
  ·have h : ruB k s ws (fls ks).length = true := h
   unfold ruB at h
   simp only [Bool.and_eq_true, decide_eq_true_eq] at h
   obtain ⟨rfl, h3, h4, h5⟩ := h
   obtain rfl := Q3q h4
   exact .rule h3 (Q5d h5)
  ·have h : lB k s ws (fls ks) = true := h
   unfold lB at h
   split at h
   ·rename_i hk
    simp only [Bool.and_eq_true, decide_eq_true_eq] at h
    obtain ⟨h3, h4, h5⟩ := h
    obtain ⟨rfl, rfl⟩ := Q48 h3
    rw [Q29] at h4
    have h6 : ∀ y ∈ ks, W 3 y := fun y hy => (h1 y hy).2.2.1 (Q46 h5 y hy)
    rcases hk with rfl | rfl
    ·exact .join (List.length_pos_iff.1 h4) h6
    ·exact .meet (List.length_pos_iff.1 h4) h6
   ·exact .atom (hat h)
  ·have h : fiB k s ws (fls ks) = true := h
   unfold fiB at h
   simp only [Bool.and_eq_true, decide_eq_true_eq] at h
   obtain ⟨rfl, h3, h4, h5, h6⟩ := h
   obtain rfl := List.length_eq_zero_iff.1 h4
   rw [Q29] at h5
   obtain ⟨y, rfl⟩ := List.length_eq_one_iff.1 h5
   rw [Q3l] at h6
   exact .field h3 ((h1 y (by simp)).2.2.2.2.1 h6)
  ·have h : rB k s ws (fls ks) = true := h
   unfold rB at h
   split at h
   ·rename_i hk
    obtain ⟨h3, rfl, h4⟩ := Q5e h
    obtain rfl := Q3q h4
    subst hk; exact .rvar h3
   ·split at h
    ·rename_i hk
     simp only [Bool.and_eq_true, decide_eq_true_eq] at h
     obtain ⟨rfl, h3, h4, h5⟩ := h
     subst hk
     exact .row h3 (Q5d h4) fun y hy => (h1 y hy).2.2.2.1 (Q46 h5 y hy)
    ·cases h
 ·exact h2 x hx
theorem w_of {n : Nat} {x : Nd} (h : gF n (fl x) = true) : W n x := by
 have h1 := Qat [x] x (by simp)
 unfold gF at h
 split at h
 ·exact h1.1 h
 ·exact h1.2.1 h
 ·exact h1.2.2.1 h
 ·exact h1.2.2.2.1 h
 ·exact h1.2.2.2.2.1 h
 ·exact h1.2.2.2.2.2 h
 ·cases h
abbrev Ky := Nat × ByteArray
def kyT (t : Tk) : Ky := (t.k, t.s)
def sg (c : Nat) : Ky := (c, chr c)
def jkt : List (List Ky) → List Ky
 | [] => []
 | x :: r => sg 44 :: (x ++ jkt r)
def jkc : List (List Ky) → List Ky
 | [] => []
 | x :: r => x ++ jkt r
def ky1 (k : Int) (s : ByteArray) (ws ks : List (List Ky)) : List Ky :=
 if k = 1 ∨ k = 2 then [(97, s)]
 else if k = 7 then sg 35 :: ks.headD []
 else if k = 11 then (97, s) :: sg 61 :: ks.headD []
 else if k = 4 then sg 40 :: (jkc ks ++ [sg 41])
 else if k = 8 then sg 43 :: sg 40 :: (jkc ks ++ [sg 41])
 else if k = 9 then sg 38 :: sg 40 :: (jkc ks ++ [sg 41])
 else if k = 5 then sg 91 :: (jkc ks ++ [sg 93])
 else if k = 3 then sg 123 :: (jkc ws ++ [sg 125])
 else if k = 6 then (97, s) :: sg 58 :: sg 123 :: (jkc ws ++ [sg 125])
 else if k = 10 then sg 91 :: ((jkc ks ++ (if ws = [] then [] else sg 124 :: jkc ws)) ++ [sg 93])
 else []
def kw (w : Wd) : List Ky := [(97, w.s)]
def kyn : List Nd → List (List Ky)
 | [] => []
 | .mk k _ s _ _ ws _ _ ks :: r => ky1 k s (ws.map kw) (kyn ks) :: kyn r
def ky (x : Nd) : List Ky := ky1 x.k x.s (x.ws.map kw) (kyn x.ks)
theorem Qau (l : List Nd) : kyn l = l.map ky := by
 induction l with
 | nil => simp [kyn]
 | cons x r ih => obtain ⟨k, p, s, A, c, ws, B, d, ks⟩ := x; rw [kyn, ih]; rfl
theorem Q1o {k p s A c ws B d ks} : ky (.mk k p s A c ws B d ks) = ky1 k s (ws.map kw) (ks.map ky) := by rw [← Qau]; rfl
end TM
end
section
namespace TM
open LX TR
def kyf (us : List Tr) : List Ky := (flat us).map kyT
theorem Q1w (a b : List Tr) : kyf (a ++ b) = kyf a ++ kyf b := by unfold kyf; rw [Qdm, List.map_append]
theorem Q2R : kyf [] = [] := by simp [kyf, flat, evs]
theorem Q1x (x : Tr) (r : List Tr) : kyf (x :: r) = kyf [x] ++ kyf r := Q1w [x] r
theorem Q1W {x : Tr} (h : cl x.t.k = 0) : kyf [x] = [kyT x.t] := by
 obtain ⟨t, A, c, ks, e⟩ := x
 have h' : cl t.k = 0 := h
 simp [kyf, flat, evs, h', Tr.t]
theorem Qav {x : Tr} (h : ¬ cl x.t.k = 0) : kyf [x] = kyT x.t :: (kyf x.ks ++ [sg (cl x.t.k)]) := by
 obtain ⟨t, A, c, ks, e⟩ := x
 have h' : ¬ cl t.k = 0 := h
 simp [kyf, flat, evs, h', Tr.t, Tr.ks, kyT, sg]
def Good (ts : List Tr) : Prop := ∀ y ∈ nodes ts, Q1s y.t = true
theorem Qaw (x : Tr) (r : List Tr) : nodes (x :: r) = x :: (nodes x.ks ++ nodes r) := by cases x; rw [nodes]; rfl
theorem Good.cons {x : Tr} {r : List Tr} (h : Good (x :: r)) : Q1s x.t = true ∧ Good x.ks ∧ Good r := by
 unfold Good at h
 rw [Qaw] at h
 exact ⟨h x (by simp), fun y hy => h y (by simp [hy]), fun y hy => h y (by simp [hy])⟩
theorem Good.right {a b : List Tr} (h : Good (a ++ b)) : Good b := fun y hy => h y (by rw [Q2u]; exact List.mem_append_right _ hy)
theorem Q2r {t : Tk} (hr : Q1s t = true) (h97 : ¬ t.k = 97) : kyT t = sg t.k := by
 obtain ⟨q, s, p⟩ := t
 rw [Q3D h97] at hr
 simp only [Bool.and_eq_true, decide_eq_true_eq] at hr
 obtain ⟨_, h2, h3⟩ := hr
 have hs : s = chr q := by
  obtain ⟨⟨d⟩⟩ := s
  match d, h2 with
  | [x], _ =>
    have h4 : x.toNat = q := h3
    unfold chr
    rw [← h4]
    simp
 show (q, s) = (q, chr q)
 rw [hs]
theorem Q5f {k : Nat} {ts : List Tr} {e : Int} {t : Tk} {r : List Tr} (h : Q0d k ts e = .ok (t, r)) : ∃ x, ts = x :: r ∧ x.t = t ∧ x.t.k = k := by
 cases ts with
 | nil => cases h
 | cons x q =>
   simp only [Q0d] at h
   split at h
   ·rename_i hk
    injection h with h
    injection h with h1 h2
    subst h2
    exact ⟨x, rfl, h1, hk⟩
   ·cases h
theorem Q0p {α β : Type} {x : Res α} {f : α → List Tr → Res β} {b : β × List Tr} (h : bnd x f = .ok b) : ∃ a r, x = .ok (a, r) ∧ f a r = .ok b := by
 unfold bnd at h
 split at h
 ·cases h
 ·exact ⟨_, _, rfl, h⟩
theorem Q0q {α : Type} {a b : α} {r s : List Tr} (h : (Except.ok (a, r) : Res α) = .ok (b, s)) : a = b ∧ r = s := by
 injection h with h
 injection h with h1 h2
 exact ⟨h1, h2⟩
def Snd {α : Type} (rd : Rdr α) (ok : α → Prop) (g : α → List Ky) : Prop := ∀ ts e a r, Good ts → rd ts e = .ok (a, r) → ∃ us, ts = us ++ r ∧ ok a ∧ kyf us = g a
theorem Q5g {k : Nat} {ts : List Tr} {e : Int} {t : Tk} {r : List Tr} (hg : Good ts) (h0 : cl k = 0) (h97 : ¬ k = 97) (h : Q0d k ts e = .ok (t, r)) : ∃ x, ts = x :: r ∧ Good r ∧ kyf [x] = [sg k] := by
 obtain ⟨x, rfl, rfl, rfl⟩ := Q5f h
 exact ⟨x, rfl, hg.cons.2.2, by rw [Q1W h0, Q2r hg.cons.1 h97]⟩
theorem Q2s {ts : List Tr} {e : Int} {w : Wd} {r : List Tr} (hg : Good ts) (h : Q05 ts e = .ok (w, r)) : ∃ x, ts = x :: r ∧ Good r ∧ kyf [x] = [(97, w.s)] ∧ NM.right w.s = true ∧ x.t.k = 97 ∧ x.t.s = w.s := by
 obtain ⟨t, r1, h1, h2⟩ := Q0p h
 obtain ⟨rfl, rfl⟩ := Q0q h2
 obtain ⟨x, rfl, rfl, hk⟩ := Q5f h1
 have hr := hg.cons.1
 rw [Q4F hk] at hr
 exact ⟨x, rfl, hg.cons.2.2, by rw [Q1W (by rw [hk]; rfl)]; unfold kyT; rw [hk], hr, hk, rfl⟩
theorem Q49 : Snd Q05 (fun w => NM.right w.s = true) kw := fun ts e w r hg h => by
 obtain ⟨x, rfl, _, h2, h3, _⟩ := Q2s hg h
 exact ⟨[x], rfl, h3, h2⟩
section
variable {α : Type} {el : Rdr α} {ok : α → Prop} {g : α → List Ky}
theorem Q6Q (h : Snd el ok g) : ∀ n ts e xs r, Good ts → Q0v el n ts e = .ok (xs, r) → ∃ us, ts = us ++ r ∧ (∀ x ∈ xs, ok x) ∧ kyf us = jkt (xs.map g)
 | 0, ts, e, xs, r, _, hr => by
   obtain ⟨rfl, rfl⟩ := Q0q hr
   exact ⟨[], rfl, by simp, Q2R⟩
 | n + 1, [], e, xs, r, _, hr => by
   obtain ⟨rfl, rfl⟩ := Q0q hr
   exact ⟨[], rfl, by simp, Q2R⟩
 | n + 1, c :: q, e, xs, r, hg, hr => by
   simp only [Q0v] at hr
   split at hr
   ·rename_i hk
    obtain ⟨x, r2, h1, h2⟩ := Q0p hr
    obtain ⟨ys, r3, h3, h4⟩ := Q0p h2
    obtain ⟨rfl, rfl⟩ := Q0q h4
    have hc := hg.cons
    obtain ⟨us1, rfl, ho, hf1⟩ := h q e x r2 hc.2.2 h1
    obtain ⟨us2, rfl, hos, hf2⟩ := Q6Q h n r2 e ys r3 hc.2.2.right h3
    have hcc : kyf [c] = [sg 44] := by rw [Q1W (by rw [hk]; rfl), Q2r hc.1 (by rw [hk]; decide), hk]
    refine ⟨c :: (us1 ++ us2), by simp, fun y hy => ?_, ?_⟩
    ·rcases List.mem_cons.1 hy with rfl | hy
     ·exact ho
     ·exact hos y hy
    ·rw [Q1x, Q1w, hcc, hf1, hf2]; rfl
   ·obtain ⟨rfl, rfl⟩ := Q0q hr
    exact ⟨[], rfl, by simp, Q2R⟩
theorem Q3r (h : Snd el ok g) : Snd (Q0c el) (fun xs => xs ≠ [] ∧ ∀ x ∈ xs, ok x) (fun xs => jkc (xs.map g)) := fun ts e xs r hg hr => by
 obtain ⟨x, r2, h1, h2⟩ := Q0p hr
 obtain ⟨ys, r3, h3, h4⟩ := Q0p h2
 obtain ⟨rfl, rfl⟩ := Q0q h4
 obtain ⟨us1, rfl, ho, hf1⟩ := h ts e x r2 hg h1
 obtain ⟨us2, rfl, hos, hf2⟩ := Q6Q h _ r2 e ys r3 hg.right h3
 refine ⟨us1 ++ us2, by simp, ⟨by simp, fun y hy => ?_⟩, ?_⟩
 ·rcases List.mem_cons.1 hy with rfl | hy
  ·exact ho
  ·exact hos y hy
 ·rw [Q1w, hf1, hf2]; rfl
theorem Q4a (h : Snd el ok g) : Snd (optR el) (fun xs => ∀ x ∈ xs, ok x) (fun xs => jkc (xs.map g)) := fun ts e xs r hg hr => by
 cases ts with
 | nil =>
   obtain ⟨rfl, rfl⟩ := Q0q hr
   exact ⟨[], rfl, by simp, Q2R⟩
 | cons x q =>
   simp only [optR] at hr
   split at hr
   ·obtain ⟨rfl, rfl⟩ := Q0q hr
    exact ⟨[], rfl, by simp, Q2R⟩
   ·obtain ⟨us, h1, h2, h3⟩ := Q3r h (x :: q) e xs r hg hr
    exact ⟨us, h1, h2.2, h3⟩
theorem Q2a {k : Nat} (hk0 : ¬ cl k = 0) (hk97 : ¬ k = 97) (h : Snd el ok g) : Snd (Q0f k el) ok (fun a => sg k :: (g a ++ [sg (cl k)])) := fun ts e a r hg hr => by
 cases ts with
 | nil => cases hr
 | cons x q =>
   simp only [Q0f] at hr
   split at hr
   ·rename_i hk
    obtain ⟨b, r2, h1, h2⟩ := Q0p hr
    cases r2 with
    | cons y r3 => cases h2
    | nil =>
      obtain ⟨rfl, rfl⟩ := Q0q h2
      have hc := hg.cons
      obtain ⟨us, h3, ho, hf⟩ := h x.ks x.e b [] hc.2.1 h1
      rw [List.append_nil] at h3
      subst h3
      refine ⟨[x], rfl, ho, ?_⟩
      rw [Qav (by rw [hk]; exact hk0), Q2r hc.1 (by rw [hk]; exact hk97), hk, hf]
   ·cases hr
end
theorem Q6R : Snd setR (fun ws => ∀ w ∈ ws, NM.right w.s = true) (fun ws => sg 123 :: (jkc (ws.map kw) ++ [sg 125])) := Q2a (k := 123) (by decide) (by decide) (Q4a Q49)
theorem Q1G {k p s ws ks} : ky (nd k p s ws ks) = ky1 k s (ws.map kw) (ks.map ky) := Q1o
theorem Qax : Snd Q0z (W 2) ky := fun ts e a r hg hr => by
 obtain ⟨w, r1, h1, h2⟩ := Q0p hr
 obtain ⟨_, r2, h3, h4⟩ := Q0p h2
 obtain ⟨ws, r3, h5, h6⟩ := Q0p h4
 obtain ⟨rfl, rfl⟩ := Q0q h6
 obtain ⟨x, rfl, hg1, hf1, hw, _, _⟩ := Q2s hg h1
 obtain ⟨y, rfl, hg2, hf2⟩ := Q5g hg1 (by rfl) (by decide) h3
 obtain ⟨us, rfl, ho, hf3⟩ := Q6R _ e ws _ hg2 h5
 refine ⟨x :: y :: us, rfl, .rule hw ho, ?_⟩
 rw [Q1x, Q1x y, hf1, hf2, hf3, Q1G]; rfl
theorem Q6S : ∀ d, Snd (Q0a d) (W 1) ky
 | 0 => fun ts e a r hg hr => by cases hr
 | d + 1 => fun ts e a r hg hr => by
   cases ts with
   | nil => cases hr
   | cons x q =>
     simp only [Q0a] at hr
     have hc := hg.cons
     split at hr
     ·rename_i hk
      obtain ⟨rfl, rfl⟩ := Q0q hr
      have h1 := hc.1
      rw [Q4F hk] at h1
      refine ⟨[x], rfl, .point h1, ?_⟩
      rw [Q1W (by rw [hk]; rfl), Q1G]; unfold kyT; rw [hk]; rfl
     ·split at hr
      ·obtain ⟨ws, r1, h1, h2⟩ := Q0p hr
       obtain ⟨rfl, rfl⟩ := Q0q h2
       obtain ⟨us, h3, ho, hf⟩ := Q6R _ e ws _ hg h1
       exact ⟨us, h3, .set ho, by rw [hf, Q1G]; rfl⟩
      ·split at hr
       ·obtain ⟨ks, r1, h1, h2⟩ := Q0p hr
        obtain ⟨rfl, rfl⟩ := Q0q h2
        obtain ⟨us, h3, ho, hf⟩ := Q2a (k := 40) (by decide) (by decide) (Q3r (Q6S d)) _ e ks _ hg h1
        exact ⟨us, h3, .tuple ho.1 ho.2, by rw [hf, Q1G]; rfl⟩
       ·split at hr
        ·obtain ⟨ks, r1, h1, h2⟩ := Q0p hr
         obtain ⟨rfl, rfl⟩ := Q0q h2
         obtain ⟨us, h3, ho, hf⟩ := Q2a (k := 91) (by decide) (by decide) (Q4a Qax) _ e ks _ hg h1
         exact ⟨us, h3, .grid ho, by rw [hf, Q1G]; rfl⟩
        ·cases hr
theorem Q6T {ts : List Tr} {e : Int} {a : Nd} {r : List Tr} (hg : Good ts) (hr : varR ts e = .ok (a, r)) : ∃ us p s, ts = us ++ r ∧ a = nd 1 p s [] [] ∧ NM.right s = true ∧ kyf us = ky a := by
 obtain ⟨w, r1, h1, h2⟩ := Q0p hr
 obtain ⟨rfl, rfl⟩ := Q0q h2
 obtain ⟨x, rfl, hg1, hf1, hw, _, _⟩ := Q2s hg h1
 exact ⟨[x], w.p, w.s, rfl, rfl, hw, by rw [hf1, Q1G]; rfl⟩
theorem Q6U (d : Nat) : Snd (Q0n d) (W 5) ky := fun ts e a r hg hr => by
 cases ts with
 | nil => cases hr
 | cons x q =>
   simp only [Q0n] at hr
   have hc := hg.cons
   split at hr
   ·rename_i hk
    obtain ⟨n, r1, h1, h2⟩ := Q0p hr
    obtain ⟨rfl, rfl⟩ := Q0q h2
    obtain ⟨us, rfl, ho, hf⟩ := Q6S d q e n _ hc.2.2 h1
    refine ⟨x :: us, rfl, .const ho, ?_⟩
    rw [Q1x, Q1W (by rw [hk]; rfl), Q2r hc.1 (by rw [hk]; decide), hk, hf, Q1G]; rfl
   ·obtain ⟨us, p, s, h1, rfl, h3, h4⟩ := Q6T hg hr
    exact ⟨us, h1, .var h3, h4⟩
theorem Q5h : ∀ d, Snd (Q09 d) (W 3) ky
 | 0 => fun ts e a r hg hr => by cases hr
 | d + 1 => fun ts e a r hg hr => by
   cases ts with
   | nil => cases hr
   | cons x q =>
     simp only [Q09] at hr
     have hc := hg.cons
     split at hr
     ·rename_i hk
      obtain ⟨ks, r1, h1, h2⟩ := Q0p hr
      obtain ⟨rfl, rfl⟩ := Q0q h2
      obtain ⟨us, rfl, ho, hf⟩ := Q2a (k := 40) (by decide) (by decide) (Q3r (Q5h d)) _ e ks _ hc.2.2 h1
      refine ⟨x :: us, rfl, .join ho.1 ho.2, ?_⟩
      rw [Q1x, Q1W (by rw [hk]; rfl), Q2r hc.1 (by rw [hk]; decide), hk, hf, Q1G]; rfl
     ·split at hr
      ·rename_i hk
       obtain ⟨ks, r1, h1, h2⟩ := Q0p hr
       obtain ⟨rfl, rfl⟩ := Q0q h2
       obtain ⟨us, rfl, ho, hf⟩ := Q2a (k := 40) (by decide) (by decide) (Q3r (Q5h d)) _ e ks _ hc.2.2 h1
       refine ⟨x :: us, rfl, .meet ho.1 ho.2, ?_⟩
       rw [Q1x, Q1W (by rw [hk]; rfl), Q2r hc.1 (by rw [hk]; decide), hk, hf, Q1G]; rfl
      ·obtain ⟨us, h1, h2, h3⟩ := Q6U (d + 1) _ e a r hg hr
       exact ⟨us, h1, .atom h2, h3⟩
theorem Qay (d : Nat) : Snd (Q0G d) (W 4) ky := fun ts e a r hg hr => by
 obtain ⟨w, r1, h1, h2⟩ := Q0p hr
 obtain ⟨_, r2, h3, h4⟩ := Q0p h2
 obtain ⟨n, r3, h5, h6⟩ := Q0p h4
 obtain ⟨rfl, rfl⟩ := Q0q h6
 obtain ⟨x, rfl, hg1, hf1, hw, _, _⟩ := Q2s hg h1
 obtain ⟨y, rfl, hg2, hf2⟩ := Q5g hg1 (by rfl) (by decide) h3
 obtain ⟨us, rfl, ho, hf3⟩ := Q6U d _ e n _ hg2 h5
 refine ⟨x :: y :: us, rfl, .field hw ho, ?_⟩
 rw [Q1x, Q1x y, hf1, hf2, hf3, Q1G]; rfl
theorem Qaz (d : Nat) : Snd (Q0Y d) (fun kw => (∀ y ∈ kw.1, W 4 y) ∧ kw.2.length ≤ 1 ∧ ∀ w ∈ kw.2, NM.right w.s = true) (fun a => jkc (a.1.map ky) ++ (if a.2.map kw = [] then [] else sg 124 :: jkc (a.2.map kw))) := fun ts e a r hg hr => by
 obtain ⟨ks, r1, h1, h2⟩ := Q0p hr
 obtain ⟨us, rfl, ho, hf⟩ := Q4a (Qay d) ts e ks r1 hg h1
 have hg1 := hg.right
 cases r1 with
 | nil =>
   obtain ⟨rfl, rfl⟩ := Q0q h2
   exact ⟨us, rfl, ⟨ho, by simp, by simp⟩, by rw [hf]; simp⟩
 | cons y q =>
   simp only [Q0W] at h2
   split at h2
   ·rename_i hk
    obtain ⟨w, r2, h3, h4⟩ := Q0p h2
    obtain ⟨rfl, rfl⟩ := Q0q h4
    obtain ⟨x, rfl, hg2, hf1, hw, _, _⟩ := Q2s hg1.cons.2.2 h3
    have hy : kyf [y] = [sg 124] := by rw [Q1W (by rw [hk]; rfl), Q2r hg1.cons.1 (by rw [hk]; decide), hk]
    refine ⟨us ++ [y, x], by simp, ⟨ho, by simp, by simpa using hw⟩, ?_⟩
    rw [Q1w, Q1x y, hy, hf, hf1]
    simp [jkc, jkt, kw]
   ·obtain ⟨rfl, rfl⟩ := Q0q h2
    exact ⟨us, rfl, ⟨ho, by simp, by simp⟩, by rw [hf]; simp⟩
theorem QaA (d : Nat) : Snd (rowR d) (W 6) ky := fun ts e a r hg hr => by
 cases ts with
 | nil => cases hr
 | cons x q =>
   simp only [rowR] at hr
   split at hr
   ·obtain ⟨ab, r1, h1, h2⟩ := Q0p hr
    obtain ⟨rfl, rfl⟩ := Q0q h2
    obtain ⟨us, h3, ho, hf⟩ := Q2a (k := 91) (by decide) (by decide) (Qaz d) _ e ab _ hg h1
    exact ⟨us, h3, .row ho.2.1 ho.2.2 ho.1, by rw [hf, Q1G]; rfl⟩
   ·obtain ⟨us, p, s, h1, rfl, h3, h4⟩ := Q6T hg hr
    exact ⟨us, h1, .rvar h3, h4⟩
theorem QaB {s : List Tk} {ts : List Tr} (h : Spells s ts) : ∀ y ∈ nodes ts, y.t ∈ s := by
 induction h with
 | nil => simp [nodes]
 | @leaf t l r _ _ _ ih =>
   intro y hy
   rw [nodes] at hy
   rcases List.mem_cons.1 hy with rfl | hy
   ·exact List.mem_cons_self
   ·rw [show nodes [] = [] by simp [nodes], List.nil_append] at hy
    exact List.mem_cons_of_mem _ (ih y hy)
 | @node t c l1 l2 ks r _ _ _ _ ih1 ih2 =>
   intro y hy
   rw [nodes] at hy
   rcases List.mem_cons.1 hy with rfl | hy
   ·exact List.mem_cons_self
   ·rcases List.mem_append.1 hy with hy | hy
    ·exact List.mem_cons_of_mem _ (List.mem_append_left _ (ih1 y hy))
    ·exact List.mem_cons_of_mem _ (List.mem_append_right _ (List.mem_cons_of_mem _ (ih2 y hy)))
theorem QaC {s : ByteArray} {a : Nat} {l : List Tk} (h : Placed s a l) : ∀ t ∈ l, Q1s t = true := by
 induction h with
 | nil => simp
 | cons a p t l hp ha hl hs hr hb h ih =>
   intro u hu
   rcases List.mem_cons.1 hu with rfl | hu
   ·exact hr
   ·exact ih u hu
theorem QaD (s : ByteArray) : Good (trOf s) := by
 unfold trOf
 split
 ·intro y hy; simp [nodes] at hy
 ·rename_i R hR
  obtain ⟨l, h1, h2⟩ := Q5S 0 [] R hR
  obtain rfl : R = l := by simpa using h1
  have h3 := QaC h2
  split
  ·intro y hy; simp [nodes] at hy
  ·rename_i ts hts
   exact fun y hy => h3 _ (QaB (Q4v hts).1 y hy)
end TM
end
section
namespace CM
open LX TR TM
theorem QaE : EI Q0w := by
 have h1 : ∀ a : Wd, EI (fun ts e => bnd (Q0d 60 ts e) fun _ r2 => bnd (Q05 r2 e) fun b r3 => .ok ((⟨a, b⟩ : Pw), r3)) := fun a =>
  EI.bind (rd2 := fun _ ts e => bnd (Q05 ts e) fun b r3 => .ok ((⟨a, b⟩ : Pw), r3)) (TM.ei_take 60) fun _ => EI.map (fun b => (⟨a, b⟩ : Pw)) Q1O
 exact EI.bind (rd2 := fun a ts e => bnd (Q0d 60 ts e) fun _ r2 => bnd (Q05 r2 e) fun b r3 => .ok ((⟨a, b⟩ : Pw), r3)) Q1O h1
theorem QaF : EI prsR := Q2g 123 (Q4m QaE)
theorem QaG (ts : List Tr) (e : Int) : Q00 (TR.er ts) e = Q00 ts e := by
 cases ts with
 | nil => rw [Q16]
 | cons x r => rw [Q15]; rfl
theorem QaH (D k : Nat) (s : Cs) : EI (Q0b D k s) := fun ts e => by
 unfold Q0b
 split
 ·exact (EI.map (fun w => (⟨w, s.ws, s.ps, s.pp, s.ts⟩ : Cs)) Q1O) ts e
 ·split
  ·exact (EI.map (fun w => (⟨s.n, [w], s.ps, s.pp, s.ts⟩ : Cs)) Q1O) ts e
  ·split
   ·exact (EI.map (fun l => (⟨s.n, l, s.ps, s.pp, s.ts⟩ : Cs)) Qcs) ts e
   ·split
    ·rw [QaG]
     exact (EI.map (fun l => (⟨s.n, s.ws, l, Q00 ts e, s.ts⟩ : Cs)) QaF) ts e
    ·split
     ·exact (EI.map (fun z => (⟨s.n, s.ws, s.ps, s.pp, s.ts ++ [z]⟩ : Cs)) (Qcx D)) ts e
     ·exact (EI.map (fun z => (⟨s.n, s.ws, s.ps, s.pp, s.ts ++ [z]⟩ : Cs)) (Q5A D)) ts e
theorem Q6V (D : Nat) : ∀ ks s, EI (Q0m D ks s)
 | [], s => EI.pure s
 | k :: ks, s => EI.bind (rd2 := fun s2 ts e => Q0m D ks s2 ts e) (QaH D k s) fun s2 => Q6V D ks s2
theorem Q4b (D : Nat) (ts : List Tr) (e : Int) : cmdR D (TR.er ts) e = cmdR D ts e := by
 cases ts with
 | nil => rw [Q16]
 | cons x r =>
   rw [Q15]
   have hp := Q6V D (ltl (numOf x.t.s)) s0 r e
   unfold cmdR
   simp only [show (Tr.mk x.t none 0 (TR.er x.ks) x.e).t = x.t from rfl]
   rw [hp]
   split
   ·cases Q0m D (ltl (numOf x.t.s)) s0 r e with
    | error p => rfl
    | ok sr =>
      obtain ⟨s, r2⟩ := sr
      cases r2 with
      | nil => simp only [mapR, Q16]
      | cons y r3 => simp only [mapR, Q15]; rfl
   ·rfl
theorem Q6W (k : Nat) (h : k < 16) : ltl k = [] ∨ ltl k = [110] ∨ ltl k = [110, 119] ∨ ltl k = [110, 119, 112] ∨ ltl k = [110, 116, 116] ∨ ltl k = [110, 114, 114] ∨ ltl k = [110, 102] := by
 have : ∀ k : Fin 16, ltl (k.val : Int) = [] ∨ ltl (k.val : Int) = [110] ∨ ltl (k.val : Int) = [110, 119] ∨ ltl (k.val : Int) = [110, 119, 112] ∨ ltl (k.val : Int) = [110, 116, 116] ∨ ltl (k.val : Int) = [110, 114, 114] ∨ ltl (k.val : Int) = [110, 102] := by decide
 exact this ⟨k, h⟩
def prB (ps : List Pw) : Bool := ps.all fun p => NM.right p.a.s && NM.right p.b.s
def riL (L : List Nat) (x : Cm) : Bool :=
 (if L.contains 110 then NM.right x.n.s else decide (x.n.s = ⟨#[]⟩)) &&
 ((if L.contains 102 then decide (x.ws.length = 1) else if L.contains 119 then decide (0 < x.ws.length) else decide (x.ws.length = 0)) &&
 ((if L.contains 112 then true else decide (x.ps.length = 0)) &&
 (if L.contains 116 then (fl x.l).l && (fl x.r).l else if L.contains 114 then (fl x.l).r && (fl x.r).r else sm x.l n0 && sm x.r n0)))
def riC (x : Cm) : Bool := decide (0 ≤ x.op ∧ x.op < 16) && (wrB x.ws && (prB x.ps && riL (ltl x.op) x))
def kp (p : Pw) : List Ky := [(97, p.a.s), sg 60, (97, p.b.s)]
def pky (x : Cm) : List Nat → List Nd → List (List Ky)
 | [], _ => []
 | k :: ks, ts => (if k = 110 then [(97, x.n.s)]
   else if k = 102 then jkc (x.ws.map kw)
   else if k = 119 then sg 123 :: (jkc (x.ws.map kw) ++ [sg 125])
   else if k = 112 then sg 123 :: (jkc (x.ps.map kp) ++ [sg 125])
   else ky (ts.headD n0)) :: pky x ks (if k = 110 ∨ k = 102 ∨ k = 119 ∨ k = 112 then ts else ts.tail)
def kyC (x : Cm) : List Ky := (97, wrd x.op) :: (pky x (ltl x.op) [x.l, x.r]).flatten
theorem QaI : Snd Q0w (fun p => NM.right p.a.s = true ∧ NM.right p.b.s = true) kp := fun ts e p r hg h => by
 obtain ⟨a, r1, h1, h2⟩ := Q0p h
 obtain ⟨_, r2, h3, h4⟩ := Q0p h2
 obtain ⟨b, r3, h5, h6⟩ := Q0p h4
 obtain ⟨rfl, rfl⟩ := Q0q h6
 obtain ⟨x, rfl, hg1, hf1, ha, _, _⟩ := Q2s hg h1
 obtain ⟨y, rfl, hg2, hf2⟩ := Q5g hg1 (by rfl) (by decide) h3
 obtain ⟨z, rfl, _, hf3, hb, _, _⟩ := Q2s hg2 h5
 refine ⟨[x, y, z], rfl, ⟨ha, hb⟩, ?_⟩
 rw [Q1x, Q1x y, hf1, hf2, hf3]; rfl
theorem QaJ : Snd prsR (fun ps => ∀ p ∈ ps, NM.right p.a.s = true ∧ NM.right p.b.s = true) (fun ps => sg 123 :: (jkc (ps.map kp) ++ [sg 125])) := Q2a (k := 123) (by decide) (by decide) (Q4a QaI)
theorem QaK : Snd Q0K (fun ws => ws ≠ [] ∧ ∀ w ∈ ws, NM.right w.s = true) (fun ws => sg 123 :: (jkc (ws.map kw) ++ [sg 125])) := Q2a (k := 123) (by decide) (by decide) (Q3r Q49)
section
variable {D : Nat} {s s2 : Cs} {ts r : List Tr} {e : Int}
theorem Q2S (hg : TM.Good ts) (h : Q0b D 110 s ts e = .ok (s2, r)) : ∃ us w, ts = us ++ r ∧ NM.right w.s = true ∧ kyf us = [(97, w.s)] ∧ s2 = ⟨w, s.ws, s.ps, s.pp, s.ts⟩ := by
 unfold Q0b at h
 rw [if_pos rfl] at h
 obtain ⟨w, r1, h1, h2⟩ := Q0p h
 obtain ⟨rfl, rfl⟩ := Q0q h2
 obtain ⟨us, h3, h4, h5⟩ := Q49 _ _ _ _ hg h1
 exact ⟨us, w, h3, h4, h5, rfl⟩
theorem QaL (hg : TM.Good ts) (h : Q0b D 102 s ts e = .ok (s2, r)) : ∃ us w, ts = us ++ r ∧ NM.right w.s = true ∧ kyf us = [(97, w.s)] ∧ s2 = ⟨s.n, [w], s.ps, s.pp, s.ts⟩ := by
 unfold Q0b at h
 rw [if_neg (by decide), if_pos rfl] at h
 obtain ⟨w, r1, h1, h2⟩ := Q0p h
 obtain ⟨rfl, rfl⟩ := Q0q h2
 obtain ⟨us, h3, h4, h5⟩ := Q49 _ _ _ _ hg h1
 exact ⟨us, w, h3, h4, h5, rfl⟩
theorem Q6X (hg : TM.Good ts) (h : Q0b D 119 s ts e = .ok (s2, r)) : ∃ us l, ts = us ++ r ∧ (l ≠ [] ∧ ∀ w ∈ l, NM.right w.s = true) ∧ kyf us = sg 123 :: (jkc (l.map kw) ++ [sg 125]) ∧ s2 = ⟨s.n, l, s.ps, s.pp, s.ts⟩ := by
 unfold Q0b at h
 rw [if_neg (by decide), if_neg (by decide), if_pos rfl] at h
 obtain ⟨w, r1, h1, h2⟩ := Q0p h
 obtain ⟨rfl, rfl⟩ := Q0q h2
 obtain ⟨us, h3, h4, h5⟩ := QaK _ _ _ _ hg h1
 exact ⟨us, w, h3, h4, h5, rfl⟩
theorem QaM (hg : TM.Good ts) (h : Q0b D 112 s ts e = .ok (s2, r)) : ∃ us l, ts = us ++ r ∧ (∀ p ∈ l, NM.right p.a.s = true ∧ NM.right p.b.s = true) ∧ kyf us = sg 123 :: (jkc (l.map kp) ++ [sg 125]) ∧ s2 = ⟨s.n, s.ws, l, Q00 ts e, s.ts⟩ := by
 unfold Q0b at h
 rw [if_neg (by decide), if_neg (by decide), if_neg (by decide), if_pos rfl] at h
 obtain ⟨w, r1, h1, h2⟩ := Q0p h
 obtain ⟨rfl, rfl⟩ := Q0q h2
 obtain ⟨us, h3, h4, h5⟩ := QaJ _ _ _ _ hg h1
 exact ⟨us, w, h3, h4, h5, rfl⟩
theorem Q6Y (hg : TM.Good ts) (h : Q0b D 114 s ts e = .ok (s2, r)) : ∃ us z, ts = us ++ r ∧ W 6 z ∧ kyf us = ky z ∧ s2 = ⟨s.n, s.ws, s.ps, s.pp, s.ts ++ [z]⟩ := by
 unfold Q0b at h
 rw [if_neg (by decide), if_neg (by decide), if_neg (by decide), if_neg (by decide), if_pos rfl] at h
 obtain ⟨w, r1, h1, h2⟩ := Q0p h
 obtain ⟨rfl, rfl⟩ := Q0q h2
 obtain ⟨us, h3, h4, h5⟩ := QaA D _ _ _ _ hg h1
 exact ⟨us, w, h3, h4, h5, rfl⟩
theorem Q6Z (hg : TM.Good ts) (h : Q0b D 116 s ts e = .ok (s2, r)) : ∃ us z, ts = us ++ r ∧ W 3 z ∧ kyf us = ky z ∧ s2 = ⟨s.n, s.ws, s.ps, s.pp, s.ts ++ [z]⟩ := by
 unfold Q0b at h
 rw [if_neg (by decide), if_neg (by decide), if_neg (by decide), if_neg (by decide), if_neg (by decide)] at h
 obtain ⟨w, r1, h1, h2⟩ := Q0p h
 obtain ⟨rfl, rfl⟩ := Q0q h2
 obtain ⟨us, h3, h4, h5⟩ := Q5h D _ _ _ _ hg h1
 exact ⟨us, w, h3, h4, h5, rfl⟩
end
theorem Q1a {D k : Nat} {ks : List Nat} {s s2 : Cs} {ts r : List Tr} {e : Int} (h : Q0m D (k :: ks) s ts e = .ok (s2, r)) : ∃ s1 r1, Q0b D k s ts e = .ok (s1, r1) ∧ Q0m D ks s1 r1 e = .ok (s2, r) := by
 unfold Q0m at h
 obtain ⟨s1, r1, h1, h2⟩ := Q0p h
 exact ⟨s1, r1, h1, h2⟩
theorem Q2b {D : Nat} {s s2 : Cs} {ts r : List Tr} {e : Int} (h : Q0m D [] s ts e = .ok (s2, r)) : s = s2 ∧ ts = r := by
 unfold Q0m at h
 exact Q0q h
theorem Q3s : sm n0 n0 = true := by unfold n0 nd; rw [Q6P]; rfl
theorem QaN {ps : List Pw} (h : ∀ p ∈ ps, NM.right p.a.s = true ∧ NM.right p.b.s = true) : prB ps = true := by
 unfold prB
 rw [List.all_eq_true]
 exact fun p hp => by rw [(h p hp).1, (h p hp).2]; rfl
theorem QaO {D k : Nat} (hk : k < 16) {ts r : List Tr} {e p : Int} {s : Cs} (hg : TM.Good ts) (h : Q0m D (ltl k) s0 ts e = .ok (s, r)) :
 ∃ us, ts = us ++ r ∧ riC (finC k p s) = true ∧ kyf us = (pky (finC k p s) (ltl k) [(finC k p s).l, (finC k p s).r]).flatten := by
 have hop : decide ((0 : Int) ≤ (k : Int) ∧ (k : Int) < 16) = true := zE (by omega)
 have hri : ∀ x : Cm, x.op = k → riC x = (wrB x.ws && (prB x.ps && riL (ltl k) x)) := fun x hx => by unfold riC; rw [hx, hop]; rfl
 rw [hri _ rfl]
 rcases Q6W k hk with hL | hL | hL | hL | hL | hL | hL
 all_goals rw [hL] at h ⊢
 ·obtain ⟨rfl, rfl⟩ := Q2b h
  exact ⟨[], rfl, by simp [riL, finC, s0, wrB, prB, Q3s, w0], by simp [pky, Q2R]⟩
 ·obtain ⟨s1, r1, h1, h⟩ := Q1a h
  obtain ⟨u1, w, rfl, hw, hf, rfl⟩ := Q2S hg h1
  obtain ⟨rfl, rfl⟩ := Q2b h
  exact ⟨u1, rfl, by simp [riL, finC, hw, s0, wrB, prB, Q3s], by simp [pky, finC, hf]⟩
 ·obtain ⟨s1, r1, h1, h⟩ := Q1a h
  obtain ⟨u1, w, rfl, hw, hf, rfl⟩ := Q2S hg h1
  obtain ⟨s2, r2, h2, h⟩ := Q1a h
  obtain ⟨u2, l, rfl, hl, hf2, rfl⟩ := Q6X hg.right h2
  obtain ⟨rfl, rfl⟩ := Q2b h
  exact ⟨u1 ++ u2, by simp, by simp [riL, finC, hw, s0, Q3o hl.2, prB, Q3s, List.length_pos_iff.2 hl.1], by rw [Q1w]; simp [pky, finC, hf, hf2]⟩
 ·obtain ⟨s1, r1, h1, h⟩ := Q1a h
  obtain ⟨u1, w, rfl, hw, hf, rfl⟩ := Q2S hg h1
  obtain ⟨s2, r2, h2, h⟩ := Q1a h
  obtain ⟨u2, l, rfl, hl, hf2, rfl⟩ := Q6X hg.right h2
  obtain ⟨s3, r3, h3, h⟩ := Q1a h
  obtain ⟨u3, q, rfl, hq, hf3, rfl⟩ := QaM hg.right.right h3
  obtain ⟨rfl, rfl⟩ := Q2b h
  exact ⟨u1 ++ (u2 ++ u3), by simp, by simp [riL, finC, hw, s0, Q3o hl.2, QaN hq, Q3s, List.length_pos_iff.2 hl.1], by rw [Q1w, Q1w]; simp [pky, finC, hf, hf2, hf3]⟩
 ·obtain ⟨s1, r1, h1, h⟩ := Q1a h
  obtain ⟨u1, w, rfl, hw, hf, rfl⟩ := Q2S hg h1
  obtain ⟨s2, r2, h2, h⟩ := Q1a h
  obtain ⟨u2, y, rfl, hy, hf2, rfl⟩ := Q6Z hg.right h2
  obtain ⟨s3, r3, h3, h⟩ := Q1a h
  obtain ⟨u3, z, rfl, hz, hf3, rfl⟩ := Q6Z hg.right.right h3
  obtain ⟨rfl, rfl⟩ := Q2b h
  have e1 : (fl y).l = true := Q47 hy
  have e2 : (fl z).l = true := Q47 hz
  exact ⟨u1 ++ (u2 ++ u3), by simp, by simp [riL, finC, hw, s0, wrB, prB, e1, e2], by rw [Q1w, Q1w]; simp [pky, finC, hf, hf2, hf3, s0]⟩
 ·obtain ⟨s1, r1, h1, h⟩ := Q1a h
  obtain ⟨u1, w, rfl, hw, hf, rfl⟩ := Q2S hg h1
  obtain ⟨s2, r2, h2, h⟩ := Q1a h
  obtain ⟨u2, y, rfl, hy, hf2, rfl⟩ := Q6Y hg.right h2
  obtain ⟨s3, r3, h3, h⟩ := Q1a h
  obtain ⟨u3, z, rfl, hz, hf3, rfl⟩ := Q6Y hg.right.right h3
  obtain ⟨rfl, rfl⟩ := Q2b h
  have e1 : (fl y).r = true := Q47 hy
  have e2 : (fl z).r = true := Q47 hz
  exact ⟨u1 ++ (u2 ++ u3), by simp, by simp [riL, finC, hw, s0, wrB, prB, e1, e2], by rw [Q1w, Q1w]; simp [pky, finC, hf, hf2, hf3, s0]⟩
 ·obtain ⟨s1, r1, h1, h⟩ := Q1a h
  obtain ⟨u1, w, rfl, hw, hf, rfl⟩ := Q2S hg h1
  obtain ⟨s2, r2, h2, h⟩ := Q1a h
  obtain ⟨u2, v, rfl, hv, hf2, rfl⟩ := QaL hg.right h2
  obtain ⟨rfl, rfl⟩ := Q2b h
  exact ⟨u1 ++ u2, by simp, by simp [riL, finC, hw, hv, s0, wrB, prB, Q3s], by rw [Q1w]; simp [pky, finC, hf, hf2, jkc, jkt, kw]⟩
theorem QaP {D : Nat} {ts : List Tr} {e : Int} {x : Cm} (hg : TM.Good ts) (h : cmdR D ts e = .ok x) (hne : ts ≠ []) : riC x = true ∧ kyf ts = kyC x ∧ 1 ≤ x.op ∧ x.op < 16 := by
 cases ts with
 | nil => exact absurd rfl hne
 | cons y r =>
   unfold cmdR at h
   simp only at h
   split at h
   ·rename_i hc
    have hlt := Q3j y.t.s
    cases hp : Q0m D (ltl (numOf y.t.s)) s0 r e with
    | error p => rw [hp] at h; cases h
    | ok sr =>
      obtain ⟨s, r2⟩ := sr
      rw [hp] at h
      cases r2 with
      | cons z r3 => cases h
      | nil =>
        injection h with h
        obtain ⟨us, h1, h2, h3⟩ := QaO (p := y.t.p) hlt hg.cons.2.2 hp
        rw [List.append_nil] at h1
        subst h1 h
        refine ⟨h2, ?_, by show (1 : Int) ≤ (numOf y.t.s : Nat); omega, by show ((numOf y.t.s : Nat) : Int) < 16; omega⟩
        rw [Q1x, h3, Q1W (by rw [hc.1]; rfl)]
        unfold kyC kyT
        show (y.t.k, y.t.s) :: _ = (97, wrd ((numOf y.t.s : Nat) : Int)) :: _
        rw [Q45 hlt, Q59 hc.2, hc.1]; rfl
   ·cases h
end CM
end
section
open Go.RowKit LX TR TM DT CM
theorem QaQ (op : Int) (w : World) : Calls Tryz.prog 19 #[.int .i64 op] w fun e w' => e = .returned (.string (wrd op)) ∧ Below w.heap.size w w' := by
 have hcs : (kws.map Value.string).toArray.size = 16 := rfl
 have hrow := RowAt.new w 9 (kws.map Value.string).toArray
 have hb : Below w.heap.size w (w.alloc (.cells (kws.map Value.string).toArray 9)) := (zB _ _).alloc (zL _) _
 have HB := zh hb
 by_cases h0 : op < 0
 ·rw [Q44 (by omega)]
  have e0 : decide (op < 0) = true := zE h0
  clear hcs hrow hb
  go_enter Tryz.func19, Tryz.ntmps19
  go_wp2_with fail
  go_ret
  exact ⟨rfl, HB.out⟩
 ·have e0 : decide (op < 0) = false := zF h0
  by_cases h1 : 16 ≤ op
  ·rw [Q44 (by omega)]
   have e1 : decide ((16 : Int) ≤ op) = true := zE h1
   clear hcs hrow hb
   go_enter Tryz.func19, Tryz.ntmps19
   go_wp2_with fail
   go_ret
   exact ⟨rfl, HB.out⟩
  ·obtain ⟨k, rfl, hk⟩ := Q2p (op := op) (by omega)
   have e1 : decide ((16 : Int) ≤ (k : Int)) = false := zF h1
   have hc : (w.alloc (.cells (kws.map Value.string).toArray 9)).cell? ⟨w.heap.size, k, none⟩ = some (.string (kws.getD k ⟨#[]⟩)) := by
        rw [hrow.cell k]
        have hkl : k < kws.length := hk
        rw [zA1, List.getElem?_map, List.getElem?_eq_getElem hkl, List.getD_eq_getElem?_getD, List.getElem?_eq_getElem hkl]
        rfl
   have HC := zh hc
   rw [Q45 hk]
   have hk2 : (k : Int) < 16 := by omega
   clear h0 h1 hc hb hrow hcs
   generalize kws.getD k ⟨#[]⟩ = s at *
   go_enter Tryz.func19, Tryz.ntmps19
   go_upto_region 2 with fail
   change Code.wp _ _ _ _ (w.alloc (.cells (kws.map Value.string).toArray 9))
   generalize w.alloc (.cells (kws.map Value.string).toArray 9) = w1 at *
   have c0 := HC.out
   go_wp2_with fail
   go_ret
   exact ⟨rfl, HB.out⟩
theorem QaR (op : Int) (w : World) : Calls Tryz.prog 25 #[.int .i64 op] w fun e w' => e = .returned (.string (ltr op)) ∧ Below w.heap.size w w' := by
 have hcs : (lts.map Value.string).toArray.size = 16 := rfl
 have hrow := RowAt.new w 9 (lts.map Value.string).toArray
 have hb : Below w.heap.size w (w.alloc (.cells (lts.map Value.string).toArray 9)) := (zB _ _).alloc (zL _) _
 have HB := zh hb
 by_cases h0 : op < 0
 ·rw [Q3i (by omega)]
  have e0 : decide (op < 0) = true := zE h0
  clear hcs hrow hb
  go_enter Tryz.func25, Tryz.ntmps25
  go_wp2_with fail
  go_ret
  exact ⟨rfl, HB.out⟩
 ·have e0 : decide (op < 0) = false := zF h0
  by_cases h1 : 16 ≤ op
  ·rw [Q3i (by omega)]
   have e1 : decide ((16 : Int) ≤ op) = true := zE h1
   clear hcs hrow hb
   go_enter Tryz.func25, Tryz.ntmps25
   go_wp2_with fail
   go_ret
   exact ⟨rfl, HB.out⟩
  ·obtain ⟨k, rfl, hk⟩ := Q2p (op := op) (by omega)
   have e1 : decide ((16 : Int) ≤ (k : Int)) = false := zF h1
   have hc : (w.alloc (.cells (lts.map Value.string).toArray 9)).cell? ⟨w.heap.size, k, none⟩ = some (.string (lts.getD k ⟨#[]⟩)) := by
        rw [hrow.cell k]
        have hkl : k < lts.length := hk
        rw [zA1, List.getElem?_map, List.getElem?_eq_getElem hkl, List.getD_eq_getElem?_getD, List.getElem?_eq_getElem hkl]
        rfl
   have HC := zh hc
   rw [Q6M hk]
   have hk2 : (k : Int) < 16 := by omega
   clear h0 h1 hc hb hrow hcs
   generalize lts.getD k ⟨#[]⟩ = s at *
   go_enter Tryz.func25, Tryz.ntmps25
   go_upto_region 2 with fail
   change Code.wp _ _ _ _ (w.alloc (.cells (lts.map Value.string).toArray 9))
   generalize w.alloc (.cells (lts.map Value.string).toArray 9) = w1 at *
   have c0 := HC.out
   go_wp2_with fail
   go_ret
   exact ⟨rfl, HB.out⟩
theorem Q70 (A : Option Addr) (c : Nat) (l : List Tr) (i : Nat) (w : World) (hT : Trs w w.heap.size A l) :
 Calls Tryz.prog 72 #[.slice A l.length c, .int .i64 (i : Int)] w fun e w' => e = .returned (.bool (decide (kindOf (l.drop i) none = 97))) ∧ w' = w := by
 by_cases h1 : i < l.length
 ·obtain ⟨bb, o, rfl, _, hc⟩ := hT.at h1
  obtain ⟨q0, _, _, _, _⟩ := hc i h1
  have hkk : kindOf (l.drop i) none = (l.getD i r0).t.k := by rw [TR.Q22 h1]; rfl
  rw [hkk]
  have e0 : decide (i < l.length) = true := zE h1
  have hq : (((l.getD i r0).t.k : Int) == 97) = decide ((l.getD i r0).t.k = 97) := Q5Y _ 97
  have hii : (i : Int) < (l.length : Int) := by omega
  clear hc hT hkk
  generalize (l.getD i r0).t.k = q at *
  generalize l.length = n at *
  generalize hd : decide (q = 97) = d at *
  have HD := zh hd; clear hd
  go_enter Tryz.func72, Tryz.ntmps72
  go_wp2_with fail
  go_ret
  exact ⟨rfl, rfl⟩
 ·have hkk : kindOf (l.drop i) none = 0 := by rw [List.drop_eq_nil_of_le (by omega)]; rfl
  rw [hkk]
  have e0 : decide (i < l.length) = false := zF h1
  clear hT hkk
  generalize l.length = n at *
  go_enter Tryz.func72, Tryz.ntmps72
  go_wp2_with fail
  go_ret
  exact ⟨rfl, rfl⟩
theorem Q4c (A : Option Addr) (c : Nat) (l : List Tr) (i : Nat) (e : Int) (w : World) (hT : Trs w w.heap.size A l) :
 Calls Tryz.prog 73 #[.slice A l.length c, .int .i64 (i : Int), .int .i64 e] w fun e' w' => e' = .returned (.int .i64 (Q00 (l.drop i) e)) ∧ w' = w := by
 by_cases h1 : i < l.length
 ·obtain ⟨bb, o, rfl, _, hc⟩ := hT.at h1
  obtain ⟨_, _, q2, _, _⟩ := hc i h1
  have hkk : Q00 (l.drop i) e = (l.getD i r0).t.p := by rw [TR.Q22 h1]; rfl
  rw [hkk]
  have e0 : decide (i < l.length) = true := zE h1
  have hii : (i : Int) < (l.length : Int) := by omega
  clear hc hT hkk
  generalize (l.getD i r0).t.p = q at *
  generalize l.length = n at *
  go_enter Tryz.func73, Tryz.ntmps73
  go_wp2_with fail
  go_ret
  exact ⟨rfl, rfl⟩
 ·have hkk : Q00 (l.drop i) e = e := by rw [List.drop_eq_nil_of_le (by omega)]; rfl
  rw [hkk]
  have e0 : decide (i < l.length) = false := zF h1
  clear hT hkk
  generalize l.length = n at *
  go_enter Tryz.func73, Tryz.ntmps73
  go_wp2_with fail
  go_ret
  exact ⟨rfl, rfl⟩
end
end Go.Proofs.YtmobcncgfbfmcaaGreatDoor
