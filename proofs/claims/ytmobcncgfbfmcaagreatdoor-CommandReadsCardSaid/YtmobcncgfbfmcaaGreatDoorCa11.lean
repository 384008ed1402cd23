/- Texts that all the claims need. Conditions: those that each states. -/

import Derived.Test.YtmobcncgfbfmcaaGreatDoorCa10
set_option linter.unusedSimpArgs false
set_option linter.unusedVariables false
set_option maxRecDepth 100000
set_option maxHeartbeats 40000000
namespace Go.Proofs.YtmobcncgfbfmcaaGreatDoor
section
open Go.RowKit LX TR TM DT
namespace DT
theorem Q5k (y : Tr) (r : List Tr) (e : Int) : setR (y :: r) e = if y.t.k = 123 then (match Q0B true wnR y.ks y.e with
 | .error p => .error p
 | .ok xs => .ok (xs.map nwd, r)) else .error y.t.p := by
 unfold setR
 simp only [Q0f]
 by_cases hk : y.t.k = 123
 ·rw [if_pos hk, if_pos hk]
  unfold Q0B
  cases hks : y.ks with
  | nil => rw [if_pos ⟨rfl, rfl⟩]; rfl
  | cons a b =>
    rw [if_neg (by simp), Q7P]
    simp only [optR]
    by_cases ha : a.t.k = 124
    ·rw [if_pos ha]
     have hn : Q05 (a :: b) y.e = .error a.t.p := by
      unfold Q05
      rw [Q1T (show kindOf (a :: b) none ≠ 97 by show a.t.k ≠ 97; omega)]; rfl
     unfold Q0c
     rw [hn]; rfl
    ·rw [if_neg ha]
     cases Q0c Q05 (a :: b) y.e with
     | error p => rfl
     | ok xr =>
       obtain ⟨x, r2⟩ := xr
       cases r2 with
       | nil =>
         simp only [bnd]
         rw [Q7N]
       | cons q s => rfl
 ·rw [if_neg hk, if_neg hk]
theorem Q0Z {l : List Tr} {i : Int} {k : Nat} (h0 : 0 ≤ i) (hk : kindOf (rest l i) none = k) (h : 0 < k) : i < l.length ∧ rest l i = l.getD i.toNat r0 :: rest l (i + 1) ∧ (l.getD i.toNat r0).t.k = k := by
 have h9 := Q2Y (l := l) (i := i)
 by_cases hin : 0 ≤ i ∧ i < l.length
 ·rw [if_pos hin, hk] at h9
  exact ⟨hin.2, Q1E hin.1 hin.2, h9.symm⟩
 ·rw [if_neg hin, hk] at h9; omega
theorem Q1p {x : Tr} {r : List Tr} {e : Int} (h : x.t.k = 97) : Q05 (x :: r) e = .ok (⟨x.t.s, x.t.p⟩, r) := by
 unfold Q05
 rw [Q0P h]; rfl
theorem Q2e {ts : List Tr} {e : Int} (h : kindOf ts none ≠ 97) : Q05 ts e = .error (Q00 ts e) := by
 unfold Q05
 rw [Q1T h]; rfl
theorem Q75 {ts : List Tr} {e : Int} (h : kindOf ts none ≠ 97) : Q0z ts e = .error (Q00 ts e) := by
 unfold Q0z
 rw [Q2e h]; rfl
theorem Qb6 {x : Tr} {r : List Tr} {e : Int} (h : x.t.k = 97) (h2 : kindOf r none ≠ 58) : Q0z (x :: r) e = .error (Q00 r e) := by
 unfold Q0z
 rw [Q1p h]
 simp only [bnd]
 rw [Q1T h2]
theorem Qb7 {x y : Tr} {r : List Tr} {e : Int} (h : x.t.k = 97) (h2 : y.t.k = 58) (h3 : kindOf r none ≠ 123) : Q0z (x :: y :: r) e = .error (Q00 r e) := by
 unfold Q0z
 rw [Q1p h]
 simp only [bnd]
 rw [Q0P h2]
 cases r with
 | nil => rfl
 | cons z r =>
   have h3' : ¬ z.t.k = 123 := h3
   simp only
   rw [Q5k, if_neg h3']
   rfl
theorem Qb8 {x y z : Tr} {r : List Tr} {e : Int} (h : x.t.k = 97) (h2 : y.t.k = 58) (h3 : z.t.k = 123) : Q0z (x :: y :: z :: r) e = match Q0B true wnR z.ks z.e with
 | .error p => .error p
 | .ok xs => .ok (nd 6 x.t.p x.t.s (xs.map nwd) [], r) := by
 unfold Q0z
 rw [Q1p h]
 simp only [bnd]
 rw [Q0P h2]
 simp only
 rw [Q5k, if_pos h3]
 cases Q0B true wnR z.ks z.e <;> rfl
theorem Q4d {w : World} {ok : Nat → Prop} {k p : Int} {s : ByteArray} {Y : Option Addr} {dd : Nat} {ws : List Wd} (hd : ws.length ≤ dd) (h : SlC w ok Y (wcs ws)) : DeepN w ok [Nd.mk k p s Y dd ws none 0 []] := fun y hy => by
 obtain rfl : y = Nd.mk k p s Y dd ws none 0 [] := by simpa [TM.all] using hy
 exact ⟨⟨h, hd⟩, SlC.nil _ _ _, zL _⟩
end DT
theorem Q76 (N : Nat) : Gc 143 Q0z N := by
 intro A c l i e w hT hF h0 h1 hN
 have hl := hF.1
 have HT := zh hT
 have HIS : Hid (∀ W, Below w.heap.size w W → ∀ (j : Int) (k : Nat), 0 < k → Calls Tryz.prog 117 #[.slice A l.length c, .int .i64 j, .int .u8 (k : Int)] W fun e w' => e = .returned (.bool (decide (kindOf (rest l j) none = k))) ∧ w' = W) := zh fun W hW j k hk => Q1H A c l j k hk W ((HT.out.below hW).mono hW.size)
 have HWS : Hid (∀ W, Below w.heap.size w W → ∀ (j : Int), Calls Tryz.prog 118 #[.slice A l.length c, .int .i64 j, .int .i64 e] W fun e' w' => e' = .returned (gbad (Q00 (rest l j) e)) ∧ Below W.heap.size W w') := zh fun W hW j => Q1P A c l j e W ((HT.out.below hW).mono hW.size)
 have HG0 := zh (RowAt.new w 103 #[.int .i64 0, .int .i64 0, .string ⟨#[]⟩, .slice none 0 0, .slice none 0 0, .int .i64 0, .bool false, .int .i64 0])
 have HB0 : Hid (Below w.heap.size w (w.alloc (.cells #[.int .i64 0, .int .i64 0, .string ⟨#[]⟩, .slice none 0 0, .slice none 0 0, .int .i64 0, .bool false, .int .i64 0] 103))) := zh ((zB _ _).alloc (zL _) _)
 refine Q0e fun Q' hQ => ?_
 have HQ := zh hQ; clear hQ hT
 by_cases hk0 : kindOf (rest l i) none = 97
 ·obtain ⟨hi0, hr0, hx0⟩ := Q0Z h0 hk0 (by omega)
  by_cases hk1 : kindOf (rest l (i + 1)) none = 58
  ·obtain ⟨hi1, hr1, hx1⟩ := Q0Z (by omega) hk1 (by omega)
   rw [show i + 1 + 1 = i + 2 by omega] at hr1
   by_cases hk2 : kindOf (rest l (i + 2)) none = 123
   ·obtain ⟨hi2, hr2, hx2⟩ := Q0Z (by omega) hk2 (by omega)
    rw [show i + 2 + 1 = i + 3 by omega] at hr2
    obtain ⟨j, rfl⟩ := Int.eq_ofNat_of_zero_le h0
    have hj2 : j + 2 < l.length := by omega
    rw [show ((j : Int)).toNat = j by omega] at hr0 hx0
    rw [show ((j : Int) + 2).toNat = j + 2 by omega] at hr2 hx2
    have HRL : Hid (Q0z (rest l (j : Int)) e = match Q0B true wnR (l.getD (j + 2) r0).ks (l.getD (j + 2) r0).e with
          | .error p => .error p
          | .ok xs => .ok (nd 6 (l.getD j r0).t.p (l.getD j r0).t.s (xs.map nwd) [], rest l ((j : Int) + 3))) := zh (by rw [hr0, hr1, hr2]; exact Qb8 hx0 hx1 hx2)
    have hadv : Adv l (j : Int) ((j : Int) + 3) := ⟨3, rfl, by rw [hr0, hr1, hr2]; simp⟩
    have HADV := zh hadv
    have hFk : Fw (l.getD (j + 2) r0).ks := hF.kid (Q1K hj2)
    have hFk9 := hFk.1
    have HWH : Hid (∀ W, Below w.heap.size w W → _) := zh fun W (hW : Below w.heap.size w W) => Q2Z true (Q4p (nodes (l.getD (j + 2) r0).ks).length) (l.getD (j + 2) r0) W (((HT.out.below hW).mono hW.size).kidAt hj2) hFk (zL _)
    obtain ⟨bb, o, rfl, hbb, hc⟩ := HT.out.at (k := j) (by omega)
    obtain ⟨_, a1, a2, _, _⟩ := hc j (by omega)
    obtain ⟨b0, b1, b2, b3, b4⟩ := hc (j + 2) hj2
    have C0 : ∀ W, Below w.heap.size w W → W.cell? ⟨bb, o + j * 5 + 1, none⟩ = _ := fun W hW => (hW.cell (p := ⟨bb, o + j * 5 + 1, none⟩) hbb).trans a1
    have C1 : ∀ W, Below w.heap.size w W → W.cell? ⟨bb, o + j * 5 + 2, none⟩ = _ := fun W hW => (hW.cell (p := ⟨bb, o + j * 5 + 2, none⟩) hbb).trans a2
    have B0 : ∀ W, Below w.heap.size w W → W.cell? ⟨bb, o + (j + 2) * 5, none⟩ = _ := fun W hW => (hW.cell (p := ⟨bb, o + (j + 2) * 5, none⟩) hbb).trans b0
    have B1 : ∀ W, Below w.heap.size w W → W.cell? ⟨bb, o + (j + 2) * 5 + 1, none⟩ = _ := fun W hW => (hW.cell (p := ⟨bb, o + (j + 2) * 5 + 1, none⟩) hbb).trans b1
    have B2 : ∀ W, Below w.heap.size w W → W.cell? ⟨bb, o + (j + 2) * 5 + 2, none⟩ = _ := fun W hW => (hW.cell (p := ⟨bb, o + (j + 2) * 5 + 2, none⟩) hbb).trans b2
    have B3 : ∀ W, Below w.heap.size w W → W.cell? ⟨bb, o + (j + 2) * 5 + 3, none⟩ = _ := fun W hW => (hW.cell (p := ⟨bb, o + (j + 2) * 5 + 3, none⟩) hbb).trans b3
    have B4 : ∀ W, Below w.heap.size w W → W.cell? ⟨bb, o + (j + 2) * 5 + 4, none⟩ = _ := fun W hW => (hW.cell (p := ⟨bb, o + (j + 2) * 5 + 4, none⟩) hbb).trans b4
    clear hc a1 a2 b0 b1 b2 b3 b4 hr0 hr1 hr2 hx0 hx1 hx2 hF hFk hadv
    generalize l.getD (j + 2) r0 = y at *
    generalize (l.getD j r0).t.s = xs at *
    generalize (l.getD j r0).t.p = xp at *
    obtain ⟨⟨yq, ys, yp⟩, YA, yc, ks, ye⟩ := y
    simp only [Tr.t, Tr.A, Tr.c, Tr.ks, Tr.e] at *
    unfold trv at HWH
    simp only [Tr.t, Tr.A, Tr.c, Tr.ks, Tr.e] at HWH
    generalize hkn : ks.length = kn at *
    have HKN := zh hkn; clear hkn
    generalize hn : l.length = n at *
    have HN := zh hn; clear hn
    go_enter Tryz.func143, Tryz.ntmps143
    go_upto_region 1 with fail
    generalize w.alloc (.cells #[.int .i64 0, .int .i64 0, .string ⟨#[]⟩, .slice none 0 0, .slice none 0 0, .int .i64 0, .bool false, .int .i64 0] 103) = w0 at *
    go_wp2_with fail
    refine wp_loop_rounds 4 ?_
    rw [rounds_succ]
    go_upto_region 5 with fail
    have hb0 : Below w0.heap.size w0 (w0.alloc (.cells #[.int .u8 97, .int .u8 58, .int .u8 123] 5)) := (zB _ _).alloc (zL _) _
    have HG1 := zh (HG0.out.below hb0 HG0.out.lt)
    have HB1 := zh (HB0.out.trans (hb0.mono HB0.out.size))
    have HK0 := zh (RowAt.new w0 5 #[.int .u8 97, .int .u8 58, .int .u8 123])
    clear hb0
    generalize w0.alloc (.cells #[.int .u8 97, .int .u8 58, .int .u8 123] 5) = w1 at *
    have q0 : w1.cell? ⟨w0.heap.size, 0, none⟩ = some (.int .u8 97) := (HK0.out.cell 0).trans rfl
    have HI0 := zh (HIS.out w1 HB1.out (j : Int) 97 (by decide))
    rw [zE hk0] at HI0
    go_wp2_with fail
    refine HI0.out.mono ?_
    rintro e' w' ⟨rfl, hww⟩
    have hww := hww.symm
    subst hww
    clear q0 HI0 HK0
    go_wp2_with fail
    rw [rounds_succ]
    go_upto_region 5 with fail
    have hb1 : Below w1.heap.size w1 (w1.alloc (.cells #[.int .u8 97, .int .u8 58, .int .u8 123] 5)) := (zB _ _).alloc (zL _) _
    have HG2 := zh (HG1.out.below hb1 HG1.out.lt)
    have HB2 := zh (HB1.out.trans (hb1.mono HB1.out.size))
    have HK1 := zh (RowAt.new w1 5 #[.int .u8 97, .int .u8 58, .int .u8 123])
    clear hb1
    generalize w1.alloc (.cells #[.int .u8 97, .int .u8 58, .int .u8 123] 5) = w2 at *
    have q1 : w2.cell? ⟨w1.heap.size, 1, none⟩ = some (.int .u8 58) := (HK1.out.cell 1).trans rfl
    have HI1 := zh (HIS.out w2 HB2.out ((j : Int) + 1) 58 (by decide))
    rw [zE hk1] at HI1
    go_wp2_with fail
    refine HI1.out.mono ?_
    rintro e' w' ⟨rfl, hww⟩
    have hww := hww.symm
    subst hww
    clear q1 HI1 HK1
    go_wp2_with fail
    rw [rounds_succ]
    go_upto_region 5 with fail
    have hb2 : Below w2.heap.size w2 (w2.alloc (.cells #[.int .u8 97, .int .u8 58, .int .u8 123] 5)) := (zB _ _).alloc (zL _) _
    have HG3 := zh (HG2.out.below hb2 HG2.out.lt)
    have HB3 := zh (HB2.out.trans (hb2.mono HB2.out.size))
    have HK2 := zh (RowAt.new w2 5 #[.int .u8 97, .int .u8 58, .int .u8 123])
    clear hb2
    generalize w2.alloc (.cells #[.int .u8 97, .int .u8 58, .int .u8 123] 5) = w3 at *
    have q2 : w3.cell? ⟨w2.heap.size, 2, none⟩ = some (.int .u8 123) := (HK2.out.cell 2).trans rfl
    have HI2 := zh (HIS.out w3 HB3.out ((j : Int) + 2) 123 (by decide))
    rw [zE hk2] at HI2
    go_wp2_with fail
    refine HI2.out.mono ?_
    rintro e' w' ⟨rfl, hww⟩
    have hww := hww.symm
    subst hww
    clear q2 HI2 HK2
    go_wp2_with fail
    rw [rounds_succ]
    go_upto_region 7 with fail
    have b0 := B0 w3 HB3.out
    have b1 := B1 w3 HB3.out
    have b2 := B2 w3 HB3.out
    have b3 := B3 w3 HB3.out
    have b4 := B4 w3 HB3.out
    have HCW := zh (HWH.out w3 HB3.out)
    have hjn : (j : Int) + 2 < (n : Int) := by omega
    go_wp2_with fail
    refine HCW.out.mono ?_
    rintro e' w5 ⟨out, z, nx, f, rfl, ⟨p, rfl, rfl, her⟩ | ⟨rfl, zs, X, d, rfl, hd, hlz, hok, hsl, hdz⟩, hb5⟩
    ·have HST : Hid (Q0z (rest l (j : Int)) e = .error p) := zh (by rw [HRL.out, her])
     have HG5 := zh (HG3.out.below hb5 HG3.out.lt)
     have HB5 := zh (HB3.out.trans (hb5.mono HB3.out.size))
     have hb6 : Below w5.heap.size w5 (w5.alloc (.cells #[.int .i64 z.k, .int .i64 z.p, .string z.s, .slice z.A z.ws.length z.c, .slice z.B z.ks.length z.d, .int .i64 nx, .bool true, .int .i64 p] 103)) := (zB _ _).alloc (zL _) _
     have HG6 := zh (HG5.out.below hb6 HG5.out.lt)
     have HB6 := zh (HB5.out.trans (hb6.mono HB5.out.size))
     have HGG := zh (RowAt.new w5 103 #[.int .i64 z.k, .int .i64 z.p, .string z.s, .slice z.A z.ws.length z.c, .slice z.B z.ks.length z.d, .int .i64 nx, .bool true, .int .i64 p])
     clear hb5 hb6 her HG3 HB3 HG5 HB5 b0 b1 b2 b3 b4
     unfold gv
     simp only [Option.isSome_some, Option.getD_some]
     go_upto_region 8 with fail
     generalize w5.alloc (.cells #[.int .i64 z.k, .int .i64 z.p, .string z.s, .slice z.A z.ws.length z.c, .slice z.B z.ks.length z.d, .int .i64 nx, .bool true, .int .i64 p] 103) = w6 at *
     obtain ⟨⟨g0, g1, g2, g3, g4, g5, g6, g7⟩, ff⟩ := row8 HGG.out
     obtain ⟨⟨k0, k1, k2, k3, k4, k5, k6, k7⟩, fk⟩ := row8 HG6.out
     go_wp2_with fail
     change bodyPost _ _ _ _ _ (set8 w6 w.heap.size (.int .i64 z.k) (.int .i64 z.p) (.string z.s) (.slice z.A z.ws.length z.c) (.slice z.B z.ks.length z.d) (.int .i64 nx) (.bool true) (.int .i64 p))
     exact bodyPost_ret (Q04 rfl _ _ w.heap.size _ _ (0, 0) _ rfl (Q0t HG6.out) Tryz.underlying103 rfl (Q0k _ _ _ _ _ _ _ _)) rfl (HQ.out _ _ ⟨z, nx, some p, rfl, .inl ⟨p, rfl, HST.out⟩, HB6.out.trans (Q0u (zL _))⟩)
    ·have HST : Hid (∀ (Y : Option Addr) (dd : Nat), Step Q0z l (j : Int) e none (er1 (Nd.mk 6 xp xs Y dd (zs.map nwd) none 0 [])) ((j : Int) + 3) none) := zh fun Y dd => Step.ok HADV.out (by
          rw [HRL.out, hok, ← Q5D zs]
          simp [er1, nd, Nd.k, Nd.p, Nd.s, Nd.ws, Nd.ks, TM.er])
     have HG5 := zh (HG3.out.below hb5 HG3.out.lt)
     have HB5 := zh (HB3.out.trans (hb5.mono HB3.out.size))
     have hb6 : Below w5.heap.size w5 (w5.alloc (.cells #[.int .i64 z.k, .int .i64 z.p, .string z.s, .slice z.A z.ws.length z.c, .slice z.B z.ks.length z.d, .int .i64 nx, .bool false, .int .i64 0] 103)) := (zB _ _).alloc (zL _) _
     have HG6 := zh (HG5.out.below hb6 HG5.out.lt)
     have HB6 := zh (HB5.out.trans (hb6.mono HB5.out.size))
     have HGG := zh (RowAt.new w5 103 #[.int .i64 z.k, .int .i64 z.p, .string z.s, .slice z.A z.ws.length z.c, .slice z.B z.ks.length z.d, .int .i64 nx, .bool false, .int .i64 0])
     have HNM : Hid (∀ W, W = (w5.alloc (.cells #[.int .i64 z.k, .int .i64 z.p, .string z.s, .slice z.A z.ws.length z.c, .slice z.B z.ks.length z.d, .int .i64 nx, .bool false, .int .i64 0] 103)).drew → _) := zh fun W (hW : W = (w5.alloc (.cells #[.int .i64 z.k, .int .i64 z.p, .string z.s, .slice z.A z.ws.length z.c, .slice z.B z.ks.length z.d, .int .i64 nx, .bool false, .int .i64 0] 103)).drew) => Q4o X d zs W.heap.size W (zL _) (by have := hl; have := HKN.out; have := hFk9; omega) (by rw [hW]; exact ((hsl.keep9 (wb := (w5.alloc (.cells #[.int .i64 z.k, .int .i64 z.p, .string z.s, .slice z.A z.ws.length z.c, .slice z.B z.ks.length z.d, .int .i64 nx, .bool false, .int .i64 0] 103)).drew) fun k hk _ => hb6.block k hk).sl))
     clear hb5 hb6 hok HG3 HB3 HG5 HB5 b0 b1 b2 b3 b4 hsl hdz
     unfold gv
     simp only [Option.isSome_none, Option.getD_none]
     go_upto_region 8 with fail
     generalize w5.alloc (.cells #[.int .i64 z.k, .int .i64 z.p, .string z.s, .slice z.A z.ws.length z.c, .slice z.B z.ks.length z.d, .int .i64 nx, .bool false, .int .i64 0] 103) = w6 at *
     have h6 : w.heap.size < w6.heap.size := HG6.out.lt
     obtain ⟨⟨g0, g1, g2, g3, g4, g5, g6, g7⟩, ff⟩ := row8 HGG.out
     go_upto_region 10 with fail
     clear g0 g1 g2 g3 g4 g5 g6 g7 ff B0 B1 B2 B3 B4
     have hw3 : IntKind.i64.wrap ((j : Int) + 3) = (j : Int) + 3 := IntWalk.i64_in _ ⟨by omega, by omega⟩
     refine Q0y (fun W => Below w.heap.size w W) ((.take 0 (.take 1 (.take 2 (.take 3 (.take 4 (.take 5 (.take 6 (.take 7 (.take 8 (.take 9 (.take 10 (.take 11 (.take 12 (.take 15 (.take 16 (.solo 13 (.take 14 (.take 17 (.solo 18 .nil)))))))))))))))))))) (by kernel_rfl) (by kernel_rfl) rfl (by kernel_rfl) (HB6.out.drew) ?_
     iterate 15
          (refine Q07 (zO rfl) ?_)
          (first
            | (refine Q08 (by rfl) ?_)
            | (refine Q03 (v := ?_) (by rfl) ?_ ?_; rotate_left 1; (intro wx hSx; have hc_0 := C0 wx hSx; have hc_1 := C1 wx hSx; go_simp; try with_reducible rfl)))
          (try simp only [Act.put, zA4, zA5, zA6])
     (refine Q02 (zO rfl) ?_)
     intro K hK
     go_simp
     refine (HNM.out w6.drew rfl).mono ?_
     rintro e' w7 ⟨Y, dd, rfl, hdd, hsy, hb7⟩
     have HS7 : Hid (Below w.heap.size w w7) := zh (HB6.out.drew.trans (hb7.mono HB6.out.drew.size))
     have HR7 := zh (HG6.out.drew.below hb7 HG6.out.drew.lt)
     have HY7 := zh (hsy.weak fun k _ h => show w.heap.size < k by have h9 : w6.heap.size ≤ k := h; omega)
     clear hb7 hsy
     refine hK.out _ _ HS7.out ?_
     clear hK K
     (try simp only [Act.put, zA4, zA5, zA6])
     iterate 2
          (refine Q07 (zO rfl) ?_)
          (first
            | (refine Q08 (by rfl) ?_)
            | (refine Q03 (v := ?_) (by rfl) ?_ ?_; rotate_left 1; (intro wx hSx; have hc_0 := C0 wx hSx; have hc_1 := C1 wx hSx; go_simp; try with_reducible rfl)))
          (try simp only [Act.put, zA4, zA5, zA6])
     (refine Q02 (zO rfl) ?_)
     intro K hK
     rw [if_pos (by rfl)]
     refine wp_store_row _ _ _ rfl w.heap.size #[.int .i64 6, .int .i64 xp, .string xs, .slice Y zs.length dd, .slice none 0 0, .int .i64 ((j : Int) + 3), .bool false, .int .i64 0] rfl rfl _ _ HR7.out (Q0k _ _ _ _ _ _ _ _) rfl (by simp [Value.oneCell']) ?_
     have HS8 : Hid (Below w.heap.size w (w7.setRow w.heap.size #[.int .i64 6, .int .i64 xp, .string xs, .slice Y zs.length dd, .slice none 0 0, .int .i64 ((j : Int) + 3), .bool false, .int .i64 0])) := zh (HS7.out.trans (below_setRow (zL _) _))
     have HR8 := zh (HR7.out.setRow #[.int .i64 6, .int .i64 xp, .string xs, .slice Y zs.length dd, .slice none 0 0, .int .i64 ((j : Int) + 3), .bool false, .int .i64 0])
     have HY8 : Hid (SlC (w7.setRow w.heap.size #[.int .i64 6, .int .i64 xp, .string xs, .slice Y zs.length dd, .slice none 0 0, .int .i64 ((j : Int) + 3), .bool false, .int .i64 0]) (fun k => w.heap.size < k) Y (wcs (zs.map nwd))) := zh (HY7.out.keep9 fun k _ h => setRow_other w7 w.heap.size k _ (by omega))
     refine hK.out _ _ HS8.out ?_
     clear hK K
     (try simp only [Act.put, zA4, zA5, zA6])
     refine Q0s ?_
     go_wp2
     have hln : (zs.map nwd).length = zs.length := List.length_map ..
     refine bodyPost_ret (Q04 rfl _ _ w.heap.size _ _ (0, 0) _ rfl HR8.out Tryz.underlying103 rfl (Q0k _ _ _ _ _ _ _ _)) rfl (HQ.out _ _ ⟨Nd.mk 6 xp xs Y dd (zs.map nwd) none 0 [], (j : Int) + 3, none, ?_, .inr ⟨rfl, HST.out Y dd, Q4d (by rw [hln]; exact hdd) (HY8.out.weak fun k _ h => by omega)⟩, HS8.out⟩)
     unfold gv
     simp only [Nd.k, Nd.p, Nd.s, Nd.A, Nd.c, Nd.ws, Nd.B, Nd.d, Nd.ks, hln]
     rfl
   ·have HER : Hid (Q0z (rest l i) e = .error (Q00 (rest l (i + 2)) e)) := zh (by rw [hr0, hr1]; exact Qb7 hx0 hx1 hk2)
    clear hr0 hr1 hx0 hx1
    generalize hn : l.length = n at *
    have HN := zh hn; clear hn
    go_enter Tryz.func143, Tryz.ntmps143
    go_upto_region 1 with fail
    generalize w.alloc (.cells #[.int .i64 0, .int .i64 0, .string ⟨#[]⟩, .slice none 0 0, .slice none 0 0, .int .i64 0, .bool false, .int .i64 0] 103) = w0 at *
    go_wp2_with fail
    refine wp_loop_rounds 4 ?_
    rw [rounds_succ]
    go_upto_region 5 with fail
    have hb0 : Below w0.heap.size w0 (w0.alloc (.cells #[.int .u8 97, .int .u8 58, .int .u8 123] 5)) := (zB _ _).alloc (zL _) _
    have HG1 := zh (HG0.out.below hb0 HG0.out.lt)
    have HB1 := zh (HB0.out.trans (hb0.mono HB0.out.size))
    have HK0 := zh (RowAt.new w0 5 #[.int .u8 97, .int .u8 58, .int .u8 123])
    clear hb0
    generalize w0.alloc (.cells #[.int .u8 97, .int .u8 58, .int .u8 123] 5) = w1 at *
    have q0 : w1.cell? ⟨w0.heap.size, 0, none⟩ = some (.int .u8 97) := (HK0.out.cell 0).trans rfl
    have HI0 := zh (HIS.out w1 HB1.out i 97 (by decide))
    rw [zE hk0] at HI0
    go_wp2_with fail
    refine HI0.out.mono ?_
    rintro e' w' ⟨rfl, hww⟩
    have hww := hww.symm
    subst hww
    clear q0 HI0 HK0
    go_wp2_with fail
    rw [rounds_succ]
    go_upto_region 5 with fail
    have hb1 : Below w1.heap.size w1 (w1.alloc (.cells #[.int .u8 97, .int .u8 58, .int .u8 123] 5)) := (zB _ _).alloc (zL _) _
    have HG2 := zh (HG1.out.below hb1 HG1.out.lt)
    have HB2 := zh (HB1.out.trans (hb1.mono HB1.out.size))
    have HK1 := zh (RowAt.new w1 5 #[.int .u8 97, .int .u8 58, .int .u8 123])
    clear hb1
    generalize w1.alloc (.cells #[.int .u8 97, .int .u8 58, .int .u8 123] 5) = w2 at *
    have q1 : w2.cell? ⟨w1.heap.size, 1, none⟩ = some (.int .u8 58) := (HK1.out.cell 1).trans rfl
    have HI1 := zh (HIS.out w2 HB2.out (i + 1) 58 (by decide))
    rw [zE hk1] at HI1
    go_wp2_with fail
    refine HI1.out.mono ?_
    rintro e' w' ⟨rfl, hww⟩
    have hww := hww.symm
    subst hww
    clear q1 HI1 HK1
    go_wp2_with fail
    rw [rounds_succ]
    go_upto_region 5 with fail
    have hb2 : Below w2.heap.size w2 (w2.alloc (.cells #[.int .u8 97, .int .u8 58, .int .u8 123] 5)) := (zB _ _).alloc (zL _) _
    have HG3 := zh (HG2.out.below hb2 HG2.out.lt)
    have HB3 := zh (HB2.out.trans (hb2.mono HB2.out.size))
    have HK2 := zh (RowAt.new w2 5 #[.int .u8 97, .int .u8 58, .int .u8 123])
    clear hb2
    generalize w2.alloc (.cells #[.int .u8 97, .int .u8 58, .int .u8 123] 5) = w3 at *
    have q2 : w3.cell? ⟨w2.heap.size, 2, none⟩ = some (.int .u8 123) := (HK2.out.cell 2).trans rfl
    have HI2 := zh (HIS.out w3 HB3.out (i + 2) 123 (by decide))
    rw [zF hk2] at HI2
    go_wp2_with fail
    refine HI2.out.mono ?_
    rintro e' w' ⟨rfl, hww⟩
    have hww := hww.symm
    subst hww
    clear q2 HI2 HK2
    have HWR := zh (HWS.out w3 HB3.out (i + 2))
    go_wp2_with fail
    refine HWR.out.mono ?_
    rintro e' w9 ⟨rfl, hb9⟩
    have HR9 := zh (HG3.out.below hb9 HG3.out.lt)
    have HB9 := zh (HB3.out.trans (hb9.mono HB3.out.size))
    clear hb9
    obtain ⟨⟨k0, k1, k2, k3, k4, k5, k6, k7⟩, fk⟩ := row8 HR9.out
    unfold gbad
    generalize Q00 (rest l (i + 2)) e = p at *
    go_wp2_with fail
    change bodyPost _ _ _ _ _ (set8 w9 w.heap.size (.int .i64 0) (.int .i64 0) (.string ⟨#[]⟩) (.slice none 0 0) (.slice none 0 0) (.int .i64 0) (.bool true) (.int .i64 p))
    exact bodyPost_ret (Q04 rfl _ _ w.heap.size _ _ (0, 0) _ rfl (Q0t HR9.out) Tryz.underlying103 rfl (Q0k _ _ _ _ _ _ _ _)) rfl (HQ.out _ _ ⟨n0, 0, some p, rfl, .inl ⟨p, rfl, HER.out⟩, HB9.out.trans (Q0u (zL _))⟩)
  ·have HER : Hid (Q0z (rest l i) e = .error (Q00 (rest l (i + 1)) e)) := zh (by rw [hr0]; exact Qb6 hx0 hk1)
   clear hr0 hx0
   generalize hn : l.length = n at *
   have HN := zh hn; clear hn
   go_enter Tryz.func143, Tryz.ntmps143
   go_upto_region 1 with fail
   generalize w.alloc (.cells #[.int .i64 0, .int .i64 0, .string ⟨#[]⟩, .slice none 0 0, .slice none 0 0, .int .i64 0, .bool false, .int .i64 0] 103) = w0 at *
   go_wp2_with fail
   refine wp_loop_rounds 4 ?_
   rw [rounds_succ]
   go_upto_region 5 with fail
   have hb0 : Below w0.heap.size w0 (w0.alloc (.cells #[.int .u8 97, .int .u8 58, .int .u8 123] 5)) := (zB _ _).alloc (zL _) _
   have HG1 := zh (HG0.out.below hb0 HG0.out.lt)
   have HB1 := zh (HB0.out.trans (hb0.mono HB0.out.size))
   have HK0 := zh (RowAt.new w0 5 #[.int .u8 97, .int .u8 58, .int .u8 123])
   clear hb0
   generalize w0.alloc (.cells #[.int .u8 97, .int .u8 58, .int .u8 123] 5) = w1 at *
   have q0 : w1.cell? ⟨w0.heap.size, 0, none⟩ = some (.int .u8 97) := (HK0.out.cell 0).trans rfl
   have HI0 := zh (HIS.out w1 HB1.out i 97 (by decide))
   rw [zE hk0] at HI0
   go_wp2_with fail
   refine HI0.out.mono ?_
   rintro e' w' ⟨rfl, hww⟩
   have hww := hww.symm
   subst hww
   clear q0 HI0 HK0
   go_wp2_with fail
   rw [rounds_succ]
   go_upto_region 5 with fail
   have hb1 : Below w1.heap.size w1 (w1.alloc (.cells #[.int .u8 97, .int .u8 58, .int .u8 123] 5)) := (zB _ _).alloc (zL _) _
   have HG2 := zh (HG1.out.below hb1 HG1.out.lt)
   have HB2 := zh (HB1.out.trans (hb1.mono HB1.out.size))
   have HK1 := zh (RowAt.new w1 5 #[.int .u8 97, .int .u8 58, .int .u8 123])
   clear hb1
   generalize w1.alloc (.cells #[.int .u8 97, .int .u8 58, .int .u8 123] 5) = w2 at *
   have q1 : w2.cell? ⟨w1.heap.size, 1, none⟩ = some (.int .u8 58) := (HK1.out.cell 1).trans rfl
   have HI1 := zh (HIS.out w2 HB2.out (i + 1) 58 (by decide))
   rw [zF hk1] at HI1
   go_wp2_with fail
   refine HI1.out.mono ?_
   rintro e' w' ⟨rfl, hww⟩
   have hww := hww.symm
   subst hww
   clear q1 HI1 HK1
   have HWR := zh (HWS.out w2 HB2.out (i + 1))
   go_wp2_with fail
   refine HWR.out.mono ?_
   rintro e' w9 ⟨rfl, hb9⟩
   have HR9 := zh (HG2.out.below hb9 HG2.out.lt)
   have HB9 := zh (HB2.out.trans (hb9.mono HB2.out.size))
   clear hb9
   obtain ⟨⟨k0, k1, k2, k3, k4, k5, k6, k7⟩, fk⟩ := row8 HR9.out
   unfold gbad
   generalize Q00 (rest l (i + 1)) e = p at *
   go_wp2_with fail
   change bodyPost _ _ _ _ _ (set8 w9 w.heap.size (.int .i64 0) (.int .i64 0) (.string ⟨#[]⟩) (.slice none 0 0) (.slice none 0 0) (.int .i64 0) (.bool true) (.int .i64 p))
   exact bodyPost_ret (Q04 rfl _ _ w.heap.size _ _ (0, 0) _ rfl (Q0t HR9.out) Tryz.underlying103 rfl (Q0k _ _ _ _ _ _ _ _)) rfl (HQ.out _ _ ⟨n0, 0, some p, rfl, .inl ⟨p, rfl, HER.out⟩, HB9.out.trans (Q0u (zL _))⟩)
 ·have HER : Hid (Q0z (rest l i) e = .error (Q00 (rest l i) e)) := zh (Q75 hk0)
  generalize hn : l.length = n at *
  have HN := zh hn; clear hn
  go_enter Tryz.func143, Tryz.ntmps143
  go_upto_region 1 with fail
  generalize w.alloc (.cells #[.int .i64 0, .int .i64 0, .string ⟨#[]⟩, .slice none 0 0, .slice none 0 0, .int .i64 0, .bool false, .int .i64 0] 103) = w0 at *
  go_wp2_with fail
  refine wp_loop_rounds 4 ?_
  rw [rounds_succ]
  go_upto_region 5 with fail
  have hb0 : Below w0.heap.size w0 (w0.alloc (.cells #[.int .u8 97, .int .u8 58, .int .u8 123] 5)) := (zB _ _).alloc (zL _) _
  have HG1 := zh (HG0.out.below hb0 HG0.out.lt)
  have HB1 := zh (HB0.out.trans (hb0.mono HB0.out.size))
  have HK0 := zh (RowAt.new w0 5 #[.int .u8 97, .int .u8 58, .int .u8 123])
  clear hb0
  generalize w0.alloc (.cells #[.int .u8 97, .int .u8 58, .int .u8 123] 5) = w1 at *
  have q0 : w1.cell? ⟨w0.heap.size, 0, none⟩ = some (.int .u8 97) := (HK0.out.cell 0).trans rfl
  have HI0 := zh (HIS.out w1 HB1.out i 97 (by decide))
  rw [zF hk0] at HI0
  go_wp2_with fail
  refine HI0.out.mono ?_
  rintro e' w' ⟨rfl, hww⟩
  have hww := hww.symm
  subst hww
  clear q0 HI0 HK0
  have HWR := zh (HWS.out w1 HB1.out i)
  go_wp2_with fail
  refine HWR.out.mono ?_
  rintro e' w9 ⟨rfl, hb9⟩
  have HR9 := zh (HG1.out.below hb9 HG1.out.lt)
  have HB9 := zh (HB1.out.trans (hb9.mono HB1.out.size))
  clear hb9
  obtain ⟨⟨k0, k1, k2, k3, k4, k5, k6, k7⟩, fk⟩ := row8 HR9.out
  unfold gbad
  generalize Q00 (rest l i) e = p at *
  go_wp2_with fail
  change bodyPost _ _ _ _ _ (set8 w9 w.heap.size (.int .i64 0) (.int .i64 0) (.string ⟨#[]⟩) (.slice none 0 0) (.slice none 0 0) (.int .i64 0) (.bool true) (.int .i64 p))
  exact bodyPost_ret (Q04 rfl _ _ w.heap.size _ _ (0, 0) _ rfl (Q0t HR9.out) Tryz.underlying103 rfl (Q0k _ _ _ _ _ _ _ _)) rfl (HQ.out _ _ ⟨n0, 0, some p, rfl, .inl ⟨p, rfl, HER.out⟩, HB9.out.trans (Q0u (zL _))⟩)
end
section
open Go.RowKit LX TR TM DT
namespace DT
theorem Q5l {k : Nat} {rd : Rdr Nd} {x : Tr} {r : List Tr} {e : Int} (hk : x.t.k = k) : Q0f k (Q0c rd) (x :: r) e = match Q0B false rd x.ks x.e with
 | .error p => .error p
 | .ok xs => .ok (xs, r) := by
 simp only [Q0f]
 rw [if_pos hk]
 unfold Q0B
 rw [if_neg (by simp)]
 cases Q0c rd x.ks x.e with
 | error p => rfl
 | ok yr =>
   obtain ⟨y, q⟩ := yr
   cases q <;> rfl
theorem Qb9 {x : Tr} {r : List Tr} {e : Int} (hk : x.t.k = 91) : Q0f 91 (optR Q0z) (x :: r) e = match Q0B true Q0z x.ks x.e with
 | .error p => .error p
 | .ok xs => .ok (xs, r) := by
 simp only [Q0f]
 rw [if_pos hk]
 unfold Q0B
 cases hks : x.ks with
 | nil => rw [if_pos ⟨rfl, rfl⟩]; rfl
 | cons a b =>
   rw [if_neg (by simp)]
   simp only [optR]
   by_cases ha : a.t.k = 124
   ·rw [if_pos ha]
    have hn : Q0z (a :: b) x.e = .error a.t.p := Q75 (show kindOf (a :: b) none ≠ 97 by show a.t.k ≠ 97; omega)
    unfold Q0c
    rw [hn]; rfl
   ·rw [if_neg ha]
    cases Q0c Q0z (a :: b) x.e with
    | error p => rfl
    | ok yr =>
      obtain ⟨y, q⟩ := yr
      cases q <;> rfl
theorem Qba {d : Nat} {x : Tr} {r : List Tr} {e : Int} (hk : x.t.k = 97) : Q0a (d + 1) (x :: r) e = .ok (nd 2 x.t.p x.t.s [] [], r) := by
 simp only [Q0a]
 rw [if_pos hk]
theorem Qbb {d : Nat} {x : Tr} {r : List Tr} {e : Int} (hk : x.t.k = 123) : Q0a (d + 1) (x :: r) e = match Q0B true wnR x.ks x.e with
 | .error p => .error p
 | .ok xs => .ok (nd 3 x.t.p e0 (xs.map nwd) [], r) := by
 simp only [Q0a]
 rw [if_neg (by omega), if_pos hk, Q5k, if_pos hk]
 cases Q0B true wnR x.ks x.e <;> rfl
theorem Qbc {d : Nat} {x : Tr} {r : List Tr} {e : Int} (hk : x.t.k = 40) : Q0a (d + 1) (x :: r) e = match Q0B false (Q0a d) x.ks x.e with
 | .error p => .error p
 | .ok xs => .ok (nd 4 x.t.p e0 [] xs, r) := by
 simp only [Q0a]
 rw [if_neg (by omega), if_neg (by omega), if_pos hk, Q5l hk]
 cases Q0B false (Q0a d) x.ks x.e <;> rfl
theorem Qbd {d : Nat} {x : Tr} {r : List Tr} {e : Int} (hk : x.t.k = 91) : Q0a (d + 1) (x :: r) e = match Q0B true Q0z x.ks x.e with
 | .error p => .error p
 | .ok xs => .ok (nd 5 x.t.p e0 [] xs, r) := by
 simp only [Q0a]
 rw [if_neg (by omega), if_neg (by omega), if_neg (by omega), if_pos hk, Qb9 hk]
 cases Q0B true Q0z x.ks x.e <;> rfl
theorem Qbe {d : Nat} {ts : List Tr} {e : Int} (h1 : kindOf ts none ≠ 97) (h2 : kindOf ts none ≠ 123) (h3 : kindOf ts none ≠ 40) (h4 : kindOf ts none ≠ 91) : Q0a (d + 1) ts e = .error (Q00 ts e) := by
 cases ts with
 | nil => rfl
 | cons x r =>
   have e1 : ¬ x.t.k = 97 := h1
   have e2 : ¬ x.t.k = 123 := h2
   have e3 : ¬ x.t.k = 40 := h3
   have e4 : ¬ x.t.k = 91 := h4
   simp only [Q0a]
   rw [if_neg e1, if_neg e2, if_neg e3, if_neg e4]; rfl
end DT
theorem Q77 (d9 : Nat) (hOne : ∀ d8, d9 = d8 + 1 → Oc 1 (Q0a d9) d8) (hRule : ∀ N, Oc 2 Q0z N) : Gc 121 (Q0a (d9 + 1)) d9 := by
 intro A c l i e w hT hF h0 h1 hN
 have hl := hF.1
 have HT := zh hT
 have HIS : Hid (∀ W, Below w.heap.size w W → ∀ (j : Int) (k : Nat), 0 < k → Calls Tryz.prog 117 #[.slice A l.length c, .int .i64 j, .int .u8 (k : Int)] W fun e w' => e = .returned (.bool (decide (kindOf (rest l j) none = k))) ∧ w' = W) := zh fun W hW j k hk => Q1H A c l j k hk W ((HT.out.below hW).mono hW.size)
 have HWS : Hid (∀ W, Below w.heap.size w W → ∀ (j : Int), Calls Tryz.prog 118 #[.slice A l.length c, .int .i64 j, .int .i64 e] W fun e' w' => e' = .returned (gbad (Q00 (rest l j) e)) ∧ Below W.heap.size W w') := zh fun W hW j => Q1P A c l j e W ((HT.out.below hW).mono hW.size)
 have HG0 := zh (RowAt.new w 103 #[.int .i64 0, .int .i64 0, .string ⟨#[]⟩, .slice none 0 0, .slice none 0 0, .int .i64 0, .bool false, .int .i64 0])
 have HB0 : Hid (Below w.heap.size w (w.alloc (.cells #[.int .i64 0, .int .i64 0, .string ⟨#[]⟩, .slice none 0 0, .slice none 0 0, .int .i64 0, .bool false, .int .i64 0] 103))) := zh ((zB _ _).alloc (zL _) _)
 refine Q0e fun Q' hQ => ?_
 have HQ := zh hQ; clear hQ hT
 by_cases hk97 : kindOf (rest l i) none = 97
 ·obtain ⟨hi0, hr0, hx0⟩ := Q0Z h0 hk97 (by omega)
  obtain ⟨j, rfl⟩ := Int.eq_ofNat_of_zero_le h0
  have hj : j < l.length := by omega
  rw [show ((j : Int)).toNat = j by omega] at hr0 hx0
  have HST : Hid (Step (Q0a (d9 + 1)) l (j : Int) e none (er1 (nd 2 (l.getD j r0).t.p (l.getD j r0).t.s [] [])) ((j : Int) + 1) none) := zh (Step.ok ⟨1, rfl, by rw [hr0]; simp⟩ (by rw [hr0, Qba hx0]; simp [er1, nd, Nd.k, Nd.p, Nd.s, Nd.ws, Nd.ks, TM.er]))
  obtain ⟨bb, o, rfl, hbb, hc⟩ := HT.out.at (k := j) (by omega)
  obtain ⟨_, b1, b2, _, _⟩ := hc j hj
  have a1 := (HB0.out.cell (p := ⟨bb, o + j * 5 + 1, none⟩) hbb).trans b1
  have a2 := (HB0.out.cell (p := ⟨bb, o + j * 5 + 2, none⟩) hbb).trans b2
  clear hc b1 b2 hr0 hx0 hF
  generalize (l.getD j r0).t.s = xs at *
  generalize (l.getD j r0).t.p = xp at *
  generalize hn : l.length = n at *
  have HN := zh hn; clear hn
  go_enter Tryz.func121, Tryz.ntmps121
  go_upto_region 1 with fail
  change Code.wp _ _ _ _ (w.alloc (.cells #[.int .i64 0, .int .i64 0, .string ⟨#[]⟩, .slice none 0 0, .slice none 0 0, .int .i64 0, .bool false, .int .i64 0] 103))
  generalize w.alloc (.cells #[.int .i64 0, .int .i64 0, .string ⟨#[]⟩, .slice none 0 0, .slice none 0 0, .int .i64 0, .bool false, .int .i64 0] 103) = w0 at *
  have HI97 := zh (HIS.out w0 HB0.out (j : Int) 97 (by decide))
  rw [zE hk97] at HI97
  go_wp2_with fail
  refine HI97.out.mono ?_
  rintro e' w' ⟨rfl, hww⟩
  have hww := hww.symm
  subst hww
  clear HI97
  have hjn : (j : Int) < (n : Int) := by omega
  have hnb : bb ≠ w.heap.size := by omega
  obtain ⟨⟨k0, k1, k2, k3, k4, k5, k6, k7⟩, fk⟩ := row8 HG0.out
  go_upto_region 2 with fail
  go_region
  go_wp2_with fail
  change bodyPost _ _ _ _ _ ((set8 w0 w.heap.size (.int .i64 2) (.int .i64 xp) (.string xs) (.slice none 0 0) (.slice none 0 0) (.int .i64 ((j : Int) + 1)) (.bool false) (.int .i64 0)).drew)
  have e9 : RowAt (set8 w0 w.heap.size (.int .i64 2) (.int .i64 xp) (.string xs) (.slice none 0 0) (.slice none 0 0) (.int .i64 ((j : Int) + 1)) (.bool false) (.int .i64 0)) w.heap.size 103 #[.int .i64 2, .int .i64 xp, .string xs, .slice none 0 0, .slice none 0 0, .int .i64 ((j : Int) + 1), .bool false, .int .i64 0] := Q0t HG0.out
  have e8 : Below w.heap.size w (set8 w0 w.heap.size (.int .i64 2) (.int .i64 xp) (.string xs) (.slice none 0 0) (.slice none 0 0) (.int .i64 ((j : Int) + 1)) (.bool false) (.int .i64 0)) := HB0.out.trans (Q0u (zL _))
  exact bodyPost_ret (Q04 rfl _ _ w.heap.size _ _ (0, 0) _ rfl e9.drew Tryz.underlying103 rfl (Q0k _ _ _ _ _ _ _ _)) rfl (HQ.out _ _ ⟨nd 2 xp xs [] [], (j : Int) + 1, none, rfl, .inr ⟨rfl, HST.out, Q4d (zL _) (SlC.nil _ _ _)⟩, e8.drew⟩)
 ·by_cases hk123 : kindOf (rest l i) none = 123
  ·obtain ⟨hi0, hr0, hx0⟩ := Q0Z h0 hk123 (by omega)
   obtain ⟨j, rfl⟩ := Int.eq_ofNat_of_zero_le h0
   have hj : j < l.length := by omega
   rw [show ((j : Int)).toNat = j by omega] at hr0 hx0
   have hFk : Fw (l.getD j r0).ks := hF.kid (Q1K hj)
   have hFk9 := hFk.1
   have hnd : (nodes (l.getD j r0).ks).length < (nodes (rest l (j : Int))).length := by rw [hr0]; exact Q32 (List.mem_cons_self ..)
   have HWH : Hid (∀ W, Below w.heap.size w W → _) := zh fun W (hW : Below w.heap.size w W) => Q2Z true (Q4p d9) (l.getD j r0) W (((HT.out.below hW).mono hW.size).kidAt hj) hFk (by omega)
   have HRL : Hid (Q0a (d9 + 1) (rest l (j : Int)) e = match Q0B true wnR (l.getD j r0).ks (l.getD j r0).e with
    | .error p => .error p
    | .ok xs => .ok (nd 3 (l.getD j r0).t.p e0 (xs.map nwd) [], rest l ((j : Int) + 1))) := zh (by rw [hr0]; exact Qbb hx0)
   have HADV : Hid (Adv l (j : Int) ((j : Int) + 1)) := zh ⟨1, rfl, by rw [hr0]; simp⟩
   obtain ⟨bb, o, rfl, hbb, hc⟩ := HT.out.at (k := j) (by omega)
   obtain ⟨b0, b1, b2, b3, b4⟩ := hc j hj
   have B0 : ∀ W, Below w.heap.size w W → W.cell? ⟨bb, o + j * 5, none⟩ = _ := fun W hW => (hW.cell (p := ⟨bb, o + j * 5, none⟩) hbb).trans b0
   have B1 : ∀ W, Below w.heap.size w W → W.cell? ⟨bb, o + j * 5 + 1, none⟩ = _ := fun W hW => (hW.cell (p := ⟨bb, o + j * 5 + 1, none⟩) hbb).trans b1
   have B2 : ∀ W, Below w.heap.size w W → W.cell? ⟨bb, o + j * 5 + 2, none⟩ = _ := fun W hW => (hW.cell (p := ⟨bb, o + j * 5 + 2, none⟩) hbb).trans b2
   have B3 : ∀ W, Below w.heap.size w W → W.cell? ⟨bb, o + j * 5 + 3, none⟩ = _ := fun W hW => (hW.cell (p := ⟨bb, o + j * 5 + 3, none⟩) hbb).trans b3
   have B4 : ∀ W, Below w.heap.size w W → W.cell? ⟨bb, o + j * 5 + 4, none⟩ = _ := fun W hW => (hW.cell (p := ⟨bb, o + j * 5 + 4, none⟩) hbb).trans b4
   clear hc b0 b1 b2 b3 b4 hr0 hx0 hF hFk hnd
   generalize l.getD j r0 = y at *
   obtain ⟨⟨yq, ys, xp⟩, YA, yc, ks, ye⟩ := y
   simp only [Tr.t, Tr.A, Tr.c, Tr.ks, Tr.e] at *
   unfold trv at HWH
   simp only [Tr.t, Tr.A, Tr.c, Tr.ks, Tr.e] at HWH
   generalize hkn : ks.length = kn at *
   have HKN := zh hkn; clear hkn
   generalize hn : l.length = n at *
   have HN := zh hn; clear hn
   go_enter Tryz.func121, Tryz.ntmps121
   go_upto_region 1 with fail
   change Code.wp _ _ _ _ (w.alloc (.cells #[.int .i64 0, .int .i64 0, .string ⟨#[]⟩, .slice none 0 0, .slice none 0 0, .int .i64 0, .bool false, .int .i64 0] 103))
   generalize w.alloc (.cells #[.int .i64 0, .int .i64 0, .string ⟨#[]⟩, .slice none 0 0, .slice none 0 0, .int .i64 0, .bool false, .int .i64 0] 103) = w0 at *
   have HI97 := zh (HIS.out w0 HB0.out (j : Int) 97 (by decide))
   rw [zF hk97] at HI97
   go_wp2_with fail
   refine HI97.out.mono ?_
   rintro e' w' ⟨rfl, hww⟩
   have hww := hww.symm
   subst hww
   clear HI97
   have HI123 := zh (HIS.out w0 HB0.out (j : Int) 123 (by decide))
   rw [zE hk123] at HI123
   go_wp2_with fail
   refine HI123.out.mono ?_
   rintro e' w' ⟨rfl, hww⟩
   have hww := hww.symm
   subst hww
   clear HI123
   go_upto_region 11 with fail
   have a0 := B0 w0 HB0.out
   have a1 := B1 w0 HB0.out
   have a2 := B2 w0 HB0.out
   have a3 := B3 w0 HB0.out
   have a4 := B4 w0 HB0.out
   have HCW := zh (HWH.out w0 HB0.out)
   have hjn : (j : Int) < (n : Int) := by omega
   go_wp2_with fail
   refine HCW.out.mono ?_
   rintro e' w5 ⟨out, z, nx, f, rfl, ⟨p, rfl, rfl, her⟩ | ⟨rfl, zs, X, d, rfl, hd, hlz, hok, hsl, hdz⟩, hb5⟩
   ·have HST : Hid (Q0a (d9 + 1) (rest l (j : Int)) e = .error p) := zh (by rw [HRL.out, her])
    have HG5 := zh (HG0.out.below hb5 HG0.out.lt)
    have HB5 := zh (HB0.out.trans (hb5.mono HB0.out.size))
    have hb6 : Below w5.heap.size w5 (w5.alloc (.cells #[.int .i64 z.k, .int .i64 z.p, .string z.s, .slice z.A z.ws.length z.c, .slice z.B z.ks.length z.d, .int .i64 nx, .bool true, .int .i64 p] 103)) := (zB _ _).alloc (zL _) _
    have HG6 := zh (HG5.out.below hb6 HG5.out.lt)
    have HB6 := zh (HB5.out.trans (hb6.mono HB5.out.size))
    have HGG := zh (RowAt.new w5 103 #[.int .i64 z.k, .int .i64 z.p, .string z.s, .slice z.A z.ws.length z.c, .slice z.B z.ks.length z.d, .int .i64 nx, .bool true, .int .i64 p])
    clear hb5 hb6 her HG0 HB0 HG5 HB5 a0 a1 a2 a3 a4
    unfold gv
    simp only [Option.isSome_some, Option.getD_some]
    go_upto_region 12 with fail
    generalize w5.alloc (.cells #[.int .i64 z.k, .int .i64 z.p, .string z.s, .slice z.A z.ws.length z.c, .slice z.B z.ks.length z.d, .int .i64 nx, .bool true, .int .i64 p] 103) = w6 at *
    obtain ⟨⟨g0, g1, g2, g3, g4, g5, g6, g7⟩, ff⟩ := row8 HGG.out
    obtain ⟨⟨k0, k1, k2, k3, k4, k5, k6, k7⟩, fk⟩ := row8 HG6.out
    go_wp2_with fail
    change bodyPost _ _ _ _ _ (set8 w6 w.heap.size (.int .i64 z.k) (.int .i64 z.p) (.string z.s) (.slice z.A z.ws.length z.c) (.slice z.B z.ks.length z.d) (.int .i64 nx) (.bool true) (.int .i64 p))
    exact bodyPost_ret (Q04 rfl _ _ w.heap.size _ _ (0, 0) _ rfl (Q0t HG6.out) Tryz.underlying103 rfl (Q0k _ _ _ _ _ _ _ _)) rfl (HQ.out _ _ ⟨z, nx, some p, rfl, .inl ⟨p, rfl, HST.out⟩, HB6.out.trans (Q0u (zL _))⟩)
   ·have HST : Hid (∀ (Y : Option Addr) (dd : Nat), Step (Q0a (d9 + 1)) l (j : Int) e none (er1 (Nd.mk 3 xp e0 Y dd (zs.map nwd) none 0 [])) ((j : Int) + 1) none) := zh (fun Y dd => Step.ok HADV.out (by
     rw [HRL.out, hok, ← Q5D zs]
     simp [er1, nd, Nd.k, Nd.p, Nd.s, Nd.ws, Nd.ks, TM.er]))
    have HG5 := zh (HG0.out.below hb5 HG0.out.lt)
    have HB5 := zh (HB0.out.trans (hb5.mono HB0.out.size))
    have hb6 : Below w5.heap.size w5 (w5.alloc (.cells #[.int .i64 z.k, .int .i64 z.p, .string z.s, .slice z.A z.ws.length z.c, .slice z.B z.ks.length z.d, .int .i64 nx, .bool false, .int .i64 0] 103)) := (zB _ _).alloc (zL _) _
    have HG6 := zh (HG5.out.below hb6 HG5.out.lt)
    have HB6 := zh (HB5.out.trans (hb6.mono HB5.out.size))
    have HGG := zh (RowAt.new w5 103 #[.int .i64 z.k, .int .i64 z.p, .string z.s, .slice z.A z.ws.length z.c, .slice z.B z.ks.length z.d, .int .i64 nx, .bool false, .int .i64 0])
    have hz0 := HG0.out.lt
    have HSL6 : Hid (SlC (w5.alloc (.cells #[.int .i64 z.k, .int .i64 z.p, .string z.s, .slice z.A z.ws.length z.c, .slice z.B z.ks.length z.d, .int .i64 nx, .bool false, .int .i64 0] 103)) (fun k => w.heap.size < k) X (ncs zs)) := zh ((hsl.weak (ok' := fun k => w.heap.size < k) fun k _ h => by omega).keep9 fun k hk _ => hb6.block k hk)
    have HDZ6 : Hid (DeepN (w5.alloc (.cells #[.int .i64 z.k, .int .i64 z.p, .string z.s, .slice z.A z.ws.length z.c, .slice z.B z.ks.length z.d, .int .i64 nx, .bool false, .int .i64 0] 103)) (fun k => w.heap.size < k) zs) := zh ((hdz.weak (ok' := fun k => w.heap.size < k) fun k _ h => by omega).keep9 fun k hk _ => hb6.block k hk)
    clear hb5 hb6 hok HG0 HG5 HB5 a0 a1 a2 a3 a4 hsl hdz
    unfold gv
    simp only [Option.isSome_none, Option.getD_none]
    go_upto_region 12 with fail
    generalize w5.alloc (.cells #[.int .i64 z.k, .int .i64 z.p, .string z.s, .slice z.A z.ws.length z.c, .slice z.B z.ks.length z.d, .int .i64 nx, .bool false, .int .i64 0] 103) = w6 at *
    have h6 : w.heap.size < w6.heap.size := HG6.out.lt
    obtain ⟨⟨g0, g1, g2, g3, g4, g5, g6, g7⟩, ff⟩ := row8 HGG.out
    have a2 := B2 w6 HB6.out
    clear B0 B1 B2 B3 B4
    have HNW : Hid (Below w6.heap.size w6 (w6.alloc (.cells #[.int .i64 3, .int .i64 xp, .string ⟨#[]⟩, .slice none 0 0, .slice X zs.length d] 29))) := zh ((zB _ _).alloc (zL _) _)
    have HG7 := zh (HG6.out.below HNW.out h6)
    have HB7 := zh (HB6.out.trans (HNW.out.mono (Nat.le_of_lt h6)))
    have HN7 := zh (RowAt.new w6 29 #[.int .i64 3, .int .i64 xp, .string ⟨#[]⟩, .slice none 0 0, .slice X zs.length d])
    have HSL7 := zh (HSL6.out.keep9 (wb := w6.alloc (.cells #[.int .i64 3, .int .i64 xp, .string ⟨#[]⟩, .slice none 0 0, .slice X zs.length d] 29)) fun k hk _ => HNW.out.block k hk)
    have HDZ7 := zh (HDZ6.out.keep9 (wb := w6.alloc (.cells #[.int .i64 3, .int .i64 xp, .string ⟨#[]⟩, .slice none 0 0, .slice X zs.length d] 29)) fun k hk _ => HNW.out.block k hk)
    go_upto_region 15 with fail
    change Code.wp _ _ _ _ (w6.alloc (.cells #[.int .i64 3, .int .i64 xp, .string ⟨#[]⟩, .slice none 0 0, .slice X zs.length d] 29))
    generalize w6.alloc (.cells #[.int .i64 3, .int .i64 xp, .string ⟨#[]⟩, .slice none 0 0, .slice X zs.length d] 29) = w7 at *
    have h7 : w.heap.size < w7.heap.size := HG7.out.lt
    have h7b : w6.heap.size < w7.heap.size := HN7.out.lt
    clear HNW HSL6 HDZ6 HG6 HB6 g0 g1 g2 g3 g4 g5 g6 g7 ff HGG a2
    have HNM := zh (Q4o X d zs w7.heap.size w7 (zL _) (by have := HKN.out; omega) HSL7.out.sl)
    go_wp2_with fail
    refine HNM.out.mono ?_
    rintro e' w8 ⟨Y, dd, rfl, hdd, hsy, hb8⟩
    have HG8 := zh (HG7.out.below hb8 h7)
    have HB8 := zh (HB7.out.trans (hb8.mono (Nat.le_of_lt h7)))
    have HN8 := zh (HN7.out.below hb8 h7b)
    have HSY := zh hsy
    clear hb8 hsy HNM HG7 HB7 HN7 HSL7 HDZ7
    have h8 : w6.heap.size < w8.heap.size := HN8.out.lt
    obtain ⟨n0', n1', n2', n3', n4', u0, u1, u2, u3, u4⟩ := row5 HN8.out
    go_upto_region 18 with fail
    have HNz : Hid (RowAt ((w8.setCell ⟨w6.heap.size, 3, none⟩ (.slice Y zs.length dd)).setCell ⟨w6.heap.size, 4, none⟩ (.slice none 0 0)) w6.heap.size 29 #[.int .i64 3, .int .i64 xp, .string ⟨#[]⟩, .slice Y zs.length dd, .slice none 0 0]) := zh ((HN8.out.put 3 (.slice Y zs.length dd)).put 4 (.slice none 0 0))
    have HGz : Hid (RowAt ((w8.setCell ⟨w6.heap.size, 3, none⟩ (.slice Y zs.length dd)).setCell ⟨w6.heap.size, 4, none⟩ (.slice none 0 0)) w.heap.size 103 #[.int .i64 0, .int .i64 0, .string ⟨#[]⟩, .slice none 0 0, .slice none 0 0, .int .i64 0, .bool false, .int .i64 0]) := zh ((HG8.out.far (p := ⟨w6.heap.size, 3, none⟩) (by show w6.heap.size ≠ w.heap.size; omega) _).far (p := ⟨w6.heap.size, 4, none⟩) (by show w6.heap.size ≠ w.heap.size; omega) _)
    have HBz : Hid (Below w.heap.size w ((w8.setCell ⟨w6.heap.size, 3, none⟩ (.slice Y zs.length dd)).setCell ⟨w6.heap.size, 4, none⟩ (.slice none 0 0))) := zh ((HB8.out.setCell (p := ⟨w6.heap.size, 3, none⟩) (by show w.heap.size ≤ w6.heap.size; omega) _).setCell (p := ⟨w6.heap.size, 4, none⟩) (by show w.heap.size ≤ w6.heap.size; omega) _)
    have HYz : Hid (SlC ((w8.setCell ⟨w6.heap.size, 3, none⟩ (.slice Y zs.length dd)).setCell ⟨w6.heap.size, 4, none⟩ (.slice none 0 0)) (fun k => w7.heap.size ≤ k) Y (wcs (zs.map nwd))) := zh ((HSY.out.setCell9 (fun k hk => by show k ≠ w6.heap.size; omega) _).setCell9 (fun k hk => by show k ≠ w6.heap.size; omega) _)
    clear n0' n1' n2' n3' n4' u0 u1 u2 u3 u4 HN8 HG8 HB8 HSY
    generalize (w8.setCell ⟨w6.heap.size, 3, none⟩ (.slice Y zs.length dd)).setCell ⟨w6.heap.size, 4, none⟩ (.slice none 0 0) = w9 at *
    have HDP : Hid (DeepN w9 (fun k => w.heap.size < k) [Nd.mk 3 xp e0 Y dd (zs.map nwd) none 0 []]) := zh (Q4d (by rw [List.length_map]; exact hdd) (HYz.out.weak fun k _ h => by omega))
    obtain ⟨n0', n1', n2', n3', n4', u0, u1, u2, u3, u4⟩ := row5 HNz.out
    obtain ⟨⟨k0, k1, k2, k3, k4, k5, k6, k7⟩, fk⟩ := row8 HGz.out
    have hjn : (j : Int) < (n : Int) := by omega
    go_wp2_with fail
    change bodyPost _ _ _ _ _ (set8 w9 w.heap.size (.int .i64 3) (.int .i64 xp) (.string ⟨#[]⟩) (.slice Y zs.length dd) (.slice none 0 0) (.int .i64 ((j : Int) + 1)) (.bool false) (.int .i64 0))
    have hdz9 := HDP.out.keep9 (wb := set8 w9 w.heap.size (.int .i64 3) (.int .i64 xp) (.string ⟨#[]⟩) (.slice Y zs.length dd) (.slice none 0 0) (.int .i64 ((j : Int) + 1)) (.bool false) (.int .i64 0)) fun k _ hk => Q1k (by omega)
    refine bodyPost_ret (Q04 rfl _ _ w.heap.size _ _ (0, 0) _ rfl (Q0t HGz.out) Tryz.underlying103 rfl (Q0k _ _ _ _ _ _ _ _)) rfl (HQ.out _ _ ⟨Nd.mk 3 xp e0 Y dd (zs.map nwd) none 0 [], (j : Int) + 1, none, ?_, .inr ⟨rfl, HST.out Y dd, hdz9.weak fun k _ h => by omega⟩, HBz.out.trans (Q0u (zL _))⟩)
    unfold gv
    simp only [Nd.k, Nd.p, Nd.s, Nd.A, Nd.c, Nd.ws, Nd.B, Nd.d, Nd.ks, List.length_map, zA9]
    rfl
  ·by_cases hk40 : kindOf (rest l i) none = 40
   ·obtain ⟨hi0, hr0, hx0⟩ := Q0Z h0 hk40 (by omega)
    obtain ⟨j, rfl⟩ := Int.eq_ofNat_of_zero_le h0
    have hj : j < l.length := by omega
    rw [show ((j : Int)).toNat = j by omega] at hr0 hx0
    have hFk : Fw (l.getD j r0).ks := hF.kid (Q1K hj)
    have hFk9 := hFk.1
    have hnd : (nodes (l.getD j r0).ks).length < (nodes (rest l (j : Int))).length := by rw [hr0]; exact Q32 (List.mem_cons_self ..)
    obtain ⟨d8, hd9⟩ : ∃ d8, d9 = d8 + 1 := ⟨d9 - 1, by omega⟩
    have HWH : Hid (∀ W, Below w.heap.size w W → _) := zh fun W (hW : Below w.heap.size w W) => Q2Z false (hOne _ hd9) (l.getD j r0) W (((HT.out.below hW).mono hW.size).kidAt hj) hFk (by omega)
    have HRL : Hid (Q0a (d9 + 1) (rest l (j : Int)) e = match Q0B false (Q0a d9) (l.getD j r0).ks (l.getD j r0).e with
     | .error p => .error p
     | .ok xs => .ok (nd 4 (l.getD j r0).t.p e0 [] xs, rest l ((j : Int) + 1))) := zh (by rw [hr0]; exact Qbc hx0)
    have HADV : Hid (Adv l (j : Int) ((j : Int) + 1)) := zh ⟨1, rfl, by rw [hr0]; simp⟩
    obtain ⟨bb, o, rfl, hbb, hc⟩ := HT.out.at (k := j) (by omega)
    obtain ⟨b0, b1, b2, b3, b4⟩ := hc j hj
    have B0 : ∀ W, Below w.heap.size w W → W.cell? ⟨bb, o + j * 5, none⟩ = _ := fun W hW => (hW.cell (p := ⟨bb, o + j * 5, none⟩) hbb).trans b0
    have B1 : ∀ W, Below w.heap.size w W → W.cell? ⟨bb, o + j * 5 + 1, none⟩ = _ := fun W hW => (hW.cell (p := ⟨bb, o + j * 5 + 1, none⟩) hbb).trans b1
    have B2 : ∀ W, Below w.heap.size w W → W.cell? ⟨bb, o + j * 5 + 2, none⟩ = _ := fun W hW => (hW.cell (p := ⟨bb, o + j * 5 + 2, none⟩) hbb).trans b2
    have B3 : ∀ W, Below w.heap.size w W → W.cell? ⟨bb, o + j * 5 + 3, none⟩ = _ := fun W hW => (hW.cell (p := ⟨bb, o + j * 5 + 3, none⟩) hbb).trans b3
    have B4 : ∀ W, Below w.heap.size w W → W.cell? ⟨bb, o + j * 5 + 4, none⟩ = _ := fun W hW => (hW.cell (p := ⟨bb, o + j * 5 + 4, none⟩) hbb).trans b4
    clear hc b0 b1 b2 b3 b4 hr0 hx0 hF hFk hnd
    generalize l.getD j r0 = y at *
    obtain ⟨⟨yq, ys, xp⟩, YA, yc, ks, ye⟩ := y
    simp only [Tr.t, Tr.A, Tr.c, Tr.ks, Tr.e] at *
    unfold trv at HWH
    simp only [Tr.t, Tr.A, Tr.c, Tr.ks, Tr.e] at HWH
    generalize hkn : ks.length = kn at *
    have HKN := zh hkn; clear hkn
    generalize hn : l.length = n at *
    have HN := zh hn; clear hn
    go_enter Tryz.func121, Tryz.ntmps121
    go_upto_region 1 with fail
    change Code.wp _ _ _ _ (w.alloc (.cells #[.int .i64 0, .int .i64 0, .string ⟨#[]⟩, .slice none 0 0, .slice none 0 0, .int .i64 0, .bool false, .int .i64 0] 103))
    generalize w.alloc (.cells #[.int .i64 0, .int .i64 0, .string ⟨#[]⟩, .slice none 0 0, .slice none 0 0, .int .i64 0, .bool false, .int .i64 0] 103) = w0 at *
    have HI97 := zh (HIS.out w0 HB0.out (j : Int) 97 (by decide))
    rw [zF hk97] at HI97
    go_wp2_with fail
    refine HI97.out.mono ?_
    rintro e' w' ⟨rfl, hww⟩
    have hww := hww.symm
    subst hww
    clear HI97
    have HI123 := zh (HIS.out w0 HB0.out (j : Int) 123 (by decide))
    rw [zF hk123] at HI123
    go_wp2_with fail
    refine HI123.out.mono ?_
    rintro e' w' ⟨rfl, hww⟩
    have hww := hww.symm
    subst hww
    clear HI123
    have HI40 := zh (HIS.out w0 HB0.out (j : Int) 40 (by decide))
    rw [zE hk40] at HI40
    go_wp2_with fail
    refine HI40.out.mono ?_
    rintro e' w' ⟨rfl, hww⟩
    have hww := hww.symm
    subst hww
    clear HI40
    go_upto_region 11 with fail
    have a0 := B0 w0 HB0.out
    have a1 := B1 w0 HB0.out
    have a2 := B2 w0 HB0.out
    have a3 := B3 w0 HB0.out
    have a4 := B4 w0 HB0.out
    have HCW := zh (HWH.out w0 HB0.out)
    have hjn : (j : Int) < (n : Int) := by omega
    go_wp2_with fail
    refine HCW.out.mono ?_
    rintro e' w5 ⟨out, z, nx, f, rfl, ⟨p, rfl, rfl, her⟩ | ⟨rfl, zs, X, d, rfl, hd, hlz, hok, hsl, hdz⟩, hb5⟩
    ·have HST : Hid (Q0a (d9 + 1) (rest l (j : Int)) e = .error p) := zh (by rw [HRL.out, her])
     have HG5 := zh (HG0.out.below hb5 HG0.out.lt)
     have HB5 := zh (HB0.out.trans (hb5.mono HB0.out.size))
     have hb6 : Below w5.heap.size w5 (w5.alloc (.cells #[.int .i64 z.k, .int .i64 z.p, .string z.s, .slice z.A z.ws.length z.c, .slice z.B z.ks.length z.d, .int .i64 nx, .bool true, .int .i64 p] 103)) := (zB _ _).alloc (zL _) _
     have HG6 := zh (HG5.out.below hb6 HG5.out.lt)
     have HB6 := zh (HB5.out.trans (hb6.mono HB5.out.size))
     have HGG := zh (RowAt.new w5 103 #[.int .i64 z.k, .int .i64 z.p, .string z.s, .slice z.A z.ws.length z.c, .slice z.B z.ks.length z.d, .int .i64 nx, .bool true, .int .i64 p])
     clear hb5 hb6 her HG0 HB0 HG5 HB5 a0 a1 a2 a3 a4
     unfold gv
     simp only [Option.isSome_some, Option.getD_some]
     go_upto_region 12 with fail
     generalize w5.alloc (.cells #[.int .i64 z.k, .int .i64 z.p, .string z.s, .slice z.A z.ws.length z.c, .slice z.B z.ks.length z.d, .int .i64 nx, .bool true, .int .i64 p] 103) = w6 at *
     obtain ⟨⟨g0, g1, g2, g3, g4, g5, g6, g7⟩, ff⟩ := row8 HGG.out
     obtain ⟨⟨k0, k1, k2, k3, k4, k5, k6, k7⟩, fk⟩ := row8 HG6.out
     go_wp2_with fail
     change bodyPost _ _ _ _ _ (set8 w6 w.heap.size (.int .i64 z.k) (.int .i64 z.p) (.string z.s) (.slice z.A z.ws.length z.c) (.slice z.B z.ks.length z.d) (.int .i64 nx) (.bool true) (.int .i64 p))
     exact bodyPost_ret (Q04 rfl _ _ w.heap.size _ _ (0, 0) _ rfl (Q0t HG6.out) Tryz.underlying103 rfl (Q0k _ _ _ _ _ _ _ _)) rfl (HQ.out _ _ ⟨z, nx, some p, rfl, .inl ⟨p, rfl, HST.out⟩, HB6.out.trans (Q0u (zL _))⟩)
    ·have HST : Hid (Step (Q0a (d9 + 1)) l (j : Int) e none (er1 (Nd.mk 4 xp e0 none 0 [] X d zs)) ((j : Int) + 1) none) := zh (Step.ok HADV.out (by
      rw [HRL.out, hok]
      simp [er1, nd, Nd.k, Nd.p, Nd.s, Nd.ws, Nd.ks, TM.er]))
     have HG5 := zh (HG0.out.below hb5 HG0.out.lt)
     have HB5 := zh (HB0.out.trans (hb5.mono HB0.out.size))
     have hb6 : Below w5.heap.size w5 (w5.alloc (.cells #[.int .i64 z.k, .int .i64 z.p, .string z.s, .slice z.A z.ws.length z.c, .slice z.B z.ks.length z.d, .int .i64 nx, .bool false, .int .i64 0] 103)) := (zB _ _).alloc (zL _) _
     have HG6 := zh (HG5.out.below hb6 HG5.out.lt)
     have HB6 := zh (HB5.out.trans (hb6.mono HB5.out.size))
     have HGG := zh (RowAt.new w5 103 #[.int .i64 z.k, .int .i64 z.p, .string z.s, .slice z.A z.ws.length z.c, .slice z.B z.ks.length z.d, .int .i64 nx, .bool false, .int .i64 0])
     have hz0 := HG0.out.lt
     have HSL6 : Hid (SlC (w5.alloc (.cells #[.int .i64 z.k, .int .i64 z.p, .string z.s, .slice z.A z.ws.length z.c, .slice z.B z.ks.length z.d, .int .i64 nx, .bool false, .int .i64 0] 103)) (fun k => w.heap.size < k) X (ncs zs)) := zh ((hsl.weak (ok' := fun k => w.heap.size < k) fun k _ h => by omega).keep9 fun k hk _ => hb6.block k hk)
     have HDZ6 : Hid (DeepN (w5.alloc (.cells #[.int .i64 z.k, .int .i64 z.p, .string z.s, .slice z.A z.ws.length z.c, .slice z.B z.ks.length z.d, .int .i64 nx, .bool false, .int .i64 0] 103)) (fun k => w.heap.size < k) zs) := zh ((hdz.weak (ok' := fun k => w.heap.size < k) fun k _ h => by omega).keep9 fun k hk _ => hb6.block k hk)
     clear hb5 hb6 hok HG0 HG5 HB5 a0 a1 a2 a3 a4 hsl hdz
     unfold gv
     simp only [Option.isSome_none, Option.getD_none]
     go_upto_region 12 with fail
     generalize w5.alloc (.cells #[.int .i64 z.k, .int .i64 z.p, .string z.s, .slice z.A z.ws.length z.c, .slice z.B z.ks.length z.d, .int .i64 nx, .bool false, .int .i64 0] 103) = w6 at *
     have h6 : w.heap.size < w6.heap.size := HG6.out.lt
     obtain ⟨⟨g0, g1, g2, g3, g4, g5, g6, g7⟩, ff⟩ := row8 HGG.out
     have a2 := B2 w6 HB6.out
     clear B0 B1 B2 B3 B4
     have HNW : Hid (Below w6.heap.size w6 (w6.alloc (.cells #[.int .i64 4, .int .i64 xp, .string ⟨#[]⟩, .slice none 0 0, .slice X zs.length d] 29))) := zh ((zB _ _).alloc (zL _) _)
     have HG7 := zh (HG6.out.below HNW.out h6)
     have HB7 := zh (HB6.out.trans (HNW.out.mono (Nat.le_of_lt h6)))
     have HN7 := zh (RowAt.new w6 29 #[.int .i64 4, .int .i64 xp, .string ⟨#[]⟩, .slice none 0 0, .slice X zs.length d])
     have HSL7 := zh (HSL6.out.keep9 (wb := w6.alloc (.cells #[.int .i64 4, .int .i64 xp, .string ⟨#[]⟩, .slice none 0 0, .slice X zs.length d] 29)) fun k hk _ => HNW.out.block k hk)
     have HDZ7 := zh (HDZ6.out.keep9 (wb := w6.alloc (.cells #[.int .i64 4, .int .i64 xp, .string ⟨#[]⟩, .slice none 0 0, .slice X zs.length d] 29)) fun k hk _ => HNW.out.block k hk)
     go_upto_region 15 with fail
     change Code.wp _ _ _ _ (w6.alloc (.cells #[.int .i64 4, .int .i64 xp, .string ⟨#[]⟩, .slice none 0 0, .slice X zs.length d] 29))
     generalize w6.alloc (.cells #[.int .i64 4, .int .i64 xp, .string ⟨#[]⟩, .slice none 0 0, .slice X zs.length d] 29) = w7 at *
     have h7 : w.heap.size < w7.heap.size := HG7.out.lt
     have h7b : w6.heap.size < w7.heap.size := HN7.out.lt
     clear HNW HSL6 HDZ6 HG6 HB6 g0 g1 g2 g3 g4 g5 g6 g7 ff HGG a2
     go_upto_region 18 with fail
     have HNz := HN7
     have HGz := HG7
     have HBz := HB7
     have HDP : Hid (DeepN w7 (fun k => w.heap.size < k) [Nd.mk 4 xp e0 none 0 [] X d zs]) := zh (DeepN.one ⟨⟨SlC.nil _ _ _, zL _⟩, HSL7.out.weak fun k _ h => by omega, hd⟩ (HDZ7.out.weak fun k _ h => by omega))
     clear HN7 HG7 HB7 HSL7 HDZ7
     generalize w7 = w9 at *
     obtain ⟨n0', n1', n2', n3', n4', u0, u1, u2, u3, u4⟩ := row5 HNz.out
     obtain ⟨⟨k0, k1, k2, k3, k4, k5, k6, k7⟩, fk⟩ := row8 HGz.out
     have hjn : (j : Int) < (n : Int) := by omega
     go_wp2_with fail
     change bodyPost _ _ _ _ _ (set8 w9 w.heap.size (.int .i64 4) (.int .i64 xp) (.string ⟨#[]⟩) (.slice none 0 0) (.slice X zs.length d) (.int .i64 ((j : Int) + 1)) (.bool false) (.int .i64 0))
     have hdz9 := HDP.out.keep9 (wb := set8 w9 w.heap.size (.int .i64 4) (.int .i64 xp) (.string ⟨#[]⟩) (.slice none 0 0) (.slice X zs.length d) (.int .i64 ((j : Int) + 1)) (.bool false) (.int .i64 0)) fun k _ hk => Q1k (by omega)
     refine bodyPost_ret (Q04 rfl _ _ w.heap.size _ _ (0, 0) _ rfl (Q0t HGz.out) Tryz.underlying103 rfl (Q0k _ _ _ _ _ _ _ _)) rfl (HQ.out _ _ ⟨Nd.mk 4 xp e0 none 0 [] X d zs, (j : Int) + 1, none, ?_, .inr ⟨rfl, HST.out, hdz9.weak fun k _ h => by omega⟩, HBz.out.trans (Q0u (zL _))⟩)
     unfold gv
     simp only [Nd.k, Nd.p, Nd.s, Nd.A, Nd.c, Nd.ws, Nd.B, Nd.d, Nd.ks, List.length_map, zA9]
     rfl
   ·by_cases hk91 : kindOf (rest l i) none = 91
    ·obtain ⟨hi0, hr0, hx0⟩ := Q0Z h0 hk91 (by omega)
     obtain ⟨j, rfl⟩ := Int.eq_ofNat_of_zero_le h0
     have hj : j < l.length := by omega
     rw [show ((j : Int)).toNat = j by omega] at hr0 hx0
     have hFk : Fw (l.getD j r0).ks := hF.kid (Q1K hj)
     have hFk9 := hFk.1
     have hnd : (nodes (l.getD j r0).ks).length < (nodes (rest l (j : Int))).length := by rw [hr0]; exact Q32 (List.mem_cons_self ..)
     have HWH : Hid (∀ W, Below w.heap.size w W → _) := zh fun W (hW : Below w.heap.size w W) => Q2Z true (hRule d9) (l.getD j r0) W (((HT.out.below hW).mono hW.size).kidAt hj) hFk (by omega)
     have HRL : Hid (Q0a (d9 + 1) (rest l (j : Int)) e = match Q0B true Q0z (l.getD j r0).ks (l.getD j r0).e with
      | .error p => .error p
      | .ok xs => .ok (nd 5 (l.getD j r0).t.p e0 [] xs, rest l ((j : Int) + 1))) := zh (by rw [hr0]; exact Qbd hx0)
     have HADV : Hid (Adv l (j : Int) ((j : Int) + 1)) := zh ⟨1, rfl, by rw [hr0]; simp⟩
     obtain ⟨bb, o, rfl, hbb, hc⟩ := HT.out.at (k := j) (by omega)
     obtain ⟨b0, b1, b2, b3, b4⟩ := hc j hj
     have B0 : ∀ W, Below w.heap.size w W → W.cell? ⟨bb, o + j * 5, none⟩ = _ := fun W hW => (hW.cell (p := ⟨bb, o + j * 5, none⟩) hbb).trans b0
     have B1 : ∀ W, Below w.heap.size w W → W.cell? ⟨bb, o + j * 5 + 1, none⟩ = _ := fun W hW => (hW.cell (p := ⟨bb, o + j * 5 + 1, none⟩) hbb).trans b1
     have B2 : ∀ W, Below w.heap.size w W → W.cell? ⟨bb, o + j * 5 + 2, none⟩ = _ := fun W hW => (hW.cell (p := ⟨bb, o + j * 5 + 2, none⟩) hbb).trans b2
     have B3 : ∀ W, Below w.heap.size w W → W.cell? ⟨bb, o + j * 5 + 3, none⟩ = _ := fun W hW => (hW.cell (p := ⟨bb, o + j * 5 + 3, none⟩) hbb).trans b3
     have B4 : ∀ W, Below w.heap.size w W → W.cell? ⟨bb, o + j * 5 + 4, none⟩ = _ := fun W hW => (hW.cell (p := ⟨bb, o + j * 5 + 4, none⟩) hbb).trans b4
     clear hc b0 b1 b2 b3 b4 hr0 hx0 hF hFk hnd
     generalize l.getD j r0 = y at *
     obtain ⟨⟨yq, ys, xp⟩, YA, yc, ks, ye⟩ := y
     simp only [Tr.t, Tr.A, Tr.c, Tr.ks, Tr.e] at *
     unfold trv at HWH
     simp only [Tr.t, Tr.A, Tr.c, Tr.ks, Tr.e] at HWH
     generalize hkn : ks.length = kn at *
     have HKN := zh hkn; clear hkn
     generalize hn : l.length = n at *
     have HN := zh hn; clear hn
     go_enter Tryz.func121, Tryz.ntmps121
     go_upto_region 1 with fail
     change Code.wp _ _ _ _ (w.alloc (.cells #[.int .i64 0, .int .i64 0, .string ⟨#[]⟩, .slice none 0 0, .slice none 0 0, .int .i64 0, .bool false, .int .i64 0] 103))
     generalize w.alloc (.cells #[.int .i64 0, .int .i64 0, .string ⟨#[]⟩, .slice none 0 0, .slice none 0 0, .int .i64 0, .bool false, .int .i64 0] 103) = w0 at *
     have HI97 := zh (HIS.out w0 HB0.out (j : Int) 97 (by decide))
     rw [zF hk97] at HI97
     go_wp2_with fail
     refine HI97.out.mono ?_
     rintro e' w' ⟨rfl, hww⟩
     have hww := hww.symm
     subst hww
     clear HI97
     have HI123 := zh (HIS.out w0 HB0.out (j : Int) 123 (by decide))
     rw [zF hk123] at HI123
     go_wp2_with fail
     refine HI123.out.mono ?_
     rintro e' w' ⟨rfl, hww⟩
     have hww := hww.symm
     subst hww
     clear HI123
     have HI40 := zh (HIS.out w0 HB0.out (j : Int) 40 (by decide))
     rw [zF hk40] at HI40
     go_wp2_with fail
     refine HI40.out.mono ?_
     rintro e' w' ⟨rfl, hww⟩
     have hww := hww.symm
     subst hww
     clear HI40
     have HI91 := zh (HIS.out w0 HB0.out (j : Int) 91 (by decide))
     rw [zE hk91] at HI91
     go_wp2_with fail
     refine HI91.out.mono ?_
     rintro e' w' ⟨rfl, hww⟩
     have hww := hww.symm
     subst hww
     clear HI91
     go_upto_region 11 with fail
     have a0 := B0 w0 HB0.out
     have a1 := B1 w0 HB0.out
     have a2 := B2 w0 HB0.out
     have a3 := B3 w0 HB0.out
     have a4 := B4 w0 HB0.out
     have HCW := zh (HWH.out w0 HB0.out)
     have hjn : (j : Int) < (n : Int) := by omega
     go_wp2_with fail
     refine HCW.out.mono ?_
     rintro e' w5 ⟨out, z, nx, f, rfl, ⟨p, rfl, rfl, her⟩ | ⟨rfl, zs, X, d, rfl, hd, hlz, hok, hsl, hdz⟩, hb5⟩
     ·have HST : Hid (Q0a (d9 + 1) (rest l (j : Int)) e = .error p) := zh (by rw [HRL.out, her])
      have HG5 := zh (HG0.out.below hb5 HG0.out.lt)
      have HB5 := zh (HB0.out.trans (hb5.mono HB0.out.size))
      have hb6 : Below w5.heap.size w5 (w5.alloc (.cells #[.int .i64 z.k, .int .i64 z.p, .string z.s, .slice z.A z.ws.length z.c, .slice z.B z.ks.length z.d, .int .i64 nx, .bool true, .int .i64 p] 103)) := (zB _ _).alloc (zL _) _
      have HG6 := zh (HG5.out.below hb6 HG5.out.lt)
      have HB6 := zh (HB5.out.trans (hb6.mono HB5.out.size))
      have HGG := zh (RowAt.new w5 103 #[.int .i64 z.k, .int .i64 z.p, .string z.s, .slice z.A z.ws.length z.c, .slice z.B z.ks.length z.d, .int .i64 nx, .bool true, .int .i64 p])
      clear hb5 hb6 her HG0 HB0 HG5 HB5 a0 a1 a2 a3 a4
      unfold gv
      simp only [Option.isSome_some, Option.getD_some]
      go_upto_region 12 with fail
      generalize w5.alloc (.cells #[.int .i64 z.k, .int .i64 z.p, .string z.s, .slice z.A z.ws.length z.c, .slice z.B z.ks.length z.d, .int .i64 nx, .bool true, .int .i64 p] 103) = w6 at *
      obtain ⟨⟨g0, g1, g2, g3, g4, g5, g6, g7⟩, ff⟩ := row8 HGG.out
      obtain ⟨⟨k0, k1, k2, k3, k4, k5, k6, k7⟩, fk⟩ := row8 HG6.out
      go_wp2_with fail
      change bodyPost _ _ _ _ _ (set8 w6 w.heap.size (.int .i64 z.k) (.int .i64 z.p) (.string z.s) (.slice z.A z.ws.length z.c) (.slice z.B z.ks.length z.d) (.int .i64 nx) (.bool true) (.int .i64 p))
      exact bodyPost_ret (Q04 rfl _ _ w.heap.size _ _ (0, 0) _ rfl (Q0t HG6.out) Tryz.underlying103 rfl (Q0k _ _ _ _ _ _ _ _)) rfl (HQ.out _ _ ⟨z, nx, some p, rfl, .inl ⟨p, rfl, HST.out⟩, HB6.out.trans (Q0u (zL _))⟩)
     ·have HST : Hid (Step (Q0a (d9 + 1)) l (j : Int) e none (er1 (Nd.mk 5 xp e0 none 0 [] X d zs)) ((j : Int) + 1) none) := zh (Step.ok HADV.out (by
       rw [HRL.out, hok]
       simp [er1, nd, Nd.k, Nd.p, Nd.s, Nd.ws, Nd.ks, TM.er]))
      have HG5 := zh (HG0.out.below hb5 HG0.out.lt)
      have HB5 := zh (HB0.out.trans (hb5.mono HB0.out.size))
      have hb6 : Below w5.heap.size w5 (w5.alloc (.cells #[.int .i64 z.k, .int .i64 z.p, .string z.s, .slice z.A z.ws.length z.c, .slice z.B z.ks.length z.d, .int .i64 nx, .bool false, .int .i64 0] 103)) := (zB _ _).alloc (zL _) _
      have HG6 := zh (HG5.out.below hb6 HG5.out.lt)
      have HB6 := zh (HB5.out.trans (hb6.mono HB5.out.size))
      have HGG := zh (RowAt.new w5 103 #[.int .i64 z.k, .int .i64 z.p, .string z.s, .slice z.A z.ws.length z.c, .slice z.B z.ks.length z.d, .int .i64 nx, .bool false, .int .i64 0])
      have hz0 := HG0.out.lt
      have HSL6 : Hid (SlC (w5.alloc (.cells #[.int .i64 z.k, .int .i64 z.p, .string z.s, .slice z.A z.ws.length z.c, .slice z.B z.ks.length z.d, .int .i64 nx, .bool false, .int .i64 0] 103)) (fun k => w.heap.size < k) X (ncs zs)) := zh ((hsl.weak (ok' := fun k => w.heap.size < k) fun k _ h => by omega).keep9 fun k hk _ => hb6.block k hk)
      have HDZ6 : Hid (DeepN (w5.alloc (.cells #[.int .i64 z.k, .int .i64 z.p, .string z.s, .slice z.A z.ws.length z.c, .slice z.B z.ks.length z.d, .int .i64 nx, .bool false, .int .i64 0] 103)) (fun k => w.heap.size < k) zs) := zh ((hdz.weak (ok' := fun k => w.heap.size < k) fun k _ h => by omega).keep9 fun k hk _ => hb6.block k hk)
      clear hb5 hb6 hok HG0 HG5 HB5 a0 a1 a2 a3 a4 hsl hdz
      unfold gv
      simp only [Option.isSome_none, Option.getD_none]
      go_upto_region 12 with fail
      generalize w5.alloc (.cells #[.int .i64 z.k, .int .i64 z.p, .string z.s, .slice z.A z.ws.length z.c, .slice z.B z.ks.length z.d, .int .i64 nx, .bool false, .int .i64 0] 103) = w6 at *
      have h6 : w.heap.size < w6.heap.size := HG6.out.lt
      obtain ⟨⟨g0, g1, g2, g3, g4, g5, g6, g7⟩, ff⟩ := row8 HGG.out
      have a2 := B2 w6 HB6.out
      clear B0 B1 B2 B3 B4
      have HNW : Hid (Below w6.heap.size w6 (w6.alloc (.cells #[.int .i64 5, .int .i64 xp, .string ⟨#[]⟩, .slice none 0 0, .slice X zs.length d] 29))) := zh ((zB _ _).alloc (zL _) _)
      have HG7 := zh (HG6.out.below HNW.out h6)
      have HB7 := zh (HB6.out.trans (HNW.out.mono (Nat.le_of_lt h6)))
      have HN7 := zh (RowAt.new w6 29 #[.int .i64 5, .int .i64 xp, .string ⟨#[]⟩, .slice none 0 0, .slice X zs.length d])
      have HSL7 := zh (HSL6.out.keep9 (wb := w6.alloc (.cells #[.int .i64 5, .int .i64 xp, .string ⟨#[]⟩, .slice none 0 0, .slice X zs.length d] 29)) fun k hk _ => HNW.out.block k hk)
      have HDZ7 := zh (HDZ6.out.keep9 (wb := w6.alloc (.cells #[.int .i64 5, .int .i64 xp, .string ⟨#[]⟩, .slice none 0 0, .slice X zs.length d] 29)) fun k hk _ => HNW.out.block k hk)
      go_upto_region 15 with fail
      change Code.wp _ _ _ _ (w6.alloc (.cells #[.int .i64 5, .int .i64 xp, .string ⟨#[]⟩, .slice none 0 0, .slice X zs.length d] 29))
      generalize w6.alloc (.cells #[.int .i64 5, .int .i64 xp, .string ⟨#[]⟩, .slice none 0 0, .slice X zs.length d] 29) = w7 at *
      have h7 : w.heap.size < w7.heap.size := HG7.out.lt
      have h7b : w6.heap.size < w7.heap.size := HN7.out.lt
      clear HNW HSL6 HDZ6 HG6 HB6 g0 g1 g2 g3 g4 g5 g6 g7 ff HGG a2
      go_upto_region 18 with fail
      have HNz := HN7
      have HGz := HG7
      have HBz := HB7
      have HDP : Hid (DeepN w7 (fun k => w.heap.size < k) [Nd.mk 5 xp e0 none 0 [] X d zs]) := zh (DeepN.one ⟨⟨SlC.nil _ _ _, zL _⟩, HSL7.out.weak fun k _ h => by omega, hd⟩ (HDZ7.out.weak fun k _ h => by omega))
      clear HN7 HG7 HB7 HSL7 HDZ7
      generalize w7 = w9 at *
      obtain ⟨n0', n1', n2', n3', n4', u0, u1, u2, u3, u4⟩ := row5 HNz.out
      obtain ⟨⟨k0, k1, k2, k3, k4, k5, k6, k7⟩, fk⟩ := row8 HGz.out
      have hjn : (j : Int) < (n : Int) := by omega
      go_wp2_with fail
      change bodyPost _ _ _ _ _ (set8 w9 w.heap.size (.int .i64 5) (.int .i64 xp) (.string ⟨#[]⟩) (.slice none 0 0) (.slice X zs.length d) (.int .i64 ((j : Int) + 1)) (.bool false) (.int .i64 0))
      have hdz9 := HDP.out.keep9 (wb := set8 w9 w.heap.size (.int .i64 5) (.int .i64 xp) (.string ⟨#[]⟩) (.slice none 0 0) (.slice X zs.length d) (.int .i64 ((j : Int) + 1)) (.bool false) (.int .i64 0)) fun k _ hk => Q1k (by omega)
      refine bodyPost_ret (Q04 rfl _ _ w.heap.size _ _ (0, 0) _ rfl (Q0t HGz.out) Tryz.underlying103 rfl (Q0k _ _ _ _ _ _ _ _)) rfl (HQ.out _ _ ⟨Nd.mk 5 xp e0 none 0 [] X d zs, (j : Int) + 1, none, ?_, .inr ⟨rfl, HST.out, hdz9.weak fun k _ h => by omega⟩, HBz.out.trans (Q0u (zL _))⟩)
      unfold gv
      simp only [Nd.k, Nd.p, Nd.s, Nd.A, Nd.c, Nd.ws, Nd.B, Nd.d, Nd.ks, List.length_map, zA9]
      rfl
    ·have HER : Hid (Q0a (d9 + 1) (rest l i) e = .error (Q00 (rest l i) e)) := zh (Qbe hk97 hk123 hk40 hk91)
     generalize hn : l.length = n at *
     have HN := zh hn; clear hn
     go_enter Tryz.func121, Tryz.ntmps121
     go_upto_region 1 with fail
     change Code.wp _ _ _ _ (w.alloc (.cells #[.int .i64 0, .int .i64 0, .string ⟨#[]⟩, .slice none 0 0, .slice none 0 0, .int .i64 0, .bool false, .int .i64 0] 103))
     generalize w.alloc (.cells #[.int .i64 0, .int .i64 0, .string ⟨#[]⟩, .slice none 0 0, .slice none 0 0, .int .i64 0, .bool false, .int .i64 0] 103) = w0 at *
     have HI97 := zh (HIS.out w0 HB0.out i 97 (by decide))
     rw [zF hk97] at HI97
     go_wp2_with fail
     refine HI97.out.mono ?_
     rintro e' w' ⟨rfl, hww⟩
     have hww := hww.symm
     subst hww
     clear HI97
     have HI123 := zh (HIS.out w0 HB0.out i 123 (by decide))
     rw [zF hk123] at HI123
     go_wp2_with fail
     refine HI123.out.mono ?_
     rintro e' w' ⟨rfl, hww⟩
     have hww := hww.symm
     subst hww
     clear HI123
     have HI40 := zh (HIS.out w0 HB0.out i 40 (by decide))
     rw [zF hk40] at HI40
     go_wp2_with fail
     refine HI40.out.mono ?_
     rintro e' w' ⟨rfl, hww⟩
     have hww := hww.symm
     subst hww
     clear HI40
     have HI91 := zh (HIS.out w0 HB0.out i 91 (by decide))
     rw [zF hk91] at HI91
     go_wp2_with fail
     refine HI91.out.mono ?_
     rintro e' w' ⟨rfl, hww⟩
     have hww := hww.symm
     subst hww
     clear HI91
     have HWR := zh (HWS.out w0 HB0.out i)
     go_wp2_with fail
     refine HWR.out.mono ?_
     rintro e' w9 ⟨rfl, hb9⟩
     have HR9 := zh (HG0.out.below hb9 HG0.out.lt)
     have HB9 := zh (HB0.out.trans (hb9.mono HB0.out.size))
     clear hb9
     obtain ⟨⟨k0, k1, k2, k3, k4, k5, k6, k7⟩, fk⟩ := row8 HR9.out
     unfold gbad
     generalize Q00 (rest l i) e = p at *
     go_wp2_with fail
     change bodyPost _ _ _ _ _ (set8 w9 w.heap.size (.int .i64 0) (.int .i64 0) (.string ⟨#[]⟩) (.slice none 0 0) (.slice none 0 0) (.int .i64 0) (.bool true) (.int .i64 p))
     exact bodyPost_ret (Q04 rfl _ _ w.heap.size _ _ (0, 0) _ rfl (Q0t HR9.out) Tryz.underlying103 rfl (Q0k _ _ _ _ _ _ _ _)) rfl (HQ.out _ _ ⟨n0, 0, some p, rfl, .inl ⟨p, rfl, HER.out⟩, HB9.out.trans (Q0u (zL _))⟩)
end
section
open Go.RowKit LX TR TM DT
namespace DT
theorem Q0I (z : Nd) (n : Int) (f : Option Int) : (Tryz.prog.info? 103).map (·.size) = some (gv z n f).size := by kernel_rfl
theorem Gt.keepN {s s2 : Nat} {rd : Rdr Nd} {l : List Tr} {i e : Int} {z : Nd} {n : Int} {f : Option Int} {w w' : World} (h : Gt s rd l i e z n f w) (hs : s2 ≤ s) (hk : ∀ k, k < w.heap.size → s ≤ k → w'.heap[k]? = w.heap[k]?) : Gt s2 rd l i e z n f w' := by
 rcases h with h | ⟨h1, h2, h3⟩
 ·exact .inl h
 ·exact .inr ⟨h1, h2, (h3.keep9 hk).weak fun k _ h => zM hs h⟩
theorem Gt.same {s : Nat} {rd rd2 : Rdr Nd} {l : List Tr} {i e : Int} {z : Nd} {n : Int} {f : Option Int} {w : World} (h : Gt s rd l i e z n f w) (hr : rd (rest l i) e = rd2 (rest l i) e) : Gt s rd2 l i e z n f w := by
 rcases h with ⟨p, h1, h2⟩ | ⟨h1, h2, h3⟩
 ·exact .inl ⟨p, h1, by rw [← hr, h2]⟩
 ·exact .inr ⟨h1, ⟨h2.1, h2.2.1, fun hf => by rw [← hr]; exact h2.2.2 hf⟩, h3⟩
theorem Q78 {d : Nat} {ts : List Tr} {e : Int} (h1 : kindOf ts none ≠ 43) (h2 : kindOf ts none ≠ 38) : Q09 (d + 1) ts e = Q0n (d + 1) ts e := by
 cases ts with
 | nil => rfl
 | cons x r =>
   have e1 : ¬ x.t.k = 43 := h1
   have e2 : ¬ x.t.k = 38 := h2
   simp only [Q09]
   rw [if_neg e1, if_neg e2]
theorem Q79 {d : Nat} {ts : List Tr} {e : Int} (h1 : kindOf ts none ≠ 35) (h2 : kindOf ts none ≠ 97) : Q0n d ts e = .error (Q00 ts e) := by
 cases ts with
 | nil => rfl
 | cons x r =>
   have e1 : ¬ x.t.k = 35 := h1
   simp only [Q0n]
   rw [if_neg e1]
   unfold varR
   rw [Q2e h2]; rfl
end DT
theorem Qbf {rd : Rdr Nd} {N : Nat} (h : Gc 121 rd N) : Oc 1 rd N := by
 intro A c l i e w hT hF h0 h1 hN
 have hB : Below w.heap.size w (w.alloc (.cells #[.int .i64 0, .int .i64 0, .string ⟨#[]⟩, .slice none 0 0, .slice none 0 0, .int .i64 0, .bool false, .int .i64 0] 103)) := (zB _ _).alloc (zL _) _
 have HG0 := zh (RowAt.new w 103 #[.int .i64 0, .int .i64 0, .string ⟨#[]⟩, .slice none 0 0, .slice none 0 0, .int .i64 0, .bool false, .int .i64 0])
 have HB0 := zh hB
 have HC := zh (h A c l i e _ ((hT.below hB).mono hB.size) hF h0 h1 hN)
 refine Q0e fun Q' hQ => ?_
 have HQ := zh hQ; clear hQ hT hB h hF hN h0 h1
 generalize hn : l.length = n at *
 have HN := zh hn; clear hn
 go_enter Tryz.func123, Tryz.ntmps123
 go_upto_region 1 with fail
 change Code.wp _ _ _ _ (w.alloc (.cells #[.int .i64 0, .int .i64 0, .string ⟨#[]⟩, .slice none 0 0, .slice none 0 0, .int .i64 0, .bool false, .int .i64 0] 103))
 generalize w.alloc (.cells #[.int .i64 0, .int .i64 0, .string ⟨#[]⟩, .slice none 0 0, .slice none 0 0, .int .i64 0, .bool false, .int .i64 0] 103) = w0 at *
 go_wp2_with fail
 refine HC.out.mono ?_
 rintro e' w1 ⟨z, n9, f, rfl, hgt, hb1⟩
 have HR1 := zh (HG0.out.below hb1 HG0.out.lt)
 have HB1 := zh (HB0.out.trans (hb1.mono HB0.out.size))
 have h0 := HG0.out.lt
 have hz1 : w.heap.size < w1.heap.size := HR1.out.lt
 have HGT := zh hgt
 clear hb1 hgt
 go_wp2_with (first | (refine wpList_store_row rfl _ _ _ rfl w.heap.size (gv z n9 f) rfl rfl _ _ HR1.out (Q0I z n9 f) rfl (by simp [gv, Value.oneCell']) ?_))
 exact bodyPost_ret (Q04 rfl _ _ w.heap.size _ _ (0, 0) _ rfl (HR1.out.setRow (gv z n9 f)) Tryz.underlying103 rfl (Q0I z n9 f)) rfl (HQ.out _ _ ⟨z, n9, f, rfl, HGT.out.keepN (w' := w1.setRow w.heap.size (gv z n9 f)) (Nat.le_of_lt h0) fun k hk hs => setRow_other _ _ k _ (by omega), HB1.out.trans (below_setRow (zL _) _)⟩)
theorem Q7a {rd : Rdr Nd} {N : Nat} (h : Gc 143 rd N) : Oc 2 rd N := by
 intro A c l i e w hT hF h0 h1 hN
 have hB : Below w.heap.size w (w.alloc (.cells #[.int .i64 0, .int .i64 0, .string ⟨#[]⟩, .slice none 0 0, .slice none 0 0, .int .i64 0, .bool false, .int .i64 0] 103)) := (zB _ _).alloc (zL _) _
 have HG0 := zh (RowAt.new w 103 #[.int .i64 0, .int .i64 0, .string ⟨#[]⟩, .slice none 0 0, .slice none 0 0, .int .i64 0, .bool false, .int .i64 0])
 have HB0 := zh hB
 have HC := zh (h A c l i e _ ((hT.below hB).mono hB.size) hF h0 h1 hN)
 refine Q0e fun Q' hQ => ?_
 have HQ := zh hQ; clear hQ hT hB h hF hN h0 h1
 generalize hn : l.length = n at *
 have HN := zh hn; clear hn
 go_enter Tryz.func123, Tryz.ntmps123
 go_upto_region 1 with fail
 change Code.wp _ _ _ _ (w.alloc (.cells #[.int .i64 0, .int .i64 0, .string ⟨#[]⟩, .slice none 0 0, .slice none 0 0, .int .i64 0, .bool false, .int .i64 0] 103))
 generalize w.alloc (.cells #[.int .i64 0, .int .i64 0, .string ⟨#[]⟩, .slice none 0 0, .slice none 0 0, .int .i64 0, .bool false, .int .i64 0] 103) = w0 at *
 go_wp2_with fail
 refine HC.out.mono ?_
 rintro e' w1 ⟨z, n9, f, rfl, hgt, hb1⟩
 have HR1 := zh (HG0.out.below hb1 HG0.out.lt)
 have HB1 := zh (HB0.out.trans (hb1.mono HB0.out.size))
 have h0 := HG0.out.lt
 have hz1 : w.heap.size < w1.heap.size := HR1.out.lt
 have HGT := zh hgt
 clear hb1 hgt
 go_wp2_with (first | (refine wpList_store_row rfl _ _ _ rfl w.heap.size (gv z n9 f) rfl rfl _ _ HR1.out (Q0I z n9 f) rfl (by simp [gv, Value.oneCell']) ?_))
 exact bodyPost_ret (Q04 rfl _ _ w.heap.size _ _ (0, 0) _ rfl (HR1.out.setRow (gv z n9 f)) Tryz.underlying103 rfl (Q0I z n9 f)) rfl (HQ.out _ _ ⟨z, n9, f, rfl, HGT.out.keepN (w' := w1.setRow w.heap.size (gv z n9 f)) (Nat.le_of_lt h0) fun k hk hs => setRow_other _ _ k _ (by omega), HB1.out.trans (below_setRow (zL _) _)⟩)
theorem Qbg {rd : Rdr Nd} {N : Nat} (h : Gc 76 rd N) : Oc 3 rd N := by
 intro A c l i e w hT hF h0 h1 hN
 have hB : Below w.heap.size w (w.alloc (.cells #[.int .i64 0, .int .i64 0, .string ⟨#[]⟩, .slice none 0 0, .slice none 0 0, .int .i64 0, .bool false, .int .i64 0] 103)) := (zB _ _).alloc (zL _) _
 have HG0 := zh (RowAt.new w 103 #[.int .i64 0, .int .i64 0, .string ⟨#[]⟩, .slice none 0 0, .slice none 0 0, .int .i64 0, .bool false, .int .i64 0])
 have HB0 := zh hB
 have HC := zh (h A c l i e _ ((hT.below hB).mono hB.size) hF h0 h1 hN)
 refine Q0e fun Q' hQ => ?_
 have HQ := zh hQ; clear hQ hT hB h hF hN h0 h1
 generalize hn : l.length = n at *
 have HN := zh hn; clear hn
 go_enter Tryz.func123, Tryz.ntmps123
 go_upto_region 1 with fail
 change Code.wp _ _ _ _ (w.alloc (.cells #[.int .i64 0, .int .i64 0, .string ⟨#[]⟩, .slice none 0 0, .slice none 0 0, .int .i64 0, .bool false, .int .i64 0] 103))
 generalize w.alloc (.cells #[.int .i64 0, .int .i64 0, .string ⟨#[]⟩, .slice none 0 0, .slice none 0 0, .int .i64 0, .bool false, .int .i64 0] 103) = w0 at *
 go_wp2_with fail
 refine HC.out.mono ?_
 rintro e' w1 ⟨z, n9, f, rfl, hgt, hb1⟩
 have HR1 := zh (HG0.out.below hb1 HG0.out.lt)
 have HB1 := zh (HB0.out.trans (hb1.mono HB0.out.size))
 have h0 := HG0.out.lt
 have hz1 : w.heap.size < w1.heap.size := HR1.out.lt
 have HGT := zh hgt
 clear hb1 hgt
 go_wp2_with (first | (refine wpList_store_row rfl _ _ _ rfl w.heap.size (gv z n9 f) rfl rfl _ _ HR1.out (Q0I z n9 f) rfl (by simp [gv, Value.oneCell']) ?_))
 exact bodyPost_ret (Q04 rfl _ _ w.heap.size _ _ (0, 0) _ rfl (HR1.out.setRow (gv z n9 f)) Tryz.underlying103 rfl (Q0I z n9 f)) rfl (HQ.out _ _ ⟨z, n9, f, rfl, HGT.out.keepN (w' := w1.setRow w.heap.size (gv z n9 f)) (Nat.le_of_lt h0) fun k hk hs => setRow_other _ _ k _ (by omega), HB1.out.trans (below_setRow (zL _) _)⟩)
theorem Qbh {rd : Rdr Nd} {N : Nat} (h : Gc 144 rd N) : Oc 4 rd N := by
 intro A c l i e w hT hF h0 h1 hN
 have hB : Below w.heap.size w (w.alloc (.cells #[.int .i64 0, .int .i64 0, .string ⟨#[]⟩, .slice none 0 0, .slice none 0 0, .int .i64 0, .bool false, .int .i64 0] 103)) := (zB _ _).alloc (zL _) _
 have HG0 := zh (RowAt.new w 103 #[.int .i64 0, .int .i64 0, .string ⟨#[]⟩, .slice none 0 0, .slice none 0 0, .int .i64 0, .bool false, .int .i64 0])
 have HB0 := zh hB
 have HC := zh (h A c l i e _ ((hT.below hB).mono hB.size) hF h0 h1 hN)
 refine Q0e fun Q' hQ => ?_
 have HQ := zh hQ; clear hQ hT hB h hF hN h0 h1
 generalize hn : l.length = n at *
 have HN := zh hn; clear hn
 go_enter Tryz.func123, Tryz.ntmps123
 go_upto_region 1 with fail
 change Code.wp _ _ _ _ (w.alloc (.cells #[.int .i64 0, .int .i64 0, .string ⟨#[]⟩, .slice none 0 0, .slice none 0 0, .int .i64 0, .bool false, .int .i64 0] 103))
 generalize w.alloc (.cells #[.int .i64 0, .int .i64 0, .string ⟨#[]⟩, .slice none 0 0, .slice none 0 0, .int .i64 0, .bool false, .int .i64 0] 103) = w0 at *
 go_wp2_with fail
 refine HC.out.mono ?_
 rintro e' w1 ⟨z, n9, f, rfl, hgt, hb1⟩
 have HR1 := zh (HG0.out.below hb1 HG0.out.lt)
 have HB1 := zh (HB0.out.trans (hb1.mono HB0.out.size))
 have h0 := HG0.out.lt
 have hz1 : w.heap.size < w1.heap.size := HR1.out.lt
 have HGT := zh hgt
 clear hb1 hgt
 go_wp2_with (first | (refine wpList_store_row rfl _ _ _ rfl w.heap.size (gv z n9 f) rfl rfl _ _ HR1.out (Q0I z n9 f) rfl (by simp [gv, Value.oneCell']) ?_))
 exact bodyPost_ret (Q04 rfl _ _ w.heap.size _ _ (0, 0) _ rfl (HR1.out.setRow (gv z n9 f)) Tryz.underlying103 rfl (Q0I z n9 f)) rfl (HQ.out _ _ ⟨z, n9, f, rfl, HGT.out.keepN (w' := w1.setRow w.heap.size (gv z n9 f)) (Nat.le_of_lt h0) fun k hk hs => setRow_other _ _ k _ (by omega), HB1.out.trans (below_setRow (zL _) _)⟩)
theorem Qbi {d : Nat} (h : Gc 76 (Q09 (d + 1)) d) : Oc 5 (Q0n (d + 1)) d := by
 intro A c l i e w hT hF h0 h1 hN
 have hB : Below w.heap.size w (w.alloc (.cells #[.int .i64 0, .int .i64 0, .string ⟨#[]⟩, .slice none 0 0, .slice none 0 0, .int .i64 0, .bool false, .int .i64 0] 103)) := (zB _ _).alloc (zL _) _
 have HG0 := zh (RowAt.new w 103 #[.int .i64 0, .int .i64 0, .string ⟨#[]⟩, .slice none 0 0, .slice none 0 0, .int .i64 0, .bool false, .int .i64 0])
 have HB0 := zh hB
 have HC := zh (h A c l i e _ ((hT.below hB).mono hB.size) hF h0 h1 hN)
 have HW := zh (Q1P A c l i e _ ((hT.below hB).mono hB.size))
 have HI43 := zh (Q1H A c l i 43 (by decide) _ ((hT.below hB).mono hB.size))
 have HI38 := zh (Q1H A c l i 38 (by decide) _ ((hT.below hB).mono hB.size))
 refine Q0e fun Q' hQ => ?_
 have HQ := zh hQ; clear hQ hT hB h hF hN h0 h1
 by_cases hk : kindOf (rest l i) none = 43 ∨ kindOf (rest l i) none = 38
 ·have HER : Hid (Q0n (d + 1) (rest l i) e = .error (Q00 (rest l i) e)) := zh (Q79 (by omega) (by omega))
  generalize Q00 (rest l i) e = p at *
  have hcase : decide (kindOf (rest l i) none = 43) = true ∨ (decide (kindOf (rest l i) none = 43) = false ∧ decide (kindOf (rest l i) none = 38) = true) := by
   rcases hk with hk | hk <;> rw [hk] <;> simp
  clear hk
  generalize hn : l.length = n at *
  have HN := zh hn; clear hn
  go_enter Tryz.func123, Tryz.ntmps123
  go_upto_region 1 with fail
  change Code.wp _ _ _ _ (w.alloc (.cells #[.int .i64 0, .int .i64 0, .string ⟨#[]⟩, .slice none 0 0, .slice none 0 0, .int .i64 0, .bool false, .int .i64 0] 103))
  generalize w.alloc (.cells #[.int .i64 0, .int .i64 0, .string ⟨#[]⟩, .slice none 0 0, .slice none 0 0, .int .i64 0, .bool false, .int .i64 0] 103) = w0 at *
  rcases hcase with hc | ⟨hc, hc2⟩
  all_goals (
   rw [hc] at HI43
   try rw [hc2] at HI38
   go_wp2_with fail
   refine HI43.out.mono ?_
   rintro e' w' ⟨rfl, hww⟩
   have hww := hww.symm
   subst hww
   go_wp2_with fail
   try (refine HI38.out.mono ?_; rintro e' w' ⟨rfl, hww⟩; have hww := hww.symm; subst hww; go_wp2_with fail)
   refine HW.out.mono ?_
   rintro e' w9 ⟨rfl, hb9⟩
   have HR9 := zh (HG0.out.below hb9 HG0.out.lt)
   have HB9 := zh (HB0.out.trans (hb9.mono HB0.out.size))
   clear hb9
   rw [Q7K]
   go_wp2_with (first | (refine wpList_store_row rfl _ _ _ rfl w.heap.size (gv n0 0 (some p)) rfl rfl _ _ HR9.out (Q0I _ _ _) rfl (by simp [gv, Value.oneCell']) ?_))
   exact bodyPost_ret (Q04 rfl _ _ w.heap.size _ _ (0, 0) _ rfl (HR9.out.setRow (gv n0 0 (some p))) Tryz.underlying103 rfl (Q0I _ _ _)) rfl (HQ.out _ _ ⟨n0, 0, some p, rfl, .inl ⟨p, rfl, HER.out⟩, HB9.out.trans (below_setRow (zL _) _)⟩))
 ·have HLA := zh (Q78 (d := d) (ts := rest l i) (e := e) (by omega) (by omega))
  have hc : decide (kindOf (rest l i) none = 43) = false := zF (by omega)
  have hc2 : decide (kindOf (rest l i) none = 38) = false := zF (by omega)
  rw [hc] at HI43
  rw [hc2] at HI38
  clear hk hc hc2
  generalize hn : l.length = n at *
  have HN := zh hn; clear hn
  go_enter Tryz.func123, Tryz.ntmps123
  go_upto_region 1 with fail
  change Code.wp _ _ _ _ (w.alloc (.cells #[.int .i64 0, .int .i64 0, .string ⟨#[]⟩, .slice none 0 0, .slice none 0 0, .int .i64 0, .bool false, .int .i64 0] 103))
  generalize w.alloc (.cells #[.int .i64 0, .int .i64 0, .string ⟨#[]⟩, .slice none 0 0, .slice none 0 0, .int .i64 0, .bool false, .int .i64 0] 103) = w0 at *
  go_wp2_with fail
  refine HI43.out.mono ?_
  rintro e' w' ⟨rfl, hww⟩
  have hww := hww.symm
  subst hww
  go_wp2_with fail
  refine HI38.out.mono ?_
  rintro e' w' ⟨rfl, hww⟩
  have hww := hww.symm
  subst hww
  go_wp2_with fail
  refine HC.out.mono ?_
  rintro e' w1 ⟨z, n9, f, rfl, hgt, hb1⟩
  have HR1 := zh (HG0.out.below hb1 HG0.out.lt)
  have HB1 := zh (HB0.out.trans (hb1.mono HB0.out.size))
  have h0 := HG0.out.lt
  have hz1 : w.heap.size < w1.heap.size := HR1.out.lt
  have HGT := zh hgt
  clear hb1 hgt
  go_wp2_with (first | (refine wpList_store_row rfl _ _ _ rfl w.heap.size (gv z n9 f) rfl rfl _ _ HR1.out (Q0I z n9 f) rfl (by simp [gv, Value.oneCell']) ?_))
  exact bodyPost_ret (Q04 rfl _ _ w.heap.size _ _ (0, 0) _ rfl (HR1.out.setRow (gv z n9 f)) Tryz.underlying103 rfl (Q0I z n9 f)) rfl (HQ.out _ _ ⟨z, n9, f, rfl, (HGT.out.keepN (w' := w1.setRow w.heap.size (gv z n9 f)) (Nat.le_of_lt h0) fun k hk hs => setRow_other _ _ k _ (by omega)).same HLA.out, HB1.out.trans (below_setRow (zL _) _)⟩)
end
section
open Go.RowKit
theorem Q5m {g : Nat} {t : TypeId} : ∀ (ys : List Value) (o : Nat) (cs : Array Value) (w : World), RowAt w g t cs → ∃ ds : Array Value, RowAt (w.setCells g o ys) g t ds ∧ ds.size = cs.size ∧ (∀ j, (j < o ∨ o + ys.length ≤ j) → ds[j]? = cs[j]?) ∧ (∀ j, j < ys.length → o + j < cs.size → ds[o + j]? = ys[j]?)
 | [], o, cs, w, h => ⟨cs, h, rfl, fun _ _ => rfl, fun j hj => by simp at hj⟩
 | y :: ys, o, cs, w, h => by
   obtain ⟨ds, h1, h2, h3, h4⟩ := Q5m ys (o + 1) _ _ (h.put o y)
   refine ⟨ds, h1, by rw [h2, Array.size_setIfInBounds], fun j hj => ?_, fun j hj hjs => ?_⟩
   ·rw [h3 j (by simp only [zA8] at hj; omega), Array.getElem?_setIfInBounds_ne (by simp only [zA8] at hj; omega)]
   ·cases j with
    | zero =>
      rw [Nat.add_zero, h3 o (by omega), Array.getElem?_setIfInBounds_self_of_lt (by omega)]
      simp
    | succ j =>
      rw [show o + (j + 1) = o + 1 + j by omega, h4 j (by simpa using hj) (by rw [Array.size_setIfInBounds]; omega)]
      simp
theorem setCells_size (w : World) (g o : Nat) (ys : List Value) : (w.setCells g o ys).heap.size = w.heap.size := by
 induction ys generalizing w o with
 | nil => rfl
 | cons y ys ih => rw [World.setCells, ih]; simp [World.setCell]
theorem Q0j (w : World) (g o : Nat) (ys : List Value) (k : Nat) (hk : k ≠ g) : (w.setCells g o ys).heap[k]? = w.heap[k]? := by
 induction ys generalizing w o with
 | nil => rfl
 | cons y ys ih =>
   rw [World.setCells, ih]
   simp only [World.setCell, Array.getElem?_modify, if_neg (fun e => hk (Eq.symm e))]
theorem Q5n (w : World) (g o : Nat) (ys : List Value) : (w.setCells g o ys).os = w.os ∧ (w.setCells g o ys).tape = w.tape ∧ (w.setCells g o ys).output = w.output := by
 induction ys generalizing w o with
 | nil => exact ⟨rfl, rfl, rfl⟩
 | cons y ys ih => rw [World.setCells]; exact ih _ _
theorem Q1i {B g : Nat} {w : World} (hB : B ≤ g) (o : Nat) (ys : List Value) : Below B w (w.setCells g o ys) :=
 ⟨(Q5n w g o ys).1, (Q5n w g o ys).2.1, (Q5n w g o ys).2.2, by rw [setCells_size]; exact zL _, fun k hk => Q0j w g o ys k (by omega)⟩
theorem Q7b {w : World} {base size n c g : Nat} {e : TypeId} {cs zs ys : List Value} (h : w.ownsRow base e size (.slice (some ⟨g, 0, none⟩) (n + 1) c) (n + 1) (cs ++ zs)) (hc : cs.length = n * size) (hy : ys.length = size) :
 (w.setCells g (n * size) ys).ownsRow base e size (.slice (some ⟨g, 0, none⟩) (n + 1) c) (n + 1) (cs ++ ys) ∧ w.there g (n * size) size := by
 have hm : (n + 1) * size = n * size + size := by rw [Nat.add_mul, Nat.one_mul]
 rcases h.2 with ⟨hv, _⟩ | ⟨g', cap, cur, hv, hg, hh, h1, h2, h3, h4⟩
 ·cases hv
 ·injection hv with e1 _ e3
  injection e1 with e1
  injection e1 with e1 _ _
  subst e1 e3
  have hcs : (n + 1) * size ≤ cur.size := by rw [h3]; exact Nat.mul_le_mul_right _ h1
  obtain ⟨ds, d1, d2, d3, d4⟩ := Q5m ys (n * size) cur w hh
  refine ⟨⟨by rw [zA7]; omega, .inr ⟨g, c, ds, rfl, hg, d1, h1, h2, by omega, ?_⟩⟩, fun j hj => ⟨?_, RowAt.free hh _⟩⟩
  ·refine List.ext_getElem? fun j => ?_
   by_cases hj : j < (n + 1) * size
   ·rw [List.getElem?_take_of_lt hj]
    show ds.toList[j]? = _
    rw [Array.getElem?_toList]
    by_cases hj2 : j < n * size
    ·rw [d3 j (.inl hj2), List.getElem?_append_left (by omega)]
     have e := congrArg (fun l : List Value => l[j]?) h4
     rw [List.getElem?_take_of_lt hj, List.getElem?_append_left (by omega)] at e
     simpa using e
    ·have e := d4 (j - n * size) (by omega) (by omega)
     rw [show n * size + (j - n * size) = j by omega] at e
     rw [e, List.getElem?_append_right (by omega), hc]
   ·rw [List.getElem?_eq_none (by rw [List.length_take]; omega), List.getElem?_eq_none (by rw [zA7]; omega)]
  ·rw [RowAt.cell hh, Array.getElem?_eq_getElem (by omega)]; rfl
end
section
open Go.RowKit LX TR TM DT
namespace DT
def putL (cs : Array Value) (o : Nat) : List Value → Array Value
 | [] => cs
 | y :: ys => putL (cs.setIfInBounds o y) (o + 1) ys
theorem Q7c {B g : Nat} (w6 : World) (h : B < w6.heap.size ∧ g < w6.heap.size) (z : Nd) : SlC (w6.drew.alloc (.cells [.int .i64 z.k, .int .i64 z.p, .string z.s, .slice z.A z.ws.length z.c, .slice z.B z.ks.length z.d].toArray 29)) (fun k => B < k ∧ k ≠ g) (some ⟨w6.heap.size, 0, none⟩) (ncs [z]) := fun _ => ⟨w6.heap.size, 0, rfl, (RowAt.new w6.drew 29 (Q0g z).toArray).lt, ⟨h.1, by omega⟩, fun j u hu => by
 have h2 := (RowAt.new w6.drew 29 (Q0g z).toArray).cell j
 rw [Q3e] at hu
 rw [Nat.zero_add]
 exact h2.trans (by simpa using hu)⟩
theorem Qbj {d : Nat} {x : Tr} {r : List Tr} {e : Int} (hk : x.t.k = 35) : Q09 (d + 1) (x :: r) e = bnd (Q0a (d + 1) r e) fun n r2 => .ok (nd 7 x.t.p e0 [] [n], r2) := by
 simp only [Q09]
 rw [if_neg (by omega), if_neg (by omega)]
 simp only [Q0n]
 rw [if_pos hk]
theorem Q4e {d : Nat} {x : Tr} {r : List Tr} {e : Int} (hk : x.t.k = 97) : Q09 (d + 1) (x :: r) e = .ok (nd 1 x.t.p x.t.s [] [], r) := by
 simp only [Q09]
 rw [if_neg (by omega), if_neg (by omega)]
 simp only [Q0n]
 rw [if_neg (by omega)]
 unfold varR
 rw [Q1p hk]; rfl
theorem Qbk {d : Nat} {ts : List Tr} {e : Int} (h1 : kindOf ts none ≠ 97) (h2 : kindOf ts none ≠ 35) (h3 : kindOf ts none ≠ 43) (h4 : kindOf ts none ≠ 38) : Q09 (d + 1) ts e = .error (Q00 ts e) := by
 rw [Q78 h3 h4, Q79 h2 h1]
theorem Qbl {d : Nat} {x : Tr} {r : List Tr} {e : Int} (h1 : x.t.k = 43 ∨ x.t.k = 38) (h2 : kindOf r none ≠ 40) : Q09 (d + 1) (x :: r) e = .error (Q00 r e) := by
 have hw : Q0f 40 (Q0c (Q09 d)) r e = .error (Q00 r e) := by
  cases r with
  | nil => rfl
  | cons y s =>
    have h2' : ¬ y.t.k = 40 := h2
    simp only [Q0f]
    rw [if_neg h2']; rfl
 simp only [Q09]
 rcases h1 with h1 | h1
 ·rw [if_pos h1, hw]; rfl
 ·rw [if_neg (by omega), if_pos h1, hw]; rfl
theorem Qbm {d : Nat} {x y : Tr} {r : List Tr} {e : Int} (h1 : x.t.k = 43 ∨ x.t.k = 38) (h2 : y.t.k = 40) : Q09 (d + 1) (x :: y :: r) e = match Q0B false (Q09 d) y.ks y.e with
 | .error p => .error p
 | .ok xs => .ok (nd (if x.t.k = 38 then 9 else 8) x.t.p e0 [] xs, r) := by
 simp only [Q09]
 rcases h1 with h1 | h1
 ·rw [if_pos h1, Q5l h2, if_neg (by omega)]
  cases Q0B false (Q09 d) y.ks y.e <;> rfl
 ·rw [if_neg (by omega), if_pos h1, Q5l h2, if_pos h1]
  cases Q0B false (Q09 d) y.ks y.e <;> rfl
end DT
theorem RowAt.putsD {w : World} {g : Nat} {t : TypeId} {cs : Array Value} (h : RowAt w g t cs) (ys : List Value) (o : Nat) : RowAt (w.setCells g o ys) g t (DT.putL cs o ys) := by
 induction ys generalizing w cs o with
 | nil => exact h
 | cons y ys ih => exact ih (h.put o y) (o + 1)
theorem RowAt.thereD {w : World} {g : Nat} {t : TypeId} {cs : Array Value} (h : RowAt w g t cs) {o n : Nat} (hn : o + n ≤ cs.size) : w.there g o n := fun j hj => ⟨by rw [h.cell, Array.getElem?_eq_getElem (by omega)]; rfl, h.free _⟩
theorem Q7d (d9 : Nat) (hOne : ∀ d8, d9 = d8 + 1 → Oc 3 (Q09 d9) d8) (hConst : Gc 121 (Q0a (d9 + 1)) d9) : Gc 76 (Q09 (d9 + 1)) d9 := by
 intro A c l i e w hT hF h0 h1 hN
 have hl := hF.1
 have HT := zh hT
 have HIS : Hid (∀ W, Below w.heap.size w W → ∀ (j : Int) (k : Nat), 0 < k → Calls Tryz.prog 117 #[.slice A l.length c, .int .i64 j, .int .u8 (k : Int)] W fun e w' => e = .returned (.bool (decide (kindOf (rest l j) none = k))) ∧ w' = W) := zh fun W hW j k hk => Q1H A c l j k hk W ((HT.out.below hW).mono hW.size)
 have HWS : Hid (∀ W, Below w.heap.size w W → ∀ (j : Int), Calls Tryz.prog 118 #[.slice A l.length c, .int .i64 j, .int .i64 e] W fun e' w' => e' = .returned (gbad (Q00 (rest l j) e)) ∧ Below W.heap.size W w') := zh fun W hW j => Q1P A c l j e W ((HT.out.below hW).mono hW.size)
 have HG0 := zh (RowAt.new w 103 #[.int .i64 0, .int .i64 0, .string ⟨#[]⟩, .slice none 0 0, .slice none 0 0, .int .i64 0, .bool false, .int .i64 0])
 have HB0 : Hid (Below w.heap.size w (w.alloc (.cells #[.int .i64 0, .int .i64 0, .string ⟨#[]⟩, .slice none 0 0, .slice none 0 0, .int .i64 0, .bool false, .int .i64 0] 103))) := zh ((zB _ _).alloc (zL _) _)
 refine Q0e fun Q' hQ => ?_
 have HQ := zh hQ; clear hQ hT
 by_cases hk97 : kindOf (rest l i) none = 97
 ·obtain ⟨hi0, hr0, hx0⟩ := Q0Z h0 hk97 (by omega)
  obtain ⟨j, rfl⟩ := Int.eq_ofNat_of_zero_le h0
  have hj : j < l.length := by omega
  rw [show ((j : Int)).toNat = j by omega] at hr0 hx0
  have HST : Hid (Step (Q09 (d9 + 1)) l (j : Int) e none (er1 (nd 1 (l.getD j r0).t.p (l.getD j r0).t.s [] [])) ((j : Int) + 1) none) := zh (Step.ok ⟨1, rfl, by rw [hr0]; simp⟩ (by rw [hr0, Q4e hx0]; simp [er1, nd, Nd.k, Nd.p, Nd.s, Nd.ws, Nd.ks, TM.er]))
  obtain ⟨bb, o, rfl, hbb, hc⟩ := HT.out.at (k := j) (by omega)
  obtain ⟨_, b1, b2, _, _⟩ := hc j hj
  have a1 := (HB0.out.cell (p := ⟨bb, o + j * 5 + 1, none⟩) hbb).trans b1
  have a2 := (HB0.out.cell (p := ⟨bb, o + j * 5 + 2, none⟩) hbb).trans b2
  clear hc b1 b2 hr0 hx0 hF
  generalize (l.getD j r0).t.s = xs at *
  generalize (l.getD j r0).t.p = xp at *
  generalize hn : l.length = n at *
  have HN := zh hn; clear hn
  go_enter Tryz.func76, Tryz.ntmps76
  go_upto_region 1 with fail
  change Code.wp _ _ _ _ (w.alloc (.cells #[.int .i64 0, .int .i64 0, .string ⟨#[]⟩, .slice none 0 0, .slice none 0 0, .int .i64 0, .bool false, .int .i64 0] 103))
  generalize w.alloc (.cells #[.int .i64 0, .int .i64 0, .string ⟨#[]⟩, .slice none 0 0, .slice none 0 0, .int .i64 0, .bool false, .int .i64 0] 103) = w0 at *
  have HI97 := zh (HIS.out w0 HB0.out ((j : Int)) 97 (by decide))
  rw [zE hk97] at HI97
  go_wp2_with fail
  refine HI97.out.mono ?_
  rintro e' w' ⟨rfl, hww⟩
  have hww := hww.symm
  subst hww
  clear HI97
  have hjn : (j : Int) < (n : Int) := by omega
  have hnb : bb ≠ w.heap.size := by omega
  obtain ⟨⟨k0, k1, k2, k3, k4, k5, k6, k7⟩, fk⟩ := row8 HG0.out
  go_upto_region 2 with fail
  go_region
  go_wp2_with fail
  change bodyPost _ _ _ _ _ ((set8 w0 w.heap.size (.int .i64 1) (.int .i64 xp) (.string xs) (.slice none 0 0) (.slice none 0 0) (.int .i64 ((j : Int) + 1)) (.bool false) (.int .i64 0)).drew)
  have e9 : RowAt (set8 w0 w.heap.size (.int .i64 1) (.int .i64 xp) (.string xs) (.slice none 0 0) (.slice none 0 0) (.int .i64 ((j : Int) + 1)) (.bool false) (.int .i64 0)) w.heap.size 103 #[.int .i64 1, .int .i64 xp, .string xs, .slice none 0 0, .slice none 0 0, .int .i64 ((j : Int) + 1), .bool false, .int .i64 0] := Q0t HG0.out
  have e8 : Below w.heap.size w (set8 w0 w.heap.size (.int .i64 1) (.int .i64 xp) (.string xs) (.slice none 0 0) (.slice none 0 0) (.int .i64 ((j : Int) + 1)) (.bool false) (.int .i64 0)) := HB0.out.trans (Q0u (zL _))
  exact bodyPost_ret (Q04 rfl _ _ w.heap.size _ _ (0, 0) _ rfl e9.drew Tryz.underlying103 rfl (Q0k _ _ _ _ _ _ _ _)) rfl (HQ.out _ _ ⟨nd 1 xp xs [] [], (j : Int) + 1, none, rfl, .inr ⟨rfl, HST.out, Q4d (zL _) (SlC.nil _ _ _)⟩, e8.drew⟩)
 ·by_cases hk35 : kindOf (rest l i) none = 35
  ·obtain ⟨hi0, hr0, hx0⟩ := Q0Z h0 hk35 (by omega)
   obtain ⟨j, rfl⟩ := Int.eq_ofNat_of_zero_le h0
   have hj : j < l.length := by omega
   rw [show ((j : Int)).toNat = j by omega] at hr0 hx0
   have hnd : (nodes (rest l ((j : Int) + 1))).length ≤ d9 := by
        have h := congrArg (fun q => (nodes q).length) (congrArg (List.drop 1) hr0)
        simp only [List.drop_succ_cons, List.drop_zero] at h
        have h2 := Q2k (rest l (j : Int)) 1
        omega
   have HRL : Hid (Q09 (d9 + 1) (rest l (j : Int)) e = bnd (Q0a (d9 + 1) (rest l ((j : Int) + 1)) e) fun n r2 => .ok (nd 7 (l.getD j r0).t.p e0 [] [n], r2)) := zh (by rw [hr0]; exact Qbj hx0)
   have HADV : Hid (Adv l (j : Int) ((j : Int) + 1)) := zh ⟨1, by omega, by rw [hr0]; simp⟩
   have HCW := zh (hConst A c l ((j : Int) + 1) e _ ((HT.out.below HB0.out).mono HB0.out.size) hF (by omega) (by omega) hnd)
   obtain ⟨bb, o, rfl, hbb, hc⟩ := HT.out.at (k := j) (by omega)
   obtain ⟨_, _, b2, _, _⟩ := hc j hj
   have B2 : ∀ W, Below w.heap.size w W → W.cell? ⟨bb, o + j * 5 + 2, none⟩ = _ := fun W hW => (hW.cell (p := ⟨bb, o + j * 5 + 2, none⟩) hbb).trans b2
   clear hc b2 hr0 hx0 hF hnd
   generalize (l.getD j r0).t.p = xp at *
   generalize hn : l.length = n at *
   have HN := zh hn; clear hn
   go_enter Tryz.func76, Tryz.ntmps76
   go_upto_region 1 with fail
   change Code.wp _ _ _ _ (w.alloc (.cells #[.int .i64 0, .int .i64 0, .string ⟨#[]⟩, .slice none 0 0, .slice none 0 0, .int .i64 0, .bool false, .int .i64 0] 103))
   generalize w.alloc (.cells #[.int .i64 0, .int .i64 0, .string ⟨#[]⟩, .slice none 0 0, .slice none 0 0, .int .i64 0, .bool false, .int .i64 0] 103) = w0 at *
   have HI97 := zh (HIS.out w0 HB0.out ((j : Int)) 97 (by decide))
   rw [zF hk97] at HI97
   go_wp2_with fail
   refine HI97.out.mono ?_
   rintro e' w' ⟨rfl, hww⟩
   have hww := hww.symm
   subst hww
   clear HI97
   have HI35 := zh (HIS.out w0 HB0.out ((j : Int)) 35 (by decide))
   rw [zE hk35] at HI35
   go_wp2_with fail
   refine HI35.out.mono ?_
   rintro e' w' ⟨rfl, hww⟩
   have hww := hww.symm
   subst hww
   clear HI35
   have hjn : (j : Int) < (n : Int) := by omega
   go_wp2_with fail
   refine HCW.out.mono ?_
   rintro e' w5 ⟨z, nx, f, rfl, ⟨p, rfl, her⟩ | ⟨rfl, hst, hdz⟩, hb5⟩
   ·have HST : Hid (Q09 (d9 + 1) (rest l (j : Int)) e = .error p) := zh (by rw [HRL.out, her]; rfl)
    have HG5 := zh (HG0.out.below hb5 HG0.out.lt)
    have HB5 := zh (HB0.out.trans (hb5.mono HB0.out.size))
    have hb6 : Below w5.heap.size w5 (w5.alloc (.cells #[.int .i64 z.k, .int .i64 z.p, .string z.s, .slice z.A z.ws.length z.c, .slice z.B z.ks.length z.d, .int .i64 nx, .bool true, .int .i64 p] 103)) := (zB _ _).alloc (zL _) _
    have HG6 := zh (HG5.out.below hb6 HG5.out.lt)
    have HB6 := zh (HB5.out.trans (hb6.mono HB5.out.size))
    have HGG := zh (RowAt.new w5 103 #[.int .i64 z.k, .int .i64 z.p, .string z.s, .slice z.A z.ws.length z.c, .slice z.B z.ks.length z.d, .int .i64 nx, .bool true, .int .i64 p])
    have hz0 := HG0.out.lt
    have hz5 : w.heap.size < w5.heap.size := HG5.out.lt
    clear hb5 hb6 HG0 HB0 HG5 HB5
    unfold gv
    simp only [Option.isSome_some, Option.getD_some]
    go_upto_region 5 with fail
    generalize w5.alloc (.cells #[.int .i64 z.k, .int .i64 z.p, .string z.s, .slice z.A z.ws.length z.c, .slice z.B z.ks.length z.d, .int .i64 nx, .bool true, .int .i64 p] 103) = w6 at *
    have h6 : w.heap.size < w6.heap.size := HG6.out.lt
    obtain ⟨⟨g0, g1, g2, g3, g4, g5, g6, g7⟩, ff⟩ := row8 HGG.out
    obtain ⟨⟨k0, k1, k2, k3, k4, k5, k6, k7⟩, fk⟩ := row8 HG6.out
    go_wp2_with fail
    change bodyPost _ _ _ _ _ (set8 w6 w.heap.size (.int .i64 z.k) (.int .i64 z.p) (.string z.s) (.slice z.A z.ws.length z.c) (.slice z.B z.ks.length z.d) (.int .i64 nx) (.bool true) (.int .i64 p))
    exact bodyPost_ret (Q04 rfl _ _ w.heap.size _ _ (0, 0) _ rfl (Q0t HG6.out) Tryz.underlying103 rfl (Q0k _ _ _ _ _ _ _ _)) rfl (HQ.out _ _ ⟨z, nx, some p, rfl, .inl ⟨p, rfl, HST.out⟩, HB6.out.trans (Q0u (zL _))⟩)
   ·have HST : Hid (∀ X : Option Addr, Step (Q09 (d9 + 1)) l (j : Int) e none (er1 (Nd.mk 7 xp e0 none 0 [] X 1 [z])) nx none) := zh fun X => Step.ok (HADV.out.trans hst.1) (by
     have h9 := hst.2.2 rfl
     rw [HRL.out]
     cases hq : Q0a (d9 + 1) (rest l ((j : Int) + 1)) e with
     | error p => rw [hq] at h9; cases h9
     | ok yr =>
       obtain ⟨y, r⟩ := yr
       rw [hq] at h9
       obtain ⟨_, rfl, rfl⟩ := h9
       simp [er1, nd, Nd.k, Nd.p, Nd.s, Nd.ws, Nd.ks, TM.er, bnd, TM.Q1D])
    have HG5 := zh (HG0.out.below hb5 HG0.out.lt)
    have HB5 := zh (HB0.out.trans (hb5.mono HB0.out.size))
    have hb6 : Below w5.heap.size w5 (w5.alloc (.cells #[.int .i64 z.k, .int .i64 z.p, .string z.s, .slice z.A z.ws.length z.c, .slice z.B z.ks.length z.d, .int .i64 nx, .bool false, .int .i64 0] 103)) := (zB _ _).alloc (zL _) _
    have HG6 := zh (HG5.out.below hb6 HG5.out.lt)
    have HB6 := zh (HB5.out.trans (hb6.mono HB5.out.size))
    have HGG := zh (RowAt.new w5 103 #[.int .i64 z.k, .int .i64 z.p, .string z.s, .slice z.A z.ws.length z.c, .slice z.B z.ks.length z.d, .int .i64 nx, .bool false, .int .i64 0])
    have hz0 := HG0.out.lt
    have hz5 : w.heap.size < w5.heap.size := HG5.out.lt
    have HDZ : Hid (DeepN (w5.alloc (.cells #[.int .i64 z.k, .int .i64 z.p, .string z.s, .slice z.A z.ws.length z.c, .slice z.B z.ks.length z.d, .int .i64 nx, .bool false, .int .i64 0] 103)) (fun k => w.heap.size < k ∧ k ≠ w5.heap.size) [z]) := zh ((hdz.weak (ok' := fun k => w.heap.size < k ∧ k ≠ w5.heap.size) fun k hk h => ⟨by omega, by omega⟩).keep9 fun k hk _ => hb6.block k hk)
    clear hdz hst
    clear hb5 hb6 HG0 HB0 HG5 HB5
    unfold gv
    simp only [Option.isSome_none, Option.getD_none]
    go_upto_region 5 with fail
    generalize w5.alloc (.cells #[.int .i64 z.k, .int .i64 z.p, .string z.s, .slice z.A z.ws.length z.c, .slice z.B z.ks.length z.d, .int .i64 nx, .bool false, .int .i64 0] 103) = w6 at *
    have h6 : w.heap.size < w6.heap.size := HG6.out.lt
    obtain ⟨⟨g0, g1, g2, g3, g4, g5, g6, g7⟩, ff⟩ := row8 HGG.out
    go_upto_region 6 with fail
    clear g0 g1 g2 g3 g4 g5 g6 g7 ff
    have h65 : w5.heap.size < w6.heap.size := HGG.out.lt
    refine Q0y (fun W => Below w.heap.size w W) ((.take 0 (.take 1 (.take 2 (.take 3 (.take 4 (.take 5 (.take 6 (.solo 7 (.solo 8 (.take 9 (.take 10 (.solo 11 .nil))))))))))))) (by kernel_rfl) (by kernel_rfl) rfl (by kernel_rfl) (HB6.out.drew) ?_
    iterate 7
     (refine Q07 (zO rfl) ?_)
     (first
           | (refine Q08 (by rfl) ?_)
           | (refine Q03 (v := ?_) (by rfl) ?_ ?_; rotate_left 1; (intro wx hSx; have hc_0 := B2 wx hSx; go_simp; try with_reducible rfl)))
     (try simp only [Act.put, zA4, zA5, zA6])
    (refine Q02 (zO rfl) ?_)
    intro K hK
    refine wp_load_mid _ _ rfl w5.heap.size 0 rfl [.int .i64 z.k, .int .i64 z.p, .string z.s, .slice z.A z.ws.length z.c, .slice z.B z.ks.length z.d] _ (RowAt.range HGG.out.drew 0 [.int .i64 z.k, .int .i64 z.p, .string z.s, .slice z.A z.ws.length z.c, .slice z.B z.ks.length z.d] (by intro j u hu; match j, hu with | 0, hu => exact hu | 1, hu => exact hu | 2, hu => exact hu | 3, hu => exact hu | 4, hu => exact hu)) Tryz.underlying29 rfl (by kernel_rfl) ?_
    refine hK.out _ _ HB6.out.drew ?_
    clear hK K
    (try simp only [Act.put, zA4, zA5, zA6])
    (refine Q02 (zO rfl) ?_)
    intro K hK
    go_simp
    have hbs : Below w6.heap.size w6 (w6.drew.alloc (.cells [.int .i64 z.k, .int .i64 z.p, .string z.s, .slice z.A z.ws.length z.c, .slice z.B z.ks.length z.d].toArray 29)) := ((zB _ w6).drew).alloc (zL _) _
    have HB7 := zh (HB6.out.trans (hbs.mono (Nat.le_of_lt h6)))
    have HG7 := zh (HG6.out.below hbs h6)
    have HV7 := zh (HGG.out.below hbs h65)
    have HN7 : Hid (SlC (w6.drew.alloc (.cells [.int .i64 z.k, .int .i64 z.p, .string z.s, .slice z.A z.ws.length z.c, .slice z.B z.ks.length z.d].toArray 29)) (fun k => w.heap.size < k ∧ k ≠ w5.heap.size) (some ⟨w6.heap.size, 0, none⟩) (ncs [z])) := zh (Q7c w6 (by omega) z)
    have HD7 : Hid (DeepN (w6.drew.alloc (.cells [.int .i64 z.k, .int .i64 z.p, .string z.s, .slice z.A z.ws.length z.c, .slice z.B z.ks.length z.d].toArray 29)) (fun k => w.heap.size < k ∧ k ≠ w5.heap.size) [z]) := zh (HDZ.out.keep9 fun k hk _ => hbs.block k hk)
    clear hbs
    refine hK.out _ _ HB7.out ?_
    clear hK K
    (try simp only [Act.put, zA4, zA5, zA6])
    change wpOT _ _ _ _ _ _ (w6.drew.alloc (.cells [.int .i64 z.k, .int .i64 z.p, .string z.s, .slice z.A z.ws.length z.c, .slice z.B z.ks.length z.d].toArray 29))
    generalize hgs : w6.heap.size = gs at *
    generalize (w6.drew.alloc (.cells [.int .i64 z.k, .int .i64 z.p, .string z.s, .slice z.A z.ws.length z.c, .slice z.B z.ks.length z.d].toArray 29)) = w7 at *
    iterate 2
     (refine Q07 (zO rfl) ?_)
     (first
           | (refine Q08 (by rfl) ?_)
           | (refine Q03 (v := ?_) (by rfl) ?_ ?_; rotate_left 1; (intro wx hSx; have hc_0 := B2 wx hSx; go_simp; try with_reducible rfl)))
     (try simp only [Act.put, zA4, zA5, zA6])
    (refine Q02 (zO rfl) ?_)
    intro K hK
    rw [if_pos (by rfl)]
    refine wp_store_mid _ _ _ rfl w5.heap.size 0 #[.int .i64 7, .int .i64 xp, .string ⟨#[]⟩, .slice none 0 0, .slice (some ⟨gs, 0, none⟩) 1 1] rfl rfl (RowAt.thereD HV7.out (by show 0 + 5 ≤ 8; omega)) (Q0h _ _ _ _ _) (by simp [Value.oneCell']) ?_
    have HB8 : Hid (Below w.heap.size w (w7.setCells w5.heap.size 0 #[.int .i64 7, .int .i64 xp, .string ⟨#[]⟩, .slice none 0 0, .slice (some ⟨gs, 0, none⟩) 1 1].toList)) := zh (HB7.out.trans (Q1i (Nat.le_of_lt hz5) 0 _))
    have hv8 := RowAt.putsD HV7.out #[.int .i64 7, .int .i64 xp, .string ⟨#[]⟩, .slice none 0 0, .slice (some ⟨gs, 0, none⟩) 1 1].toList 0
    have HV8 : Hid (RowAt (w7.setCells w5.heap.size 0 #[.int .i64 7, .int .i64 xp, .string ⟨#[]⟩, .slice none 0 0, .slice (some ⟨gs, 0, none⟩) 1 1].toList) w5.heap.size 103 #[.int .i64 7, .int .i64 xp, .string ⟨#[]⟩, .slice none 0 0, .slice (some ⟨gs, 0, none⟩) 1 1, .int .i64 nx, .bool false, .int .i64 0]) := zh hv8
    have HG8 : Hid (RowAt (w7.setCells w5.heap.size 0 #[.int .i64 7, .int .i64 xp, .string ⟨#[]⟩, .slice none 0 0, .slice (some ⟨gs, 0, none⟩) 1 1].toList) w.heap.size 103 #[.int .i64 0, .int .i64 0, .string ⟨#[]⟩, .slice none 0 0, .slice none 0 0, .int .i64 0, .bool false, .int .i64 0]) := zh ((Q0j _ _ _ _ _ (by omega)).trans HG7.out)
    have HN8 := zh (HN7.out.keep9 (wb := w7.setCells w5.heap.size 0 #[.int .i64 7, .int .i64 xp, .string ⟨#[]⟩, .slice none 0 0, .slice (some ⟨gs, 0, none⟩) 1 1].toList) fun k _ h => Q0j _ _ _ _ k h.2)
    have HD8 := zh (HD7.out.keep9 (wb := w7.setCells w5.heap.size 0 #[.int .i64 7, .int .i64 xp, .string ⟨#[]⟩, .slice none 0 0, .slice (some ⟨gs, 0, none⟩) 1 1].toList) fun k _ h => Q0j _ _ _ _ k h.2)
    refine hK.out _ _ HB8.out ?_
    clear hK K
    (try simp only [Act.put, zA4, zA5, zA6])
    generalize w7.setCells w5.heap.size 0 #[.int .i64 7, .int .i64 xp, .string ⟨#[]⟩, .slice none 0 0, .slice (some ⟨gs, 0, none⟩) 1 1].toList = w8 at *
    refine Q0s ?_
    obtain ⟨⟨k0, k1, k2, k3, k4, k5, k6, k7⟩, fk⟩ := row8 HG8.out
    obtain ⟨⟨v0, v1, v2, v3, v4, v5, v6, v7⟩, fv⟩ := row8 HV8.out
    go_wp2_with fail
    change bodyPost _ _ _ _ _ (set8 w8 w.heap.size (.int .i64 7) (.int .i64 xp) (.string ⟨#[]⟩) (.slice none 0 0) (.slice (some ⟨gs, 0, none⟩) 1 1) (.int .i64 nx) (.bool false) (.int .i64 0))
    have hn9 := HN8.out.keep9 (wb := set8 w8 w.heap.size (.int .i64 7) (.int .i64 xp) (.string ⟨#[]⟩) (.slice none 0 0) (.slice (some ⟨gs, 0, none⟩) 1 1) (.int .i64 nx) (.bool false) (.int .i64 0)) fun k _ hk => Q1k (by omega)
    have hd9 := HD8.out.keep9 (wb := set8 w8 w.heap.size (.int .i64 7) (.int .i64 xp) (.string ⟨#[]⟩) (.slice none 0 0) (.slice (some ⟨gs, 0, none⟩) 1 1) (.int .i64 nx) (.bool false) (.int .i64 0)) fun k _ hk => Q1k (by omega)
    exact bodyPost_ret (Q04 rfl _ _ w.heap.size _ _ (0, 0) _ rfl (Q0t HG8.out) Tryz.underlying103 rfl (Q0k _ _ _ _ _ _ _ _)) rfl (HQ.out _ _ ⟨Nd.mk 7 xp e0 none 0 [] (some ⟨gs, 0, none⟩) 1 [z], nx, none, rfl, .inr ⟨rfl, HST.out (some ⟨gs, 0, none⟩), DeepN.one ⟨⟨SlC.nil _ _ _, zL _⟩, hn9.weak fun k _ h => by omega, zL _⟩ (hd9.weak fun k _ h => by omega)⟩, HB8.out.trans (Q0u (zL _))⟩)
  ·by_cases hk4 : kindOf (rest l i) none = 43 ∨ kindOf (rest l i) none = 38
   ·obtain ⟨hi0, hr0, hx0⟩ := Q0Z (k := kindOf (rest l i) none) h0 rfl (by omega)
    have hxk : (l.getD i.toNat r0).t.k = 43 ∨ (l.getD i.toNat r0).t.k = 38 := by rw [hx0]; exact hk4
    have hcase : ∃ kk : Int, (if (l.getD i.toNat r0).t.k = 38 then (9 : Int) else 8) = kk ∧ ((decide (kindOf (rest l i) none = 43) = true ∧ decide (kindOf (rest l i) none = 38) = false ∧ (8 : Int) = kk) ∨ (decide (kindOf (rest l i) none = 43) = false ∧ decide (kindOf (rest l i) none = 38) = true ∧ (9 : Int) = kk)) := by
     rw [hx0]
     rcases hk4 with h | h <;> rw [h] <;> simp
    obtain ⟨kk, hkv, hcase⟩ := hcase
    clear hk4 hk97 hk35
    by_cases hk40 : kindOf (rest l (i + 1)) none = 40
    ·obtain ⟨hi1, hr1, hx1⟩ := Q0Z (by omega) hk40 (by omega)
     rw [show i + 1 + 1 = i + 2 by omega] at hr1
     obtain ⟨j, rfl⟩ := Int.eq_ofNat_of_zero_le h0
     have hj : j < l.length := by omega
     have hj1 : j + 1 < l.length := by omega
     rw [show ((j : Int)).toNat = j by omega] at hr0 hx0 hxk hkv
     rw [show ((j : Int) + 1).toNat = j + 1 by omega] at hr1 hx1
     have hFk : Fw (l.getD (j + 1) r0).ks := hF.kid (Q1K hj1)
     have hFk9 := hFk.1
     have hnd : (nodes (l.getD (j + 1) r0).ks).length + 1 < (nodes (rest l (j : Int))).length := by
      have h : (nodes (l.getD (j + 1) r0).ks).length < (nodes (rest l ((j : Int) + 1))).length := by rw [hr1]; exact Q32 (List.mem_cons_self ..)
      have h2 : (nodes (rest l ((j : Int) + 1))).length < (nodes (rest l (j : Int))).length := by
       rw [hr0]
       obtain ⟨t, Z, zc, zk, ze⟩ := l.getD j r0
       rw [nodes]
       simp only [zA8, zA7]
       omega
      omega
     obtain ⟨d8, hd9⟩ : ∃ d8, d9 = d8 + 1 := ⟨d9 - 1, by omega⟩
     have HWH : Hid (∀ W, Below w.heap.size w W → _) := zh fun W (hW : Below w.heap.size w W) => Q2Z false (hOne _ hd9) (l.getD (j + 1) r0) W (((HT.out.below hW).mono hW.size).kidAt hj1) hFk (by omega)
     have HRL : Hid (Q09 (d9 + 1) (rest l (j : Int)) e = match Q0B false (Q09 d9) (l.getD (j + 1) r0).ks (l.getD (j + 1) r0).e with
      | .error p => .error p
      | .ok xs => .ok (nd kk (l.getD j r0).t.p e0 [] xs, rest l ((j : Int) + 2))) := zh (by rw [hr0, hr1, Qbm hxk hx1, hkv])
     have HADV : Hid (Adv l (j : Int) ((j : Int) + 2)) := zh ⟨2, rfl, by rw [hr0, hr1]; simp⟩
     obtain ⟨bb, o, rfl, hbb, hc⟩ := HT.out.at (k := j) (by omega)
     obtain ⟨_, _, a2, _, _⟩ := hc j hj
     obtain ⟨b0, b1, b2, b3, b4⟩ := hc (j + 1) hj1
     have A2 : ∀ W, Below w.heap.size w W → W.cell? ⟨bb, o + j * 5 + 2, none⟩ = _ := fun W hW => (hW.cell (p := ⟨bb, o + j * 5 + 2, none⟩) hbb).trans a2
     have B0 : ∀ W, Below w.heap.size w W → W.cell? ⟨bb, o + (j + 1) * 5, none⟩ = _ := fun W hW => (hW.cell (p := ⟨bb, o + (j + 1) * 5, none⟩) hbb).trans b0
     have B1 : ∀ W, Below w.heap.size w W → W.cell? ⟨bb, o + (j + 1) * 5 + 1, none⟩ = _ := fun W hW => (hW.cell (p := ⟨bb, o + (j + 1) * 5 + 1, none⟩) hbb).trans b1
     have B2 : ∀ W, Below w.heap.size w W → W.cell? ⟨bb, o + (j + 1) * 5 + 2, none⟩ = _ := fun W hW => (hW.cell (p := ⟨bb, o + (j + 1) * 5 + 2, none⟩) hbb).trans b2
     have B3 : ∀ W, Below w.heap.size w W → W.cell? ⟨bb, o + (j + 1) * 5 + 3, none⟩ = _ := fun W hW => (hW.cell (p := ⟨bb, o + (j + 1) * 5 + 3, none⟩) hbb).trans b3
     have B4 : ∀ W, Below w.heap.size w W → W.cell? ⟨bb, o + (j + 1) * 5 + 4, none⟩ = _ := fun W hW => (hW.cell (p := ⟨bb, o + (j + 1) * 5 + 4, none⟩) hbb).trans b4
     clear hc a2 b0 b1 b2 b3 b4 hr0 hx0 hr1 hx1 hF hFk hnd hxk hkv
     generalize (l.getD j r0).t.p = xp at *
     generalize l.getD (j + 1) r0 = y at *
     obtain ⟨⟨yq, ys, yp⟩, YA, yc, ks, ye⟩ := y
     simp only [Tr.t, Tr.A, Tr.c, Tr.ks, Tr.e] at *
     unfold trv at HWH
     simp only [Tr.t, Tr.A, Tr.c, Tr.ks, Tr.e] at HWH
     generalize hkn : ks.length = kn at *
     have HKN := zh hkn; clear hkn
     generalize hn : l.length = n at *
     have HN := zh hn; clear hn
     rcases hcase with ⟨hc43, hc38, hkk⟩ | ⟨hc43, hc38, hkk⟩
     all_goals (
      go_enter Tryz.func76, Tryz.ntmps76
      go_upto_region 1 with fail
      change Code.wp _ _ _ _ (w.alloc (.cells #[.int .i64 0, .int .i64 0, .string ⟨#[]⟩, .slice none 0 0, .slice none 0 0, .int .i64 0, .bool false, .int .i64 0] 103))
      generalize w.alloc (.cells #[.int .i64 0, .int .i64 0, .string ⟨#[]⟩, .slice none 0 0, .slice none 0 0, .int .i64 0, .bool false, .int .i64 0] 103) = w0 at *
      have HI97 := zh (HIS.out w0 HB0.out ((j : Int)) 97 (by decide))
      rw [zF (by intro h; rw [h] at hc43 hc38; simp at hc43 hc38)] at HI97
      go_wp2_with fail
      refine HI97.out.mono ?_
      rintro e' w' ⟨rfl, hww⟩
      have hww := hww.symm
      subst hww
      clear HI97
      have HI35 := zh (HIS.out w0 HB0.out ((j : Int)) 35 (by decide))
      rw [zF (by intro h; rw [h] at hc43 hc38; simp at hc43 hc38)] at HI35
      go_wp2_with fail
      refine HI35.out.mono ?_
      rintro e' w' ⟨rfl, hww⟩
      have hww := hww.symm
      subst hww
      clear HI35
      have HI43 := zh (HIS.out w0 HB0.out ((j : Int)) 43 (by decide))
      rw [hc43] at HI43
      have HI38 := zh (HIS.out w0 HB0.out ((j : Int)) 38 (by decide))
      rw [hc38] at HI38
      go_wp2_with fail
      refine HI43.out.mono ?_
      rintro e' w' ⟨rfl, hww⟩
      have hww := hww.symm
      subst hww
      go_wp2_with fail
      skip)
     rotate_left 1
     refine HI38.out.mono ?_
     rintro e' w' ⟨rfl, hww⟩
     have hww := hww.symm
     subst hww
     go_wp2_with fail
     all_goals (
      have HI40 := zh (HIS.out w0 HB0.out ((j : Int) + 1) 40 (by decide))
      rw [zE hk40] at HI40
      go_wp2_with fail
      refine HI40.out.mono ?_
      rintro e' w' ⟨rfl, hww⟩
      have hww := hww.symm
      subst hww
      clear HI40
      have a0 := B0 w0 HB0.out
      have a1 := B1 w0 HB0.out
      have a2 := B2 w0 HB0.out
      have a3 := B3 w0 HB0.out
      have a4 := B4 w0 HB0.out
      have HCW := zh (HWH.out w0 HB0.out)
      have hjn : (j : Int) + 1 < (n : Int) := by omega
      go_wp2_with fail
      refine HCW.out.mono ?_
      rintro e' w5 ⟨out, z, nx, f, rfl, ⟨p, rfl, rfl, her⟩ | ⟨rfl, zs, X, d, rfl, hd, hlz, hok, hsl, hdz⟩, hb5⟩
      ·have HST : Hid (Q09 (d9 + 1) (rest l (j : Int)) e = .error p) := zh (by rw [HRL.out, her])
       have HG5 := zh (HG0.out.below hb5 HG0.out.lt)
       have HB5 := zh (HB0.out.trans (hb5.mono HB0.out.size))
       have hb6 : Below w5.heap.size w5 (w5.alloc (.cells #[.int .i64 z.k, .int .i64 z.p, .string z.s, .slice z.A z.ws.length z.c, .slice z.B z.ks.length z.d, .int .i64 nx, .bool true, .int .i64 p] 103)) := (zB _ _).alloc (zL _) _
       have HG6 := zh (HG5.out.below hb6 HG5.out.lt)
       have HB6 := zh (HB5.out.trans (hb6.mono HB5.out.size))
       have HGG := zh (RowAt.new w5 103 #[.int .i64 z.k, .int .i64 z.p, .string z.s, .slice z.A z.ws.length z.c, .slice z.B z.ks.length z.d, .int .i64 nx, .bool true, .int .i64 p])
       clear hb5 hb6 her HG0 HB0 HG5 HB5 a0 a1 a2 a3 a4
       unfold gv
       simp only [Option.isSome_some, Option.getD_some]
       go_upto_region 13 with fail
       generalize w5.alloc (.cells #[.int .i64 z.k, .int .i64 z.p, .string z.s, .slice z.A z.ws.length z.c, .slice z.B z.ks.length z.d, .int .i64 nx, .bool true, .int .i64 p] 103) = w6 at *
       obtain ⟨⟨g0, g1, g2, g3, g4, g5, g6, g7⟩, ff⟩ := row8 HGG.out
       obtain ⟨⟨k0, k1, k2, k3, k4, k5, k6, k7⟩, fk⟩ := row8 HG6.out
       go_wp2_with fail
       change bodyPost _ _ _ _ _ (set8 w6 w.heap.size (.int .i64 z.k) (.int .i64 z.p) (.string z.s) (.slice z.A z.ws.length z.c) (.slice z.B z.ks.length z.d) (.int .i64 nx) (.bool true) (.int .i64 p))
       exact bodyPost_ret (Q04 rfl _ _ w.heap.size _ _ (0, 0) _ rfl (Q0t HG6.out) Tryz.underlying103 rfl (Q0k _ _ _ _ _ _ _ _)) rfl (HQ.out _ _ ⟨z, nx, some p, rfl, .inl ⟨p, rfl, HST.out⟩, HB6.out.trans (Q0u (zL _))⟩)
      ·have HST : Hid (Step (Q09 (d9 + 1)) l (j : Int) e none (er1 (Nd.mk kk xp e0 none 0 [] X d zs)) ((j : Int) + 2) none) := zh (Step.ok HADV.out (by
            rw [HRL.out, hok]
            simp [er1, nd, Nd.k, Nd.p, Nd.s, Nd.ws, Nd.ks, TM.er]))
       have HG5 := zh (HG0.out.below hb5 HG0.out.lt)
       have HB5 := zh (HB0.out.trans (hb5.mono HB0.out.size))
       have hb6 : Below w5.heap.size w5 (w5.alloc (.cells #[.int .i64 z.k, .int .i64 z.p, .string z.s, .slice z.A z.ws.length z.c, .slice z.B z.ks.length z.d, .int .i64 nx, .bool false, .int .i64 0] 103)) := (zB _ _).alloc (zL _) _
       have HG6 := zh (HG5.out.below hb6 HG5.out.lt)
       have HB6 := zh (HB5.out.trans (hb6.mono HB5.out.size))
       have HGG := zh (RowAt.new w5 103 #[.int .i64 z.k, .int .i64 z.p, .string z.s, .slice z.A z.ws.length z.c, .slice z.B z.ks.length z.d, .int .i64 nx, .bool false, .int .i64 0])
       have hz0 := HG0.out.lt
       have HSL6 : Hid (SlC (w5.alloc (.cells #[.int .i64 z.k, .int .i64 z.p, .string z.s, .slice z.A z.ws.length z.c, .slice z.B z.ks.length z.d, .int .i64 nx, .bool false, .int .i64 0] 103)) (fun k => w.heap.size < k) X (ncs zs)) := zh ((hsl.weak (ok' := fun k => w.heap.size < k) fun k _ h => by omega).keep9 fun k hk _ => hb6.block k hk)
       have HDZ6 : Hid (DeepN (w5.alloc (.cells #[.int .i64 z.k, .int .i64 z.p, .string z.s, .slice z.A z.ws.length z.c, .slice z.B z.ks.length z.d, .int .i64 nx, .bool false, .int .i64 0] 103)) (fun k => w.heap.size < k) zs) := zh ((hdz.weak (ok' := fun k => w.heap.size < k) fun k _ h => by omega).keep9 fun k hk _ => hb6.block k hk)
       clear hb5 hb6 hok HG0 HG5 HB5 a0 a1 a2 a3 a4 hsl hdz
       unfold gv
       simp only [Option.isSome_none, Option.getD_none]
       go_upto_region 13 with fail
       generalize w5.alloc (.cells #[.int .i64 z.k, .int .i64 z.p, .string z.s, .slice z.A z.ws.length z.c, .slice z.B z.ks.length z.d, .int .i64 nx, .bool false, .int .i64 0] 103) = w6 at *
       have h6 : w.heap.size < w6.heap.size := HG6.out.lt
       obtain ⟨⟨g0, g1, g2, g3, g4, g5, g6, g7⟩, ff⟩ := row8 HGG.out
       go_upto_region 16 with fail
       clear g0 g1 g2 g3 g4 g5 g6 g7 ff
       have HJ38 := zh (HIS.out w6 HB6.out ((j : Int)) 38 (by decide))
       rw [hc38] at HJ38
       go_wp2_with fail
       refine HJ38.out.mono ?_
       rintro e' w' ⟨rfl, hww⟩
       have hww := hww.symm
       subst hww
       have a2 := A2 w6 HB6.out
       obtain ⟨⟨k0, k1, k2, k3, k4, k5, k6, k7⟩, fk⟩ := row8 HG6.out
       go_wp2_with fail
       change bodyPost _ _ _ _ _ (set8 w6 w.heap.size (.int .i64 _) (.int .i64 xp) (.string ⟨#[]⟩) (.slice none 0 0) (.slice X zs.length d) (.int .i64 ((j : Int) + 2)) (.bool false) (.int .i64 0))
       have e3 := HSL6.out.keep9 (wb := set8 w6 w.heap.size (.int .i64 kk) (.int .i64 xp) (.string ⟨#[]⟩) (.slice none 0 0) (.slice X zs.length d) (.int .i64 ((j : Int) + 2)) (.bool false) (.int .i64 0)) fun k _ hk => Q1k (by omega)
       have e4 := HDZ6.out.keep9 (wb := set8 w6 w.heap.size (.int .i64 kk) (.int .i64 xp) (.string ⟨#[]⟩) (.slice none 0 0) (.slice X zs.length d) (.int .i64 ((j : Int) + 2)) (.bool false) (.int .i64 0)) fun k _ hk => Q1k (by omega)
       exact bodyPost_ret (Q04 rfl _ _ w.heap.size _ _ (0, 0) _ rfl (Q0t HG6.out) Tryz.underlying103 rfl (Q0k _ _ _ _ _ _ _ _)) rfl (HQ.out _ _ ⟨Nd.mk kk xp e0 none 0 [] X d zs, (j : Int) + 2, none, rfl, .inr ⟨rfl, HST.out, DeepN.one ⟨⟨SlC.nil _ _ _, zL _⟩, e3.weak fun k _ h => by omega, hd⟩ (e4.weak fun k _ h => by omega)⟩, HB6.out.trans (Q0u (zL _))⟩))
    ·have HER : Hid (Q09 (d9 + 1) (rest l i) e = .error (Q00 (rest l (i + 1)) e)) := zh (by rw [hr0]; exact Qbl hxk hk40)
     clear hr0 hx0 hxk hkv
     generalize hn : l.length = n at *
     have HN := zh hn; clear hn
     rcases hcase with ⟨hc43, hc38, hkk⟩ | ⟨hc43, hc38, hkk⟩
     all_goals (
      go_enter Tryz.func76, Tryz.ntmps76
      go_upto_region 1 with fail
      change Code.wp _ _ _ _ (w.alloc (.cells #[.int .i64 0, .int .i64 0, .string ⟨#[]⟩, .slice none 0 0, .slice none 0 0, .int .i64 0, .bool false, .int .i64 0] 103))
      generalize w.alloc (.cells #[.int .i64 0, .int .i64 0, .string ⟨#[]⟩, .slice none 0 0, .slice none 0 0, .int .i64 0, .bool false, .int .i64 0] 103) = w0 at *
      have HI97 := zh (HIS.out w0 HB0.out (i) 97 (by decide))
      rw [zF (by intro h; rw [h] at hc43 hc38; simp at hc43 hc38)] at HI97
      go_wp2_with fail
      refine HI97.out.mono ?_
      rintro e' w' ⟨rfl, hww⟩
      have hww := hww.symm
      subst hww
      clear HI97
      have HI35 := zh (HIS.out w0 HB0.out (i) 35 (by decide))
      rw [zF (by intro h; rw [h] at hc43 hc38; simp at hc43 hc38)] at HI35
      go_wp2_with fail
      refine HI35.out.mono ?_
      rintro e' w' ⟨rfl, hww⟩
      have hww := hww.symm
      subst hww
      clear HI35
      have HI43 := zh (HIS.out w0 HB0.out (i) 43 (by decide))
      rw [hc43] at HI43
      have HI38 := zh (HIS.out w0 HB0.out (i) 38 (by decide))
      rw [hc38] at HI38
      go_wp2_with fail
      refine HI43.out.mono ?_
      rintro e' w' ⟨rfl, hww⟩
      have hww := hww.symm
      subst hww
      go_wp2_with fail
      skip)
     rotate_left 1
     refine HI38.out.mono ?_
     rintro e' w' ⟨rfl, hww⟩
     have hww := hww.symm
     subst hww
     go_wp2_with fail
     all_goals (
      have HI40 := zh (HIS.out w0 HB0.out (i + 1) 40 (by decide))
      rw [zF hk40] at HI40
      go_wp2_with fail
      refine HI40.out.mono ?_
      rintro e' w' ⟨rfl, hww⟩
      have hww := hww.symm
      subst hww
      clear HI40
      have HWR := zh (HWS.out w0 HB0.out (i + 1))
      go_wp2_with fail
      refine HWR.out.mono ?_
      rintro e' w9 ⟨rfl, hb9⟩
      have HR9 := zh (HG0.out.below hb9 HG0.out.lt)
      have HB9 := zh (HB0.out.trans (hb9.mono HB0.out.size))
      clear hb9
      obtain ⟨⟨k0, k1, k2, k3, k4, k5, k6, k7⟩, fk⟩ := row8 HR9.out
      unfold gbad
      generalize Q00 (rest l (i + 1)) e = p at *
      go_wp2_with fail
      change bodyPost _ _ _ _ _ (set8 w9 w.heap.size (.int .i64 0) (.int .i64 0) (.string ⟨#[]⟩) (.slice none 0 0) (.slice none 0 0) (.int .i64 0) (.bool true) (.int .i64 p))
      exact bodyPost_ret (Q04 rfl _ _ w.heap.size _ _ (0, 0) _ rfl (Q0t HR9.out) Tryz.underlying103 rfl (Q0k _ _ _ _ _ _ _ _)) rfl (HQ.out _ _ ⟨n0, 0, some p, rfl, .inl ⟨p, rfl, HER.out⟩, HB9.out.trans (Q0u (zL _))⟩))
   ·have HER : Hid (Q09 (d9 + 1) (rest l i) e = .error (Q00 (rest l i) e)) := zh (Qbk hk97 hk35 (by omega) (by omega))
    have hk43 : kindOf (rest l i) none ≠ 43 := by omega
    have hk38 : kindOf (rest l i) none ≠ 38 := by omega
    clear hk4
    generalize hn : l.length = n at *
    have HN := zh hn; clear hn
    go_enter Tryz.func76, Tryz.ntmps76
    go_upto_region 1 with fail
    change Code.wp _ _ _ _ (w.alloc (.cells #[.int .i64 0, .int .i64 0, .string ⟨#[]⟩, .slice none 0 0, .slice none 0 0, .int .i64 0, .bool false, .int .i64 0] 103))
    generalize w.alloc (.cells #[.int .i64 0, .int .i64 0, .string ⟨#[]⟩, .slice none 0 0, .slice none 0 0, .int .i64 0, .bool false, .int .i64 0] 103) = w0 at *
    have HI97 := zh (HIS.out w0 HB0.out (i) 97 (by decide))
    rw [zF hk97] at HI97
    go_wp2_with fail
    refine HI97.out.mono ?_
    rintro e' w' ⟨rfl, hww⟩
    have hww := hww.symm
    subst hww
    clear HI97
    have HI35 := zh (HIS.out w0 HB0.out (i) 35 (by decide))
    rw [zF hk35] at HI35
    go_wp2_with fail
    refine HI35.out.mono ?_
    rintro e' w' ⟨rfl, hww⟩
    have hww := hww.symm
    subst hww
    clear HI35
    have HI43 := zh (HIS.out w0 HB0.out (i) 43 (by decide))
    rw [zF hk43] at HI43
    go_wp2_with fail
    refine HI43.out.mono ?_
    rintro e' w' ⟨rfl, hww⟩
    have hww := hww.symm
    subst hww
    clear HI43
    have HI38 := zh (HIS.out w0 HB0.out (i) 38 (by decide))
    rw [zF hk38] at HI38
    go_wp2_with fail
    refine HI38.out.mono ?_
    rintro e' w' ⟨rfl, hww⟩
    have hww := hww.symm
    subst hww
    clear HI38
    have HWR := zh (HWS.out w0 HB0.out (i))
    go_wp2_with fail
    refine HWR.out.mono ?_
    rintro e' w9 ⟨rfl, hb9⟩
    have HR9 := zh (HG0.out.below hb9 HG0.out.lt)
    have HB9 := zh (HB0.out.trans (hb9.mono HB0.out.size))
    clear hb9
    obtain ⟨⟨k0, k1, k2, k3, k4, k5, k6, k7⟩, fk⟩ := row8 HR9.out
    unfold gbad
    generalize Q00 (rest l (i)) e = p at *
    go_wp2_with fail
    change bodyPost _ _ _ _ _ (set8 w9 w.heap.size (.int .i64 0) (.int .i64 0) (.string ⟨#[]⟩) (.slice none 0 0) (.slice none 0 0) (.int .i64 0) (.bool true) (.int .i64 p))
    exact bodyPost_ret (Q04 rfl _ _ w.heap.size _ _ (0, 0) _ rfl (Q0t HR9.out) Tryz.underlying103 rfl (Q0k _ _ _ _ _ _ _ _)) rfl (HQ.out _ _ ⟨n0, 0, some p, rfl, .inl ⟨p, rfl, HER.out⟩, HB9.out.trans (Q0u (zL _))⟩)
end
end Go.Proofs.YtmobcncgfbfmcaaGreatDoor
