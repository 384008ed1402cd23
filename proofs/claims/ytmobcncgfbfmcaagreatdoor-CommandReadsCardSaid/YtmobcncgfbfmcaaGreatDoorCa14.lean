/- Texts that all the claims need. Conditions: those that each states. -/

import Derived.Test.YtmobcncgfbfmcaaGreatDoorCa13
set_option linter.unusedSimpArgs false
set_option linter.unusedVariables false
set_option maxRecDepth 100000
set_option maxHeartbeats 40000000
namespace Go.Proofs.YtmobcncgfbfmcaaGreatDoor
section
open Go.RowKit LX TR TM CM
def HandN (rd : Rdr Nd) (l : List Tr) (e : Int) (z : Nd) (m : Nat) (fx fy : Int) : Prop :=
 (∃ p, rd l e = .error p ∧ fx = 2 ∧ fy = p ∧ m = 0) ∨ (rd l e = .ok (er1 z, l.drop m) ∧ fx = 0 ∧ fy = 0 ∧ m ≤ l.length)
theorem Q26 (w : World) (ok : Nat → Prop) : DeepN w ok [n0] := fun y hy => by
 obtain rfl : y = n0 := by simpa [TM.all, n0, nd] using hy
 exact ⟨⟨SlC.nil _ _ _, zL _⟩, SlC.nil _ _ _, zL _⟩
theorem Handed.n {s : Nat} {rd : Rdr Nd} {l : List Tr} {e : Int} {v : Value} {w : World} (h : Handed s rd l 0 e v w) :
 ∃ z m fx fy, v = .tuple #[.agg (nv z), .int .i64 ((m : Nat) : Int), .agg #[.int .i64 fx, .int .i64 fy]] ∧ DeepN w (fun k => s ≤ k) [z] ∧ HandN rd l e z m fx fy := by
 unfold Handed at h
 rw [Q1j] at h
 cases hr : rd l e with
 | error p => rw [hr] at h; exact ⟨n0, 0, 2, p, h, Q26 _ _, .inl ⟨p, hr, rfl, rfl, rfl⟩⟩
 | ok xr =>
   obtain ⟨x, r⟩ := xr
   rw [hr] at h
   obtain ⟨z, i2, rfl, rfl, hd, ha, rfl⟩ := h
   obtain ⟨m, rfl, hm, hd2⟩ := ha.drop
   rw [Q1j] at hm hd2
   exact ⟨z, m, 0, 0, by simp, hd, .inr ⟨by rw [hr, hd2], rfl, rfl, hm⟩⟩
theorem HandN.step {rd : Rdr Nd} {l : List Tr} {e : Int} {z : Nd} {m : Nat} {fx fy : Int} (h : HandN rd l e z m fx fy) : m ≤ l.length ∧ ∃ f2, fx = fc f2 ∧ fy = fa f2 ∧ StepL rd l e none (er1 z) (l.drop m) f2 := by
 rcases h with ⟨p, h1, rfl, rfl, rfl⟩ | ⟨h1, rfl, rfl, h4⟩
 ·exact ⟨Nat.zero_le _, some _, rfl, rfl, .err ⟨0, rfl⟩ (.inr ⟨rfl, h1⟩)⟩
 ·exact ⟨h4, none, rfl, rfl, .ok ⟨m, rfl⟩ h1⟩
theorem Q6B {F : FuncId} {rd : Rdr Nd} {N : Nat} (hf : ∀ args w, (callFunc F args).run Tryz.prog w = .ok (.enter F args) w)
 (HF : ∀ (A : Option Addr) (c : Nat) (l : List Tr) (i e : Int) (w : World), Trs w w.heap.size A l → Few l → (nodes (rest l i)).length ≤ N →
  Calls Tryz.prog F #[.slice A l.length c, .int .i64 i, .int .i64 e] w fun e' w' => ∃ v, e' = .returned v ∧ Handed w.heap.size rd l i e v w' ∧ Below w.heap.size w w')
 {w : World} {b : Nat} {A : Option Addr} {c : Nat} {l : List Tr} {e : Int} {f : Option Int} (h : Cr w b A c l e f) (hN : (nodes l).length ≤ N) :
 Calls Tryz.prog 114 #[.pointer (some ⟨b, 0, none⟩), .func (.func F) #[] #[]] w fun e' w' => ∃ z A2 c2 l2 f2, e' = .returned (.agg (nv z)) ∧ DeepN w' (fun k => w.heap.size ≤ k) [z] ∧ Cr w' b A2 c2 l2 e f2 ∧ Mv b w w' ∧ StepL rd l e f (er1 z) l2 f2 := by
 have hbw := h.lt
 have hb1 : Below w.heap.size w (w.alloc (.cells #[.int .i64 0, .int .i64 0, .string ⟨#[]⟩, .slice none 0 0, .slice none 0 0] 29)) := (zB _ _).alloc (zL _) _
 have HG1 := zh (RowAt.new w 29 #[.int .i64 0, .int .i64 0, .string ⟨#[]⟩, .slice none 0 0, .slice none 0 0])
 have HM1 := zh (Mv.below hbw hb1)
 have HC1 := zh (h.below hb1)
 clear hb1
 refine Q0e fun Q' hQ => ?_
 have HQ := zh hQ; clear hQ
 have HLEN := zh h.len
 clear h
 go_enter Tryz.func114, Tryz.ntmps114
 go_upto_region 1 with fail
 generalize w.alloc (.cells #[.int .i64 0, .int .i64 0, .string ⟨#[]⟩, .slice none 0 0, .slice none 0 0] 29) = w1 at *
 have hz1 : w.heap.size < w1.heap.size := HG1.out.lt
 have hb1w : b < w1.heap.size := by omega
 obtain ⟨c0, c1, c2, c3⟩ := Q1e HC1.out.at_
 cases f with
 | some p =>
   simp only [fc, fa, Option.isSome_some, if_true, Option.getD_some] at c2 c3
   obtain ⟨g0, g1, g2, g3, g4, u0, u1, u2, u3, u4⟩ := row5 HG1.out
   go_wp2_with fail
   have hb2 : Below w.heap.size w1 (set5 w1 w.heap.size (.int .i64 0) (.int .i64 0) (.string ⟨#[]⟩) (.slice none 0 0) (.slice none 0 0)) := Q1Q (zL _)
   exact bodyPost_ret (Q04 rfl _ _ w.heap.size _ _ (0, 0) _ rfl (Q0T HG1.out) Tryz.underlying29 rfl (Q0h _ _ _ _ _)) rfl (HQ.out _ _ ⟨n0, A, c, l, some p, rfl, Q26 _ _, HC1.out.low hb2 hbw, HM1.out.onBelow hbw hb2 (zL _), .err (Q2J _) (.inl rfl)⟩)
 | none =>
   simp only [fc, fa, Option.isSome_none, Bool.false_eq_true, if_false, Option.getD_none] at c2 c3
   have HC : Hid (∀ W, Below w1.heap.size w1 W → Calls Tryz.prog F #[.slice A l.length c, .int .i64 0, .int .i64 e] W fun e' w' => ∃ z m fx fy, e' = .returned (.tuple #[.agg (nv z), .int .i64 ((m : Nat) : Int), .agg #[.int .i64 fx, .int .i64 fy]]) ∧ DeepN w' (fun k => W.heap.size ≤ k) [z] ∧ HandN rd l e z m fx fy ∧ Below W.heap.size W w') := zh fun W hW =>
    (HF A c l 0 e W ((HC1.out.trs.below (hW.mono (Nat.le_of_lt hb1w))).mono (by have := hW.size; omega)) HLEN.out (by rw [Q1j]; exact hN)).mono fun e' w' ⟨v, h1, h2, h3⟩ => by
        obtain ⟨z, m, fx, fy, rfl, h4, h5⟩ := h2.n
        exact ⟨z, m, fx, fy, h1, h4, h5, h3⟩
   have C0 : ∀ W, Below w1.heap.size w1 W → W.cell? ⟨b, 0, none⟩ = some (.slice A l.length c) := fun W hW => (hW.cell (p := ⟨b, 0, none⟩) hb1w).trans c0
   have C1 : ∀ W, Below w1.heap.size w1 W → W.cell? ⟨b, 1, none⟩ = some (.int .i64 e) := fun W hW => (hW.cell (p := ⟨b, 1, none⟩) hb1w).trans c1
   clear HF HLEN
   generalize hln : l.length = ln at *
   have HLN := zh hln; clear hln
   go_upto_region 3 with fail
   clear c0 c1 c2 c3
   go_cut [5, 6, 7] from 15 to 28 (fun p5 p6 p7 wx => ∃ (z : Nd) (m : Nat) (fx fy : Int) (g5 g7 : Nat), p5 = .pointer (some ⟨g5, 0, none⟩) ∧ p6 = .int .i64 (m : Int) ∧ p7 = .pointer (some ⟨g7, 0, none⟩) ∧ Hid (RowAt wx g5 29 (nv z)) ∧ Hid (RowAt wx g7 33 #[.int .i64 fx, .int .i64 fy]) ∧ Hid (DeepN wx (fun k => w1.heap.size ≤ k ∧ k ≠ g5 ∧ k ≠ g7) [z]) ∧ Hid (HandN rd l e z m fx fy) ∧ Hid (Below w1.heap.size w1 wx) ∧ w1.heap.size ≤ g5 ∧ w1.heap.size ≤ g7)
   case first =>
    have HS0 : Hid (Below w1.heap.size w1 w1.drew) := (zB _ _).drew
    refine QaT (fun w' => Below w1.heap.size w1 w') ((.take 0 (.take 1 (.take 2 (.take 3 (.take 4 (.take 5 (.take 6 (.take 7 (.take 8 (.three 9 (.take 10 (.take 11 (.take 12 (.take 13 (.two 14 (.solo 15 (.solo 16 (.take 17 (.solo 18 .nil)))) 15 (.solo 14 (.solo 16 (.take 17 (.solo 18 .nil))))))))) 14 (.two 9 (.take 10 (.take 11 (.take 12 (.take 13 (.solo 15 (.solo 16 (.take 17 (.solo 18 .nil)))))))) 15 (.solo 9 (.take 10 (.take 11 (.take 12 (.take 13 (.solo 16 (.take 17 (.solo 18 .nil))))))))) 15 (.two 9 (.take 10 (.take 11 (.take 12 (.take 13 (.solo 14 (.solo 16 (.take 17 (.solo 18 .nil)))))))) 14 (.solo 9 (.take 10 (.take 11 (.take 12 (.take 13 (.solo 16 (.take 17 (.solo 18 .nil)))))))))))))))))))) (by kernel_rfl) (by kernel_rfl) rfl (by kernel_rfl) HS0.out ?_
    generalize w1.drew = v0 at HS0 ⊢
    have HSv0 := HS0
    iterate 9
        (refine Q1y (zO rfl) ?_)
        (first
         | (refine Q1z (by rfl) ?_)
         | (refine Q1A (v := ?_) (by rfl) ?_ ?_; rotate_left 1; (intro wx hSx; have hc_0 := C0 wx hSx; have hc_1 := C1 wx hSx; go_simp; try with_reducible rfl)))
        (try simp only [Act.put, zA4, zA5, zA6])
    refine QaU ?_ ?_ ?_
    ·(refine Q0H (zO rfl) ?_)
     intro K hK
     go_simp
     refine (HC.out v0 HSv0.out).mono ?_
     rintro e' v1 ⟨z, m, fx, fy, rfl, hdn, hhn, hb⟩
     have HSv1 := zh (HSv0.out.trans (hb.mono HSv0.out.size))
     have hzv1 : w1.heap.size ≤ v0.heap.size := HSv0.out.size
     have HHN := zh hhn
     have HDv1 : Hid (DeepN v1 (fun k => w1.heap.size ≤ k) [z]) := zh (hdn.weak fun k hk h => by omega)
     clear hb hdn hhn
     refine hK.out _ _ HSv1.out ?_
     clear hK K
     (try simp only [Act.put, zA4, zA5, zA6])
     iterate 4
      (refine Q1y (zO rfl) ?_)
      (first
       | (refine Q1z (by rfl) ?_)
       | (refine Q1A (v := ?_) (by rfl) ?_ ?_; rotate_left 1; (intro wx hSx; have hc_0 := C0 wx hSx; have hc_1 := C1 wx hSx; go_simp; try with_reducible rfl)))
      (try simp only [Act.put, zA4, zA5, zA6])
     refine Q5j ?_ ?_
     ·(refine Q0H (zO rfl) ?_)
      intro K hK
      go_simp
      have hb : Below v1.heap.size v1 (v1.alloc (.cells #[.int .i64 0, .int .i64 0, .string ⟨#[]⟩, .slice none 0 0, .slice none 0 0] 29)) := (zB _ _).alloc (zL _) _
      have HSv2 := zh (HSv1.out.trans (hb.mono HSv1.out.size))
      have Hg5v2 := zh (RowAt.new v1 29 #[.int .i64 0, .int .i64 0, .string ⟨#[]⟩, .slice none 0 0, .slice none 0 0])
      have HZg5 := zh HSv1.out.size
      have HDv2 : Hid (DeepN (v1.alloc (.cells #[.int .i64 0, .int .i64 0, .string ⟨#[]⟩, .slice none 0 0, .slice none 0 0] 29)) (fun k => w1.heap.size ≤ k ∧ k ≠ v1.heap.size) [z]) := zh ((HDv1.out.weak (ok' := fun k => w1.heap.size ≤ k ∧ k ≠ v1.heap.size) fun k hk h => ⟨h, by omega⟩).keep9 fun k hk _ => hb.block k hk)
      clear hb
      refine hK.out _ _ HSv2.out ?_
      clear hK K
      (try simp only [Act.put, zA4, zA5, zA6])
      generalize hgb : v1.heap.size = g5 at *
      generalize (v1.alloc (.cells #[.int .i64 0, .int .i64 0, .string ⟨#[]⟩, .slice none 0 0, .slice none 0 0] 29)) = v2 at *
      clear hgb
      (refine Q0H (zO rfl) ?_)
      intro K hK
      go_simp
      have hb : Below v2.heap.size v2 (v2.alloc (.cells #[.int .i64 0, .int .i64 0] 33)) := (zB _ _).alloc (zL _) _
      have HSv3 := zh (HSv2.out.trans (hb.mono HSv2.out.size))
      have Hg7v3 := zh (RowAt.new v2 33 #[.int .i64 0, .int .i64 0])
      have HZg7 := zh HSv2.out.size
      have Hg5v3 := zh (Hg5v2.out.below hb Hg5v2.out.lt)
      have HNE : Hid (g5 < v2.heap.size) := zh Hg5v2.out.lt
      have HDv3 : Hid (DeepN (v2.alloc (.cells #[.int .i64 0, .int .i64 0] 33)) (fun k => w1.heap.size ≤ k ∧ k ≠ g5 ∧ k ≠ v2.heap.size) [z]) := zh ((HDv2.out.weak (ok' := fun k => w1.heap.size ≤ k ∧ k ≠ g5 ∧ k ≠ v2.heap.size) fun k hk h => ⟨h.1, h.2, by omega⟩).keep9 fun k hk _ => hb.block k hk)
      clear hb
      refine hK.out _ _ HSv3.out ?_
      clear hK K
      (try simp only [Act.put, zA4, zA5, zA6])
      generalize hgb : v2.heap.size = g7 at *
      generalize (v2.alloc (.cells #[.int .i64 0, .int .i64 0] 33)) = v3 at *
      clear hgb
      (refine Q0H (zO rfl) ?_)
      intro K hK
      have hne : g5 ≠ g7 := by have := HNE.out; omega
      have hz5 := HZg5.out
      have hz7 := HZg7.out
      rw [if_pos (by rfl)]
      refine wp_store_row _ _ _ rfl g5 (nv z) rfl rfl _ _ Hg5v3.out (Q0h _ _ _ _ _) rfl (by simp [nv, Value.oneCell']) ?_
      have HSv9 : Hid (Below w1.heap.size w1 (v3.setRow g5 (nv z))) := zh (HSv3.out.trans (below_setRow hz5 _))
      have Hg5v9 := zh (Hg5v3.out.setRow (nv z))
      have Hg7v9 : Hid (RowAt (v3.setRow g5 (nv z)) g7 33 #[.int .i64 0, .int .i64 0]) := zh ((setRow_other v3 g5 g7 _ (Ne.symm hne)).trans Hg7v3.out)
      have HDv9 : Hid (DeepN (v3.setRow g5 (nv z)) (fun k => w1.heap.size ≤ k ∧ k ≠ g5 ∧ k ≠ g7) [z]) := zh (HDv3.out.keep9 fun k _ h => setRow_other v3 g5 k _ h.2.1)
      refine hK.out _ _ HSv9.out ?_
      clear hK K
      (try simp only [Act.put, zA4, zA5, zA6])
      generalize v3.setRow g5 (nv z) = v9 at *
      iterate 1
       (refine Q1y (zO rfl) ?_)
       (first
             | (refine Q1z (by rfl) ?_)
             | (refine Q1A (v := ?_) (by rfl) ?_ ?_; rotate_left 1; (intro wx hSx; have hc_0 := C0 wx hSx; have hc_1 := C1 wx hSx; go_simp; try with_reducible rfl)))
       (try simp only [Act.put, zA4, zA5, zA6])
      (refine Q0H (zO rfl) ?_)
      intro K hK
      rw [if_pos (by rfl)]
      refine wp_store_row _ _ _ rfl g7 #[.int .i64 fx, .int .i64 fy] rfl rfl _ _ Hg7v9.out (Q06 _ _) rfl (by simp [Value.oneCell']) ?_
      have HSz : Hid (Below w1.heap.size w1 (v9.setRow g7 #[.int .i64 fx, .int .i64 fy])) := zh (HSv9.out.trans (below_setRow hz7 _))
      have Hg7z := zh (Hg7v9.out.setRow #[.int .i64 fx, .int .i64 fy])
      have Hg5z : Hid (RowAt (v9.setRow g7 #[.int .i64 fx, .int .i64 fy]) g5 29 (nv z)) := zh ((setRow_other v9 g7 g5 _ hne).trans Hg5v9.out)
      have HDz : Hid (DeepN (v9.setRow g7 #[.int .i64 fx, .int .i64 fy]) (fun k => w1.heap.size ≤ k ∧ k ≠ g5 ∧ k ≠ g7) [z]) := zh (HDv9.out.keep9 fun k _ h => setRow_other v9 g7 k _ h.2.2)
      refine hK.out _ _ HSz.out ?_
      clear hK K
      (try simp only [Act.put, zA4, zA5, zA6])
      refine Q2T ?_
      go_wp2
      go_meet
      case rel => exact ⟨z, m, fx, fy, g5, g7, rfl, rfl, rfl, Hg5z.out, Hg7z.out, HDz.out, HHN.out, HSz.out, hz5, hz7⟩
     ·(refine Q0H (zO rfl) ?_)
      intro K hK
      go_simp
      have hb : Below v1.heap.size v1 (v1.alloc (.cells #[.int .i64 0, .int .i64 0] 33)) := (zB _ _).alloc (zL _) _
      have HSv2 := zh (HSv1.out.trans (hb.mono HSv1.out.size))
      have Hg7v2 := zh (RowAt.new v1 33 #[.int .i64 0, .int .i64 0])
      have HZg7 := zh HSv1.out.size
      have HDv2 : Hid (DeepN (v1.alloc (.cells #[.int .i64 0, .int .i64 0] 33)) (fun k => w1.heap.size ≤ k ∧ k ≠ v1.heap.size) [z]) := zh ((HDv1.out.weak (ok' := fun k => w1.heap.size ≤ k ∧ k ≠ v1.heap.size) fun k hk h => ⟨h, by omega⟩).keep9 fun k hk _ => hb.block k hk)
      clear hb
      refine hK.out _ _ HSv2.out ?_
      clear hK K
      (try simp only [Act.put, zA4, zA5, zA6])
      generalize hgb : v1.heap.size = g7 at *
      generalize (v1.alloc (.cells #[.int .i64 0, .int .i64 0] 33)) = v2 at *
      clear hgb
      (refine Q0H (zO rfl) ?_)
      intro K hK
      go_simp
      have hb : Below v2.heap.size v2 (v2.alloc (.cells #[.int .i64 0, .int .i64 0, .string ⟨#[]⟩, .slice none 0 0, .slice none 0 0] 29)) := (zB _ _).alloc (zL _) _
      have HSv3 := zh (HSv2.out.trans (hb.mono HSv2.out.size))
      have Hg5v3 := zh (RowAt.new v2 29 #[.int .i64 0, .int .i64 0, .string ⟨#[]⟩, .slice none 0 0, .slice none 0 0])
      have HZg5 := zh HSv2.out.size
      have Hg7v3 := zh (Hg7v2.out.below hb Hg7v2.out.lt)
      have HNE : Hid (g7 < v2.heap.size) := zh Hg7v2.out.lt
      have HDv3 : Hid (DeepN (v2.alloc (.cells #[.int .i64 0, .int .i64 0, .string ⟨#[]⟩, .slice none 0 0, .slice none 0 0] 29)) (fun k => w1.heap.size ≤ k ∧ k ≠ v2.heap.size ∧ k ≠ g7) [z]) := zh ((HDv2.out.weak (ok' := fun k => w1.heap.size ≤ k ∧ k ≠ v2.heap.size ∧ k ≠ g7) fun k hk h => ⟨h.1, by omega, h.2⟩).keep9 fun k hk _ => hb.block k hk)
      clear hb
      refine hK.out _ _ HSv3.out ?_
      clear hK K
      (try simp only [Act.put, zA4, zA5, zA6])
      generalize hgb : v2.heap.size = g5 at *
      generalize (v2.alloc (.cells #[.int .i64 0, .int .i64 0, .string ⟨#[]⟩, .slice none 0 0, .slice none 0 0] 29)) = v3 at *
      clear hgb
      (refine Q0H (zO rfl) ?_)
      intro K hK
      have hne : g5 ≠ g7 := by have := HNE.out; omega
      have hz5 := HZg5.out
      have hz7 := HZg7.out
      rw [if_pos (by rfl)]
      refine wp_store_row _ _ _ rfl g5 (nv z) rfl rfl _ _ Hg5v3.out (Q0h _ _ _ _ _) rfl (by simp [nv, Value.oneCell']) ?_
      have HSv9 : Hid (Below w1.heap.size w1 (v3.setRow g5 (nv z))) := zh (HSv3.out.trans (below_setRow hz5 _))
      have Hg5v9 := zh (Hg5v3.out.setRow (nv z))
      have Hg7v9 : Hid (RowAt (v3.setRow g5 (nv z)) g7 33 #[.int .i64 0, .int .i64 0]) := zh ((setRow_other v3 g5 g7 _ (Ne.symm hne)).trans Hg7v3.out)
      have HDv9 : Hid (DeepN (v3.setRow g5 (nv z)) (fun k => w1.heap.size ≤ k ∧ k ≠ g5 ∧ k ≠ g7) [z]) := zh (HDv3.out.keep9 fun k _ h => setRow_other v3 g5 k _ h.2.1)
      refine hK.out _ _ HSv9.out ?_
      clear hK K
      (try simp only [Act.put, zA4, zA5, zA6])
      generalize v3.setRow g5 (nv z) = v9 at *
      iterate 1
       (refine Q1y (zO rfl) ?_)
       (first
             | (refine Q1z (by rfl) ?_)
             | (refine Q1A (v := ?_) (by rfl) ?_ ?_; rotate_left 1; (intro wx hSx; have hc_0 := C0 wx hSx; have hc_1 := C1 wx hSx; go_simp; try with_reducible rfl)))
       (try simp only [Act.put, zA4, zA5, zA6])
      (refine Q0H (zO rfl) ?_)
      intro K hK
      rw [if_pos (by rfl)]
      refine wp_store_row _ _ _ rfl g7 #[.int .i64 fx, .int .i64 fy] rfl rfl _ _ Hg7v9.out (Q06 _ _) rfl (by simp [Value.oneCell']) ?_
      have HSz : Hid (Below w1.heap.size w1 (v9.setRow g7 #[.int .i64 fx, .int .i64 fy])) := zh (HSv9.out.trans (below_setRow hz7 _))
      have Hg7z := zh (Hg7v9.out.setRow #[.int .i64 fx, .int .i64 fy])
      have Hg5z : Hid (RowAt (v9.setRow g7 #[.int .i64 fx, .int .i64 fy]) g5 29 (nv z)) := zh ((setRow_other v9 g7 g5 _ hne).trans Hg5v9.out)
      have HDz : Hid (DeepN (v9.setRow g7 #[.int .i64 fx, .int .i64 fy]) (fun k => w1.heap.size ≤ k ∧ k ≠ g5 ∧ k ≠ g7) [z]) := zh (HDv9.out.keep9 fun k _ h => setRow_other v9 g7 k _ h.2.2)
      refine hK.out _ _ HSz.out ?_
      clear hK K
      (try simp only [Act.put, zA4, zA5, zA6])
      refine Q2T ?_
      go_wp2
      go_meet
      case rel => exact ⟨z, m, fx, fy, g5, g7, rfl, rfl, rfl, Hg5z.out, Hg7z.out, HDz.out, HHN.out, HSz.out, hz5, hz7⟩
    ·(refine Q0H (zO rfl) ?_)
     intro K hK
     go_simp
     have hb : Below v0.heap.size v0 (v0.alloc (.cells #[.int .i64 0, .int .i64 0, .string ⟨#[]⟩, .slice none 0 0, .slice none 0 0] 29)) := (zB _ _).alloc (zL _) _
     have HSv1 := zh (HSv0.out.trans (hb.mono HSv0.out.size))
     have Hg5v1 := zh (RowAt.new v0 29 #[.int .i64 0, .int .i64 0, .string ⟨#[]⟩, .slice none 0 0, .slice none 0 0])
     have HZg5 := zh HSv0.out.size
     clear hb
     refine hK.out _ _ HSv1.out ?_
     clear hK K
     (try simp only [Act.put, zA4, zA5, zA6])
     generalize hgb : v0.heap.size = g5 at *
     generalize (v0.alloc (.cells #[.int .i64 0, .int .i64 0, .string ⟨#[]⟩, .slice none 0 0, .slice none 0 0] 29)) = v1 at *
     clear hgb
     refine Q5j ?_ ?_
     ·(refine Q0H (zO rfl) ?_)
      intro K hK
      go_simp
      refine (HC.out v1 HSv1.out).mono ?_
      rintro e' v2 ⟨z, m, fx, fy, rfl, hdn, hhn, hb⟩
      have HSv2 := zh (HSv1.out.trans (hb.mono HSv1.out.size))
      have hzv2 : w1.heap.size ≤ v1.heap.size := HSv1.out.size
      have HHN := zh hhn
      have hzzg5 := Hg5v1.out.lt
      have Hg5v2 := zh (Hg5v1.out.below hb Hg5v1.out.lt)
      have HDv2 : Hid (DeepN v2 (fun k => w1.heap.size ≤ k ∧ k ≠ g5) [z]) := zh (hdn.weak fun k hk h => ⟨by omega, by omega⟩)
      clear hb hdn hhn
      refine hK.out _ _ HSv2.out ?_
      clear hK K
      (try simp only [Act.put, zA4, zA5, zA6])
      iterate 4
       (refine Q1y (zO rfl) ?_)
       (first
             | (refine Q1z (by rfl) ?_)
             | (refine Q1A (v := ?_) (by rfl) ?_ ?_; rotate_left 1; (intro wx hSx; have hc_0 := C0 wx hSx; have hc_1 := C1 wx hSx; go_simp; try with_reducible rfl)))
       (try simp only [Act.put, zA4, zA5, zA6])
      (refine Q0H (zO rfl) ?_)
      intro K hK
      go_simp
      have hb : Below v2.heap.size v2 (v2.alloc (.cells #[.int .i64 0, .int .i64 0] 33)) := (zB _ _).alloc (zL _) _
      have HSv3 := zh (HSv2.out.trans (hb.mono HSv2.out.size))
      have Hg7v3 := zh (RowAt.new v2 33 #[.int .i64 0, .int .i64 0])
      have HZg7 := zh HSv2.out.size
      have Hg5v3 := zh (Hg5v2.out.below hb Hg5v2.out.lt)
      have HNE : Hid (g5 < v2.heap.size) := zh Hg5v2.out.lt
      have HDv3 : Hid (DeepN (v2.alloc (.cells #[.int .i64 0, .int .i64 0] 33)) (fun k => w1.heap.size ≤ k ∧ k ≠ g5 ∧ k ≠ v2.heap.size) [z]) := zh ((HDv2.out.weak (ok' := fun k => w1.heap.size ≤ k ∧ k ≠ g5 ∧ k ≠ v2.heap.size) fun k hk h => ⟨h.1, h.2, by omega⟩).keep9 fun k hk _ => hb.block k hk)
      clear hb
      refine hK.out _ _ HSv3.out ?_
      clear hK K
      (try simp only [Act.put, zA4, zA5, zA6])
      generalize hgb : v2.heap.size = g7 at *
      generalize (v2.alloc (.cells #[.int .i64 0, .int .i64 0] 33)) = v3 at *
      clear hgb
      (refine Q0H (zO rfl) ?_)
      intro K hK
      have hne : g5 ≠ g7 := by have := HNE.out; omega
      have hz5 := HZg5.out
      have hz7 := HZg7.out
      rw [if_pos (by rfl)]
      refine wp_store_row _ _ _ rfl g5 (nv z) rfl rfl _ _ Hg5v3.out (Q0h _ _ _ _ _) rfl (by simp [nv, Value.oneCell']) ?_
      have HSv9 : Hid (Below w1.heap.size w1 (v3.setRow g5 (nv z))) := zh (HSv3.out.trans (below_setRow hz5 _))
      have Hg5v9 := zh (Hg5v3.out.setRow (nv z))
      have Hg7v9 : Hid (RowAt (v3.setRow g5 (nv z)) g7 33 #[.int .i64 0, .int .i64 0]) := zh ((setRow_other v3 g5 g7 _ (Ne.symm hne)).trans Hg7v3.out)
      have HDv9 : Hid (DeepN (v3.setRow g5 (nv z)) (fun k => w1.heap.size ≤ k ∧ k ≠ g5 ∧ k ≠ g7) [z]) := zh (HDv3.out.keep9 fun k _ h => setRow_other v3 g5 k _ h.2.1)
      refine hK.out _ _ HSv9.out ?_
      clear hK K
      (try simp only [Act.put, zA4, zA5, zA6])
      generalize v3.setRow g5 (nv z) = v9 at *
      iterate 1
       (refine Q1y (zO rfl) ?_)
       (first
             | (refine Q1z (by rfl) ?_)
             | (refine Q1A (v := ?_) (by rfl) ?_ ?_; rotate_left 1; (intro wx hSx; have hc_0 := C0 wx hSx; have hc_1 := C1 wx hSx; go_simp; try with_reducible rfl)))
       (try simp only [Act.put, zA4, zA5, zA6])
      (refine Q0H (zO rfl) ?_)
      intro K hK
      rw [if_pos (by rfl)]
      refine wp_store_row _ _ _ rfl g7 #[.int .i64 fx, .int .i64 fy] rfl rfl _ _ Hg7v9.out (Q06 _ _) rfl (by simp [Value.oneCell']) ?_
      have HSz : Hid (Below w1.heap.size w1 (v9.setRow g7 #[.int .i64 fx, .int .i64 fy])) := zh (HSv9.out.trans (below_setRow hz7 _))
      have Hg7z := zh (Hg7v9.out.setRow #[.int .i64 fx, .int .i64 fy])
      have Hg5z : Hid (RowAt (v9.setRow g7 #[.int .i64 fx, .int .i64 fy]) g5 29 (nv z)) := zh ((setRow_other v9 g7 g5 _ hne).trans Hg5v9.out)
      have HDz : Hid (DeepN (v9.setRow g7 #[.int .i64 fx, .int .i64 fy]) (fun k => w1.heap.size ≤ k ∧ k ≠ g5 ∧ k ≠ g7) [z]) := zh (HDv9.out.keep9 fun k _ h => setRow_other v9 g7 k _ h.2.2)
      refine hK.out _ _ HSz.out ?_
      clear hK K
      (try simp only [Act.put, zA4, zA5, zA6])
      refine Q2T ?_
      go_wp2
      go_meet
      case rel => exact ⟨z, m, fx, fy, g5, g7, rfl, rfl, rfl, Hg5z.out, Hg7z.out, HDz.out, HHN.out, HSz.out, hz5, hz7⟩
     ·(refine Q0H (zO rfl) ?_)
      intro K hK
      go_simp
      have hb : Below v1.heap.size v1 (v1.alloc (.cells #[.int .i64 0, .int .i64 0] 33)) := (zB _ _).alloc (zL _) _
      have HSv2 := zh (HSv1.out.trans (hb.mono HSv1.out.size))
      have Hg7v2 := zh (RowAt.new v1 33 #[.int .i64 0, .int .i64 0])
      have HZg7 := zh HSv1.out.size
      have Hg5v2 := zh (Hg5v1.out.below hb Hg5v1.out.lt)
      have HNE : Hid (g5 < v1.heap.size) := zh Hg5v1.out.lt
      clear hb
      refine hK.out _ _ HSv2.out ?_
      clear hK K
      (try simp only [Act.put, zA4, zA5, zA6])
      generalize hgb : v1.heap.size = g7 at *
      generalize (v1.alloc (.cells #[.int .i64 0, .int .i64 0] 33)) = v2 at *
      clear hgb
      (refine Q0H (zO rfl) ?_)
      intro K hK
      go_simp
      refine (HC.out v2 HSv2.out).mono ?_
      rintro e' v3 ⟨z, m, fx, fy, rfl, hdn, hhn, hb⟩
      have HSv3 := zh (HSv2.out.trans (hb.mono HSv2.out.size))
      have hzv3 : w1.heap.size ≤ v2.heap.size := HSv2.out.size
      have HHN := zh hhn
      have hzzg5 := Hg5v2.out.lt
      have Hg5v3 := zh (Hg5v2.out.below hb Hg5v2.out.lt)
      have hzzg7 := Hg7v2.out.lt
      have Hg7v3 := zh (Hg7v2.out.below hb Hg7v2.out.lt)
      have HDv3 : Hid (DeepN v3 (fun k => w1.heap.size ≤ k ∧ k ≠ g5 ∧ k ≠ g7) [z]) := zh (hdn.weak fun k hk h => ⟨by omega, by omega, by omega⟩)
      clear hb hdn hhn
      refine hK.out _ _ HSv3.out ?_
      clear hK K
      (try simp only [Act.put, zA4, zA5, zA6])
      iterate 4
       (refine Q1y (zO rfl) ?_)
       (first
             | (refine Q1z (by rfl) ?_)
             | (refine Q1A (v := ?_) (by rfl) ?_ ?_; rotate_left 1; (intro wx hSx; have hc_0 := C0 wx hSx; have hc_1 := C1 wx hSx; go_simp; try with_reducible rfl)))
       (try simp only [Act.put, zA4, zA5, zA6])
      (refine Q0H (zO rfl) ?_)
      intro K hK
      have hne : g5 ≠ g7 := by have := HNE.out; omega
      have hz5 := HZg5.out
      have hz7 := HZg7.out
      rw [if_pos (by rfl)]
      refine wp_store_row _ _ _ rfl g5 (nv z) rfl rfl _ _ Hg5v3.out (Q0h _ _ _ _ _) rfl (by simp [nv, Value.oneCell']) ?_
      have HSv9 : Hid (Below w1.heap.size w1 (v3.setRow g5 (nv z))) := zh (HSv3.out.trans (below_setRow hz5 _))
      have Hg5v9 := zh (Hg5v3.out.setRow (nv z))
      have Hg7v9 : Hid (RowAt (v3.setRow g5 (nv z)) g7 33 #[.int .i64 0, .int .i64 0]) := zh ((setRow_other v3 g5 g7 _ (Ne.symm hne)).trans Hg7v3.out)
      have HDv9 : Hid (DeepN (v3.setRow g5 (nv z)) (fun k => w1.heap.size ≤ k ∧ k ≠ g5 ∧ k ≠ g7) [z]) := zh (HDv3.out.keep9 fun k _ h => setRow_other v3 g5 k _ h.2.1)
      refine hK.out _ _ HSv9.out ?_
      clear hK K
      (try simp only [Act.put, zA4, zA5, zA6])
      generalize v3.setRow g5 (nv z) = v9 at *
      iterate 1
       (refine Q1y (zO rfl) ?_)
       (first
             | (refine Q1z (by rfl) ?_)
             | (refine Q1A (v := ?_) (by rfl) ?_ ?_; rotate_left 1; (intro wx hSx; have hc_0 := C0 wx hSx; have hc_1 := C1 wx hSx; go_simp; try with_reducible rfl)))
       (try simp only [Act.put, zA4, zA5, zA6])
      (refine Q0H (zO rfl) ?_)
      intro K hK
      rw [if_pos (by rfl)]
      refine wp_store_row _ _ _ rfl g7 #[.int .i64 fx, .int .i64 fy] rfl rfl _ _ Hg7v9.out (Q06 _ _) rfl (by simp [Value.oneCell']) ?_
      have HSz : Hid (Below w1.heap.size w1 (v9.setRow g7 #[.int .i64 fx, .int .i64 fy])) := zh (HSv9.out.trans (below_setRow hz7 _))
      have Hg7z := zh (Hg7v9.out.setRow #[.int .i64 fx, .int .i64 fy])
      have Hg5z : Hid (RowAt (v9.setRow g7 #[.int .i64 fx, .int .i64 fy]) g5 29 (nv z)) := zh ((setRow_other v9 g7 g5 _ hne).trans Hg5v9.out)
      have HDz : Hid (DeepN (v9.setRow g7 #[.int .i64 fx, .int .i64 fy]) (fun k => w1.heap.size ≤ k ∧ k ≠ g5 ∧ k ≠ g7) [z]) := zh (HDv9.out.keep9 fun k _ h => setRow_other v9 g7 k _ h.2.2)
      refine hK.out _ _ HSz.out ?_
      clear hK K
      (try simp only [Act.put, zA4, zA5, zA6])
      refine Q2T ?_
      go_wp2
      go_meet
      case rel => exact ⟨z, m, fx, fy, g5, g7, rfl, rfl, rfl, Hg5z.out, Hg7z.out, HDz.out, HHN.out, HSz.out, hz5, hz7⟩
    ·(refine Q0H (zO rfl) ?_)
     intro K hK
     go_simp
     have hb : Below v0.heap.size v0 (v0.alloc (.cells #[.int .i64 0, .int .i64 0] 33)) := (zB _ _).alloc (zL _) _
     have HSv1 := zh (HSv0.out.trans (hb.mono HSv0.out.size))
     have Hg7v1 := zh (RowAt.new v0 33 #[.int .i64 0, .int .i64 0])
     have HZg7 := zh HSv0.out.size
     clear hb
     refine hK.out _ _ HSv1.out ?_
     clear hK K
     (try simp only [Act.put, zA4, zA5, zA6])
     generalize hgb : v0.heap.size = g7 at *
     generalize (v0.alloc (.cells #[.int .i64 0, .int .i64 0] 33)) = v1 at *
     clear hgb
     refine Q5j ?_ ?_
     ·(refine Q0H (zO rfl) ?_)
      intro K hK
      go_simp
      refine (HC.out v1 HSv1.out).mono ?_
      rintro e' v2 ⟨z, m, fx, fy, rfl, hdn, hhn, hb⟩
      have HSv2 := zh (HSv1.out.trans (hb.mono HSv1.out.size))
      have hzv2 : w1.heap.size ≤ v1.heap.size := HSv1.out.size
      have HHN := zh hhn
      have hzzg7 := Hg7v1.out.lt
      have Hg7v2 := zh (Hg7v1.out.below hb Hg7v1.out.lt)
      have HDv2 : Hid (DeepN v2 (fun k => w1.heap.size ≤ k ∧ k ≠ g7) [z]) := zh (hdn.weak fun k hk h => ⟨by omega, by omega⟩)
      clear hb hdn hhn
      refine hK.out _ _ HSv2.out ?_
      clear hK K
      (try simp only [Act.put, zA4, zA5, zA6])
      iterate 4
       (refine Q1y (zO rfl) ?_)
       (first
             | (refine Q1z (by rfl) ?_)
             | (refine Q1A (v := ?_) (by rfl) ?_ ?_; rotate_left 1; (intro wx hSx; have hc_0 := C0 wx hSx; have hc_1 := C1 wx hSx; go_simp; try with_reducible rfl)))
       (try simp only [Act.put, zA4, zA5, zA6])
      (refine Q0H (zO rfl) ?_)
      intro K hK
      go_simp
      have hb : Below v2.heap.size v2 (v2.alloc (.cells #[.int .i64 0, .int .i64 0, .string ⟨#[]⟩, .slice none 0 0, .slice none 0 0] 29)) := (zB _ _).alloc (zL _) _
      have HSv3 := zh (HSv2.out.trans (hb.mono HSv2.out.size))
      have Hg5v3 := zh (RowAt.new v2 29 #[.int .i64 0, .int .i64 0, .string ⟨#[]⟩, .slice none 0 0, .slice none 0 0])
      have HZg5 := zh HSv2.out.size
      have Hg7v3 := zh (Hg7v2.out.below hb Hg7v2.out.lt)
      have HNE : Hid (g7 < v2.heap.size) := zh Hg7v2.out.lt
      have HDv3 : Hid (DeepN (v2.alloc (.cells #[.int .i64 0, .int .i64 0, .string ⟨#[]⟩, .slice none 0 0, .slice none 0 0] 29)) (fun k => w1.heap.size ≤ k ∧ k ≠ v2.heap.size ∧ k ≠ g7) [z]) := zh ((HDv2.out.weak (ok' := fun k => w1.heap.size ≤ k ∧ k ≠ v2.heap.size ∧ k ≠ g7) fun k hk h => ⟨h.1, by omega, h.2⟩).keep9 fun k hk _ => hb.block k hk)
      clear hb
      refine hK.out _ _ HSv3.out ?_
      clear hK K
      (try simp only [Act.put, zA4, zA5, zA6])
      generalize hgb : v2.heap.size = g5 at *
      generalize (v2.alloc (.cells #[.int .i64 0, .int .i64 0, .string ⟨#[]⟩, .slice none 0 0, .slice none 0 0] 29)) = v3 at *
      clear hgb
      (refine Q0H (zO rfl) ?_)
      intro K hK
      have hne : g5 ≠ g7 := by have := HNE.out; omega
      have hz5 := HZg5.out
      have hz7 := HZg7.out
      rw [if_pos (by rfl)]
      refine wp_store_row _ _ _ rfl g5 (nv z) rfl rfl _ _ Hg5v3.out (Q0h _ _ _ _ _) rfl (by simp [nv, Value.oneCell']) ?_
      have HSv9 : Hid (Below w1.heap.size w1 (v3.setRow g5 (nv z))) := zh (HSv3.out.trans (below_setRow hz5 _))
      have Hg5v9 := zh (Hg5v3.out.setRow (nv z))
      have Hg7v9 : Hid (RowAt (v3.setRow g5 (nv z)) g7 33 #[.int .i64 0, .int .i64 0]) := zh ((setRow_other v3 g5 g7 _ (Ne.symm hne)).trans Hg7v3.out)
      have HDv9 : Hid (DeepN (v3.setRow g5 (nv z)) (fun k => w1.heap.size ≤ k ∧ k ≠ g5 ∧ k ≠ g7) [z]) := zh (HDv3.out.keep9 fun k _ h => setRow_other v3 g5 k _ h.2.1)
      refine hK.out _ _ HSv9.out ?_
      clear hK K
      (try simp only [Act.put, zA4, zA5, zA6])
      generalize v3.setRow g5 (nv z) = v9 at *
      iterate 1
       (refine Q1y (zO rfl) ?_)
       (first
             | (refine Q1z (by rfl) ?_)
             | (refine Q1A (v := ?_) (by rfl) ?_ ?_; rotate_left 1; (intro wx hSx; have hc_0 := C0 wx hSx; have hc_1 := C1 wx hSx; go_simp; try with_reducible rfl)))
       (try simp only [Act.put, zA4, zA5, zA6])
      (refine Q0H (zO rfl) ?_)
      intro K hK
      rw [if_pos (by rfl)]
      refine wp_store_row _ _ _ rfl g7 #[.int .i64 fx, .int .i64 fy] rfl rfl _ _ Hg7v9.out (Q06 _ _) rfl (by simp [Value.oneCell']) ?_
      have HSz : Hid (Below w1.heap.size w1 (v9.setRow g7 #[.int .i64 fx, .int .i64 fy])) := zh (HSv9.out.trans (below_setRow hz7 _))
      have Hg7z := zh (Hg7v9.out.setRow #[.int .i64 fx, .int .i64 fy])
      have Hg5z : Hid (RowAt (v9.setRow g7 #[.int .i64 fx, .int .i64 fy]) g5 29 (nv z)) := zh ((setRow_other v9 g7 g5 _ hne).trans Hg5v9.out)
      have HDz : Hid (DeepN (v9.setRow g7 #[.int .i64 fx, .int .i64 fy]) (fun k => w1.heap.size ≤ k ∧ k ≠ g5 ∧ k ≠ g7) [z]) := zh (HDv9.out.keep9 fun k _ h => setRow_other v9 g7 k _ h.2.2)
      refine hK.out _ _ HSz.out ?_
      clear hK K
      (try simp only [Act.put, zA4, zA5, zA6])
      refine Q2T ?_
      go_wp2
      go_meet
      case rel => exact ⟨z, m, fx, fy, g5, g7, rfl, rfl, rfl, Hg5z.out, Hg7z.out, HDz.out, HHN.out, HSz.out, hz5, hz7⟩
     ·(refine Q0H (zO rfl) ?_)
      intro K hK
      go_simp
      have hb : Below v1.heap.size v1 (v1.alloc (.cells #[.int .i64 0, .int .i64 0, .string ⟨#[]⟩, .slice none 0 0, .slice none 0 0] 29)) := (zB _ _).alloc (zL _) _
      have HSv2 := zh (HSv1.out.trans (hb.mono HSv1.out.size))
      have Hg5v2 := zh (RowAt.new v1 29 #[.int .i64 0, .int .i64 0, .string ⟨#[]⟩, .slice none 0 0, .slice none 0 0])
      have HZg5 := zh HSv1.out.size
      have Hg7v2 := zh (Hg7v1.out.below hb Hg7v1.out.lt)
      have HNE : Hid (g7 < v1.heap.size) := zh Hg7v1.out.lt
      clear hb
      refine hK.out _ _ HSv2.out ?_
      clear hK K
      (try simp only [Act.put, zA4, zA5, zA6])
      generalize hgb : v1.heap.size = g5 at *
      generalize (v1.alloc (.cells #[.int .i64 0, .int .i64 0, .string ⟨#[]⟩, .slice none 0 0, .slice none 0 0] 29)) = v2 at *
      clear hgb
      (refine Q0H (zO rfl) ?_)
      intro K hK
      go_simp
      refine (HC.out v2 HSv2.out).mono ?_
      rintro e' v3 ⟨z, m, fx, fy, rfl, hdn, hhn, hb⟩
      have HSv3 := zh (HSv2.out.trans (hb.mono HSv2.out.size))
      have hzv3 : w1.heap.size ≤ v2.heap.size := HSv2.out.size
      have HHN := zh hhn
      have hzzg7 := Hg7v2.out.lt
      have Hg7v3 := zh (Hg7v2.out.below hb Hg7v2.out.lt)
      have hzzg5 := Hg5v2.out.lt
      have Hg5v3 := zh (Hg5v2.out.below hb Hg5v2.out.lt)
      have HDv3 : Hid (DeepN v3 (fun k => w1.heap.size ≤ k ∧ k ≠ g5 ∧ k ≠ g7) [z]) := zh (hdn.weak fun k hk h => ⟨by omega, by omega, by omega⟩)
      clear hb hdn hhn
      refine hK.out _ _ HSv3.out ?_
      clear hK K
      (try simp only [Act.put, zA4, zA5, zA6])
      iterate 4
       (refine Q1y (zO rfl) ?_)
       (first
             | (refine Q1z (by rfl) ?_)
             | (refine Q1A (v := ?_) (by rfl) ?_ ?_; rotate_left 1; (intro wx hSx; have hc_0 := C0 wx hSx; have hc_1 := C1 wx hSx; go_simp; try with_reducible rfl)))
       (try simp only [Act.put, zA4, zA5, zA6])
      (refine Q0H (zO rfl) ?_)
      intro K hK
      have hne : g5 ≠ g7 := by have := HNE.out; omega
      have hz5 := HZg5.out
      have hz7 := HZg7.out
      rw [if_pos (by rfl)]
      refine wp_store_row _ _ _ rfl g5 (nv z) rfl rfl _ _ Hg5v3.out (Q0h _ _ _ _ _) rfl (by simp [nv, Value.oneCell']) ?_
      have HSv9 : Hid (Below w1.heap.size w1 (v3.setRow g5 (nv z))) := zh (HSv3.out.trans (below_setRow hz5 _))
      have Hg5v9 := zh (Hg5v3.out.setRow (nv z))
      have Hg7v9 : Hid (RowAt (v3.setRow g5 (nv z)) g7 33 #[.int .i64 0, .int .i64 0]) := zh ((setRow_other v3 g5 g7 _ (Ne.symm hne)).trans Hg7v3.out)
      have HDv9 : Hid (DeepN (v3.setRow g5 (nv z)) (fun k => w1.heap.size ≤ k ∧ k ≠ g5 ∧ k ≠ g7) [z]) := zh (HDv3.out.keep9 fun k _ h => setRow_other v3 g5 k _ h.2.1)
      refine hK.out _ _ HSv9.out ?_
      clear hK K
      (try simp only [Act.put, zA4, zA5, zA6])
      generalize v3.setRow g5 (nv z) = v9 at *
      iterate 1
       (refine Q1y (zO rfl) ?_)
       (first
             | (refine Q1z (by rfl) ?_)
             | (refine Q1A (v := ?_) (by rfl) ?_ ?_; rotate_left 1; (intro wx hSx; have hc_0 := C0 wx hSx; have hc_1 := C1 wx hSx; go_simp; try with_reducible rfl)))
       (try simp only [Act.put, zA4, zA5, zA6])
      (refine Q0H (zO rfl) ?_)
      intro K hK
      rw [if_pos (by rfl)]
      refine wp_store_row _ _ _ rfl g7 #[.int .i64 fx, .int .i64 fy] rfl rfl _ _ Hg7v9.out (Q06 _ _) rfl (by simp [Value.oneCell']) ?_
      have HSz : Hid (Below w1.heap.size w1 (v9.setRow g7 #[.int .i64 fx, .int .i64 fy])) := zh (HSv9.out.trans (below_setRow hz7 _))
      have Hg7z := zh (Hg7v9.out.setRow #[.int .i64 fx, .int .i64 fy])
      have Hg5z : Hid (RowAt (v9.setRow g7 #[.int .i64 fx, .int .i64 fy]) g5 29 (nv z)) := zh ((setRow_other v9 g7 g5 _ hne).trans Hg5v9.out)
      have HDz : Hid (DeepN (v9.setRow g7 #[.int .i64 fx, .int .i64 fy]) (fun k => w1.heap.size ≤ k ∧ k ≠ g5 ∧ k ≠ g7) [z]) := zh (HDv9.out.keep9 fun k _ h => setRow_other v9 g7 k _ h.2.2)
      refine hK.out _ _ HSz.out ?_
      clear hK K
      (try simp only [Act.put, zA4, zA5, zA6])
      refine Q2T ?_
      go_wp2
      go_meet
      case rel => exact ⟨z, m, fx, fy, g5, g7, rfl, rfl, rfl, Hg5z.out, Hg7z.out, HDz.out, HHN.out, HSz.out, hz5, hz7⟩
   case rest =>
    obtain ⟨z, m, fx, fy, g5, g7, rfl, rfl, rfl, H5, H7, HD, HHN, HB, hz5, hz7⟩ := hcut
    obtain ⟨hm, f2, rfl, rfl, hst⟩ := HHN.out.step
    rw [HLN.out] at hm
    have HST := zh hst
    have hcr := HC1.out.low HB.out hb1w
    have hcap := hcr.cap
    rw [HLN.out] at hcap
    have f0c := hcr.at_.free 0
    have f2c := hcr.at_.free 2
    have f3c := hcr.at_.free 3
    obtain ⟨b0, _, b2, b3⟩ := Q1e hcr.at_
    rw [HLN.out] at b0
    obtain ⟨x0, x1, x2, x3, x4, _, _, _, _, _⟩ := row5 H5.out
    obtain ⟨r0', r1', _, _⟩ := row2 H7.out
    have hwc : w1.heap.size ≤ wc.heap.size := HB.out.size
    have hbwc : b < wc.heap.size := by omega
    have HMC : Hid (Mv b w wc) := zh (HM1.out.trans (Mv.below hb1w HB.out))
    have HGC := zh (HG1.out.below HB.out hz1)
    have HEND : Hid (∀ A2 c2, A2 = advA A c m → c2 = c - m → ∀ W, W = (((wc.setCell ⟨b, 0, none⟩ (.slice A2 (ln - m) c2)).setCell ⟨b, 2, none⟩ (.int .i64 (fc f2))).setCell ⟨b, 3, none⟩ (.int .i64 (fa f2))).drew →
     (RowAt W g5 29 (nv z) ∧ RowAt W w.heap.size 29 #[.int .i64 0, .int .i64 0, .string ⟨#[]⟩, .slice none 0 0, .slice none 0 0]) ∧ ∀ V, V = set5 W w.heap.size (.int .i64 z.k) (.int .i64 z.p) (.string z.s) (.slice z.A z.ws.length z.c) (.slice z.B z.ks.length z.d) →
     RowAt V w.heap.size 29 (nv z) ∧ Q' (.returned (.agg (nv z))) V) := zh fun A2 c2 hA hc W hW => by
        subst hA hc
        have hmw : Mv b wc W := by
         rw [hW]
         exact ((((Mv.refl b wc).setCell (p := ⟨b, 0, none⟩) (.inl rfl) hbwc _).setCell (p := ⟨b, 2, none⟩) (.inl rfl) hbwc _).setCell (p := ⟨b, 3, none⟩) (.inl rfl) hbwc _).drew
        have hrow : CrAt W b (advA A c m) (l.drop m).length (c - m) e (fc f2) (fa f2) := by
         rw [List.length_drop, HLN.out, hW]
         exact (((hcr.at_.put 0 (.slice (advA A c m) (ln - m) (c - m))).put 2 (.int .i64 (fc f2))).put 3 (.int .i64 (fa f2))).drew
        have hcr2 := hcr.mv hmw hrow (hcr.trs.drop hcr.cap m) (hcr.len.drop m) (by rw [List.length_drop]; have := hcr.cap; omega)
        have h5 := H5.out.mv hmw (by omega)
        have hg := HGC.out.mv hmw (by omega)
        refine ⟨⟨h5, hg⟩, fun V hV => ?_⟩
        subst hV
        have hb5 : Below w.heap.size W (set5 W w.heap.size (.int .i64 z.k) (.int .i64 z.p) (.string z.s) (.slice z.A z.ws.length z.c) (.slice z.B z.ks.length z.d)) := Q1Q (zL _)
        refine ⟨Q0T hg, HQ.out _ _ ⟨z, _, _, _, f2, rfl, ?_, hcr2.low hb5 hbw, (HMC.out.trans hmw).onBelow hbw hb5 (zL _), HST.out⟩⟩
        refine (((HD.out.weak (ok' := fun k => w1.heap.size ≤ k) fun k _ h => h.1).keep9 fun k hk h => hmw.block k hk (by omega)).keep9 fun k _ h => Q1I (by omega)).weak fun k _ h => by omega
    clear hcr HC1 HST HHN HMC HD hst
    have hmi : (m : Int) ≤ (ln : Int) := by omega
    have hne5 : ¬ g5 = b := by omega
    have hne7 : ¬ g7 = b := by omega
    go_upto_region 4 with fail
    by_cases hcm : c = m
    ·have HA : Hid (A = advA A c m) := zh (by unfold advA; rw [if_pos hcm])
     have HCE : Hid (0 = c - m) := zh (by show _ = _; omega)
     subst hcm
     have hlm : ln - c = 0 := by omega
     have HEND := HEND.out
     rw [hlm] at HEND
     have HEND := zh HEND
     clear hlm
     go_region
     obtain ⟨⟨h5, hg⟩, hV⟩ := HEND.out A 0 HA.out HCE.out _ rfl
     have HV := zh (hV _ rfl)
     obtain ⟨zk, zp, zs, zA, zc, zw, zBq, zd, zz⟩ := z
     unfold nv at h5 HV
     simp only [Nd.k, Nd.p, Nd.s, Nd.A, Nd.c, Nd.ws, Nd.B, Nd.d, Nd.ks] at h5 HV
     clear b0 b2 b3 x0 x1 x2 x3 x4 r0' r1' HEND hV
     generalize (((wc.setCell ⟨b, 0, none⟩ (.slice A 0 0)).setCell ⟨b, 2, none⟩ (.int .i64 (fc f2))).setCell ⟨b, 3, none⟩ (.int .i64 (fa f2))).drew = W at *
     obtain ⟨x0, x1, x2, x3, x4, _, _, _, _, _⟩ := row5 h5
     obtain ⟨g0, g1, g2, g3, g4, u0, u1, u2, u3, u4⟩ := row5 hg
     go_wp2_with fail
     exact bodyPost_ret (Q04 rfl _ _ w.heap.size _ _ (0, 0) _ rfl HV.out.1 Tryz.underlying29 rfl (Q0h _ _ _ _ _)) rfl HV.out.2
    ·have HA : Hid (Option.map (fun x => x.add (m * 5)) A = advA A c m) := zh (by unfold advA; rw [if_neg hcm])
     go_region
     obtain ⟨⟨h5, hg⟩, hV⟩ := HEND.out _ (c - m) HA.out rfl _ rfl
     have HV := zh (hV _ rfl)
     obtain ⟨zk, zp, zs, zA, zc, zw, zBq, zd, zz⟩ := z
     unfold nv at h5 HV
     simp only [Nd.k, Nd.p, Nd.s, Nd.A, Nd.c, Nd.ws, Nd.B, Nd.d, Nd.ks] at h5 HV
     clear b0 b2 b3 x0 x1 x2 x3 x4 r0' r1' HEND hV
     generalize (((wc.setCell ⟨b, 0, none⟩ (.slice (Option.map (fun x => x.add (m * 5)) A) (ln - m) (c - m))).setCell ⟨b, 2, none⟩ (.int .i64 (fc f2))).setCell ⟨b, 3, none⟩ (.int .i64 (fa f2))).drew = W at *
     obtain ⟨x0, x1, x2, x3, x4, _, _, _, _, _⟩ := row5 h5
     obtain ⟨g0, g1, g2, g3, g4, u0, u1, u2, u3, u4⟩ := row5 hg
     go_wp2_with fail
     exact bodyPost_ret (Q04 rfl _ _ w.heap.size _ _ (0, 0) _ rfl HV.out.1 Tryz.underlying29 rfl (Q0h _ _ _ _ _)) rfl HV.out.2
end
section
open Go.RowKit LX TR TM CM
section
variable {D : Nat} {w : World} {b : Nat} {A : Option Addr} {c : Nat} {l : List Tr} {e : Int} {f : Option Int}
theorem Q9m (hD : 1 ≤ D) (hD2 : D ≤ 4294967296) (h : Cr w b A c l e f) (hN : (nodes l).length ≤ D - 1) :
 Calls Tryz.prog 114 #[.pointer (some ⟨b, 0, none⟩), .func (.func 115) #[] #[]] w fun e' w' => ∃ z A2 c2 l2 f2, e' = .returned (.agg (nv z)) ∧ DeepN w' (fun k => w.heap.size ≤ k) [z] ∧ Cr w' b A2 c2 l2 e f2 ∧ Mv b w w' ∧ StepL (Q09 D) l e f (er1 z) l2 f2 := by
 obtain ⟨D, rfl⟩ : ∃ k, D = k + 1 := ⟨D - 1, by omega⟩
 exact Q6B (fun args w => by kernel_rfl) (fun A c l i e w h1 h2 h3 => Qdg D (by omega) A c l i e w h1 h2 h3) h hN
theorem Q9n (hD : 1 ≤ D) (hD2 : D ≤ 4294967296) (h : Cr w b A c l e f) (hN : (nodes l).length ≤ D - 1) :
 Calls Tryz.prog 114 #[.pointer (some ⟨b, 0, none⟩), .func (.func 116) #[] #[]] w fun e' w' => ∃ z A2 c2 l2 f2, e' = .returned (.agg (nv z)) ∧ DeepN w' (fun k => w.heap.size ≤ k) [z] ∧ Cr w' b A2 c2 l2 e f2 ∧ Mv b w w' ∧ StepL (rowR D) l e f (er1 z) l2 f2 := by
 obtain ⟨D, rfl⟩ : ∃ k, D = k + 1 := ⟨D - 1, by omega⟩
 exact Q6B (fun args w => by kernel_rfl) (fun A c l i e w h1 h2 h3 => Qdh D (by omega) A c l i e w h1 h2 h3) h hN
end
namespace CM
def Hold (op : Nat) (p : Int) (x : Cm) (s : Cs) : Prop := x.op = op ∧ x.p = p ∧ x.n = s.n ∧ x.ws = s.ws ∧ x.ps = s.ps ∧ x.pp = s.pp ∧ er1 x.r = s.ts.getLastD n0 ∧ er1 x.l = s.ts.dropLast.getLastD n0
end CM
structure DeepC (w : World) (ok : Nat → Prop) (x : Cm) : Prop where
 ws : SlC w ok x.A (wcs x.ws)
 wc : x.ws.length ≤ x.c
 ps : SlC w ok x.B (pwcs x.ps)
 pc : x.ps.length ≤ x.d
 l : DeepN w ok [x.l]
 r : DeepN w ok [x.r]
section
variable {w w' : World} {ok ok' : Nat → Prop} {x : Cm} {b g B : Nat}
theorem DeepC.keep9 (h : DeepC w ok x) (hk : ∀ k, k < w.heap.size → ok k → w'.heap[k]? = w.heap[k]?) : DeepC w' ok x := ⟨h.ws.keep9 hk, h.wc, h.ps.keep9 hk, h.pc, h.l.keep9 hk, h.r.keep9 hk⟩
theorem DeepC.weak (h : DeepC w ok x) (hk : ∀ k, k < w.heap.size → ok k → ok' k) : DeepC w ok' x := ⟨h.ws.weak hk, h.wc, h.ps.weak hk, h.pc, h.l.weak hk, h.r.weak hk⟩
theorem DeepC.mv (h : DeepC w (fun k => B ≤ k ∧ k ≠ b ∧ k ≠ g) x) (hm : Mv2 b g w w') : DeepC w' (fun k => B ≤ k ∧ k ≠ b ∧ k ≠ g) x := h.keep9 fun k hk ho => hm.block k hk ho.2.1 ho.2.2
theorem Mv.two2 (h : Mv b w w') : Mv2 b g w w' := h.two g
end
theorem Q01 (x : Cm) : (Tryz.prog.info? 31).map (·.size) = some (cv x).size := by kernel_rfl
def Q2o (w : World) (b g B D op : Nat) (p : Int) (k : Nat) (s : Cs) (l : List Tr) (e : Int) (f : Option Int) (e' : Ending) (w' : World) : Prop :=
 ∃ (x2 : Cm) (A2 : Option Addr) (c2 : Nat) (l2 : List Tr) (f2 : Option Int) (s2 : Cs), e' = .returned (.tuple #[]) ∧ Cr w' b A2 c2 l2 e f2 ∧ RowAt w' g 31 (cv x2) ∧ DeepC w' (fun k => B ≤ k ∧ k ≠ b ∧ k ≠ g) x2 ∧ Mv2 b g w w' ∧ StepL (Q0b D k s) l e f s2 l2 f2 ∧ (f2 = none → Hold op p x2 s2)
section
variable {w w' : World} {b g B D : Nat} {x : Cm}
theorem Mv2.puts (h : Mv2 b g w w') (hbg : b < g) (ys : List Value) (o : Nat) : Mv2 b g w (w'.setCells g o ys) :=
 ⟨h.low.trans (Q1i (Nat.le_of_lt hbg) o ys), fun k hk h1 h2 => (Q0j w' g o ys k h2).trans (h.block k hk h1 h2)⟩
theorem Cr.puts {c : Nat} {A : Option Addr} {l : List Tr} {e : Int} {f : Option Int} (h : Cr w b A c l e f) (hbg : b < g) (ys : List Value) (o : Nat) : Cr (w.setCells g o ys) b A c l e f := h.low (Q1i (zL g) o ys) hbg
theorem DeepC.puts (h : DeepC w (fun k => B ≤ k ∧ k ≠ b ∧ k ≠ g) x) (_ : b < g) (ys : List Value) (o : Nat) : DeepC (w.setCells g o ys) (fun k => B ≤ k ∧ k ≠ b ∧ k ≠ g) x := h.keep9 fun k _ ho => Q0j w g o ys k ho.2.2
def putL (cs : Array Value) (o : Nat) : List Value → Array Value
 | [] => cs
 | y :: ys => putL (cs.setIfInBounds o y) (o + 1) ys
theorem RowAt.puts {t : TypeId} {cs : Array Value} (h : RowAt w g t cs) (ys : List Value) (o : Nat) : RowAt (w.setCells g o ys) g t (putL cs o ys) := by
 induction ys generalizing w cs o with
 | nil => exact h
 | cons y ys ih => exact ih (h.put o y) (o + 1)
theorem RowAt.there9 {t : TypeId} {cs : Array Value} (h : RowAt w g t cs) {o n : Nat} (hn : o + n ≤ cs.size) : w.there g o n := fun j hj => ⟨by rw [h.cell, Array.getElem?_eq_getElem (by omega)]; rfl, h.free _⟩
end
theorem StepL.none {α : Type} {rd : Rdr α} {l l2 : List Tr} {e : Int} {f f2 : Option Int} {x : α} (h : StepL rd l e f x l2 f2) (hf : f2 = none) : f = none := by
 cases f with
 | none => rfl
 | some p => have := h.bad p rfl; rw [hf] at this; cases this
section
variable {D op : Nat} {p : Int} {l l2 : List Tr} {e : Int} {f f2 : Option Int} {s : Cs} {x : Cm}
theorem Q9o {y : Wd} (h : StepL Q05 l e f y l2 f2) : StepL (Q0b D 110 s) l e f ⟨y, s.ws, s.ps, s.pp, s.ts⟩ l2 f2 := h.map (fun y => (⟨y, s.ws, s.ps, s.pp, s.ts⟩ : Cs))
theorem Q9p {y : Wd} (h : StepL Q05 l e f y l2 f2) : StepL (Q0b D 102 s) l e f ⟨s.n, [y], s.ps, s.pp, s.ts⟩ l2 f2 := h.map (fun y => (⟨s.n, [y], s.ps, s.pp, s.ts⟩ : Cs))
theorem Q9q {y : List Wd} (h : StepL Q0K l e f y l2 f2) : StepL (Q0b D 119 s) l e f ⟨s.n, y, s.ps, s.pp, s.ts⟩ l2 f2 := h.map (fun y => (⟨s.n, y, s.ps, s.pp, s.ts⟩ : Cs))
theorem Q9r {y : List Pw × Int} (h : StepL prsA l e f y l2 f2) : StepL (Q0b D 112 s) l e f ⟨s.n, s.ws, y.1, y.2, s.ts⟩ l2 f2 := by
 have h1 := h.map (fun y => (⟨s.n, s.ws, y.1, y.2, s.ts⟩ : Cs))
 have e1 : ∀ ts e, bnd (prsA ts e) (fun y r => .ok ((⟨s.n, s.ws, y.1, y.2, s.ts⟩ : Cs), r)) = Q0b D 112 s ts e := fun ts e => by
  unfold prsA Q0b
  rw [if_neg (by decide), if_neg (by decide), if_neg (by decide), if_pos rfl]
  cases prsR ts e with
  | error p => rfl
  | ok yr => rfl
 exact ⟨h1.suf, h1.bad, fun hf => by have h2 := h1.good hf; rw [e1] at h2; exact h2⟩
theorem Q6C {z : Nd} (h : StepL (rowR D) l e f z l2 f2) : StepL (Q0b D 114 s) l e f ⟨s.n, s.ws, s.ps, s.pp, s.ts ++ [z]⟩ l2 f2 := h.map (fun z => (⟨s.n, s.ws, s.ps, s.pp, s.ts ++ [z]⟩ : Cs))
theorem Q6D {z : Nd} (h : StepL (Q09 D) l e f z l2 f2) : StepL (Q0b D 116 s) l e f ⟨s.n, s.ws, s.ps, s.pp, s.ts ++ [z]⟩ l2 f2 := h.map (fun z => (⟨s.n, s.ws, s.ps, s.pp, s.ts ++ [z]⟩ : Cs))
theorem Q9s {y : Wd} (h : Hold op p x s) : Hold op p ⟨x.op, x.p, y, x.A, x.c, x.ws, x.B, x.d, x.ps, x.pp, x.l, x.r⟩ ⟨y, s.ws, s.ps, s.pp, s.ts⟩ := ⟨h.1, h.2.1, rfl, h.2.2.2.1, h.2.2.2.2.1, h.2.2.2.2.2.1, h.2.2.2.2.2.2⟩
theorem Q6E {Y : Option Addr} {cy : Nat} {y : List Wd} (h : Hold op p x s) : Hold op p ⟨x.op, x.p, x.n, Y, cy, y, x.B, x.d, x.ps, x.pp, x.l, x.r⟩ ⟨s.n, y, s.ps, s.pp, s.ts⟩ := ⟨h.1, h.2.1, h.2.2.1, rfl, h.2.2.2.2.1, h.2.2.2.2.2.1, h.2.2.2.2.2.2⟩
theorem Q9t {Y : Option Addr} {cy : Nat} {y : Wd} (h : Hold op p x s) : Hold op p ⟨x.op, x.p, x.n, Y, cy, [y], x.B, x.d, x.ps, x.pp, x.l, x.r⟩ ⟨s.n, [y], s.ps, s.pp, s.ts⟩ := Q6E h
theorem Q9u {Y : Option Addr} {cy : Nat} {y : List Pw × Int} (h : Hold op p x s) : Hold op p ⟨x.op, x.p, x.n, x.A, x.c, x.ws, Y, cy, y.1, y.2, x.l, x.r⟩ ⟨s.n, s.ws, y.1, y.2, s.ts⟩ := ⟨h.1, h.2.1, h.2.2.1, h.2.2.2.1, rfl, rfl, h.2.2.2.2.2.2⟩
theorem Mv2.drew0 {w w' : World} {b g : Nat} (h : Mv2 b g w.drew w') : Mv2 b g w w' := ⟨⟨h.low.os, h.low.tape, h.low.output, h.low.size, h.low.block⟩, h.block⟩
theorem Q3W {z : Nd} (h : Hold op p x s) : Hold op p ⟨x.op, x.p, x.n, x.A, x.c, x.ws, x.B, x.d, x.ps, x.pp, x.r, z⟩ ⟨s.n, s.ws, s.ps, s.pp, s.ts ++ [er1 z]⟩ :=
 ⟨h.1, h.2.1, h.2.2.1, h.2.2.2.1, h.2.2.2.2.1, h.2.2.2.2.2.1, by simp, by rw [List.dropLast_concat]; exact h.2.2.2.2.2.2.1⟩
end
theorem Q9v {w : World} {b g B D op : Nat} {p : Int} {A : Option Addr} {c : Nat} {l : List Tr} {e : Int} {f : Option Int} {x : Cm} {s : Cs} (h : Cr w b A c l e f) (hr : RowAt w g 31 (cv x)) (hd : DeepC w (fun k => B ≤ k ∧ k ≠ b ∧ k ≠ g) x) (hB : B ≤ w.heap.size) (hg : b < g) (hx : f = none → Hold op p x s) :
 Calls Tryz.prog 71 #[.pointer (some ⟨b, 0, none⟩), .pointer (some ⟨g, 0, none⟩), .int .u8 110] w fun e' w' => Q2o w b g B D op p 110 s l e f e' w' := by
 have hbw := h.lt
 have hgb : g ≠ b := by omega
 have hgw := hr.lt
 refine Q0e fun Q' hQ => ?_
 have HQ := zh hQ; clear hQ
 have HC := zh (Q3Z _ _ _ _ _ _ _ h)
 have HX := zh hx
 go_enter Tryz.func71, Tryz.ntmps71
 go_wp2_with fail
 refine HC.out.mono ?_
 rintro e' w1 ⟨v, y, A2, c2, l2, f2, rfl, rfl, hs, hm, hst⟩
 have hr1 := hr.mv hm hgb
 have hd1 := hd.mv (hm.two2 (g := g))
 have hm1 := hm.two2 (g := g)
 have hnew : w.heap.size ≤ w1.heap.size := hm.size
 unfold wv
 have q2 : w1.cell? ⟨g, 2, none⟩ = some (.string x.n.s) := (RowAt.cell hr1 2).trans rfl
 have u2 := RowAt.free hr1 2
 have q3 : w1.cell? ⟨g, 3, none⟩ = some (.int .i64 x.n.p) := (RowAt.cell hr1 3).trans rfl
 have u3 := RowAt.free hr1 3
 have HR2 : Hid (RowAt (w1.setCells g 2 [.string y.s, .int .i64 y.p]) g 31 (cv (⟨x.op, x.p, y, x.A, x.c, x.ws, x.B, x.d, x.ps, x.pp, x.l, x.r⟩ : Cm))) := zh ((hr1.puts [.string y.s, .int .i64 y.p] 2))
 have HM2 : Hid (Mv2 b g w (w1.setCells g 2 [.string y.s, .int .i64 y.p])) := zh ((hm1.puts hg [.string y.s, .int .i64 y.p] 2))
 have HS2 : Hid (Cr (w1.setCells g 2 [.string y.s, .int .i64 y.p]) b A2 c2 l2 e f2) := zh ((hs.puts hg [.string y.s, .int .i64 y.p] 2))
 have hd2 : DeepC (w1.setCells g 2 [.string y.s, .int .i64 y.p]) (fun k => B ≤ k ∧ k ≠ b ∧ k ≠ g) x := (hd1.puts hg [.string y.s, .int .i64 y.p] 2)
 have HD2 : Hid (DeepC (w1.setCells g 2 [.string y.s, .int .i64 y.p]) (fun k => B ≤ k ∧ k ≠ b ∧ k ≠ g) (⟨x.op, x.p, y, x.A, x.c, x.ws, x.B, x.d, x.ps, x.pp, x.l, x.r⟩ : Cm)) := zh (⟨hd2.ws, hd2.wc, hd2.ps, hd2.pc, hd2.l, hd2.r⟩)
 have HST := zh hst
 clear hs hm hst hr hd h hr1 hd1 hd2 hm1 HC hx
 go_wp2_with fail
 exact bodyPost_ret (results_none rfl _ _ _) rfl (HQ.out _ _ ⟨(⟨x.op, x.p, y, x.A, x.c, x.ws, x.B, x.d, x.ps, x.pp, x.l, x.r⟩ : Cm), A2, c2, l2, f2, ⟨y, s.ws, s.ps, s.pp, s.ts⟩, rfl, HS2.out, HR2.out, HD2.out, HM2.out, Q9o HST.out, fun hf => Q9s (HX.out (HST.out.none hf))⟩)
theorem Q9w {w : World} {b g B D op : Nat} {p : Int} {A : Option Addr} {c : Nat} {l : List Tr} {e : Int} {f : Option Int} {x : Cm} {s : Cs} (h : Cr w b A c l e f) (hr : RowAt w g 31 (cv x)) (hd : DeepC w (fun k => B ≤ k ∧ k ≠ b ∧ k ≠ g) x) (hB : B ≤ w.heap.size) (hg : b < g) (hx : f = none → Hold op p x s) :
 Calls Tryz.prog 71 #[.pointer (some ⟨b, 0, none⟩), .pointer (some ⟨g, 0, none⟩), .int .u8 119] w fun e' w' => Q2o w b g B D op p 119 s l e f e' w' := by
 have hbw := h.lt
 have hgb : g ≠ b := by omega
 have hgw := hr.lt
 refine Q0e fun Q' hQ => ?_
 have HQ := zh hQ; clear hQ
 have HC := zh (Q9W _ _ _ _ _ _ _ h)
 have HX := zh hx
 go_enter Tryz.func71, Tryz.ntmps71
 go_wp2_with fail
 refine HC.out.mono ?_
 rintro e' w1 ⟨v, y, A2, c2, l2, f2, rfl, ⟨Y, cy, rfl, hcy, hsl⟩, hs, hm, hst⟩
 have hr1 := hr.mv hm hgb
 have hd1 := hd.mv (hm.two2 (g := g))
 have hm1 := hm.two2 (g := g)
 have hnew : w.heap.size ≤ w1.heap.size := hm.size
 have q4 : w1.cell? ⟨g, 4, none⟩ = some (.slice x.A x.ws.length x.c) := (RowAt.cell hr1 4).trans rfl
 have u4 := RowAt.free hr1 4
 have HR2 : Hid (RowAt (w1.setCells g 4 [.slice Y y.length cy]) g 31 (cv (⟨x.op, x.p, x.n, Y, cy, y, x.B, x.d, x.ps, x.pp, x.l, x.r⟩ : Cm))) := zh ((hr1.puts [.slice Y y.length cy] 4))
 have HM2 : Hid (Mv2 b g w (w1.setCells g 4 [.slice Y y.length cy])) := zh ((hm1.puts hg [.slice Y y.length cy] 4))
 have HS2 : Hid (Cr (w1.setCells g 4 [.slice Y y.length cy]) b A2 c2 l2 e f2) := zh ((hs.puts hg [.slice Y y.length cy] 4))
 have hd2 : DeepC (w1.setCells g 4 [.slice Y y.length cy]) (fun k => B ≤ k ∧ k ≠ b ∧ k ≠ g) x := (hd1.puts hg [.slice Y y.length cy] 4)
 have HD2 : Hid (DeepC (w1.setCells g 4 [.slice Y y.length cy]) (fun k => B ≤ k ∧ k ≠ b ∧ k ≠ g) (⟨x.op, x.p, x.n, Y, cy, y, x.B, x.d, x.ps, x.pp, x.l, x.r⟩ : Cm)) := zh (⟨((hsl.weak (ok' := fun k => B ≤ k ∧ k ≠ b ∧ k ≠ g) fun k _ hk => ⟨by omega, by omega, by omega⟩).keep9 fun k _ ho => Q0j _ _ _ _ k ho.2.2), hcy, hd2.ps, hd2.pc, hd2.l, hd2.r⟩)
 have HST := zh hst
 clear hs hm hst hr hd h hr1 hd1 hd2 hm1 HC hx
 go_wp2_with fail
 exact bodyPost_ret (results_none rfl _ _ _) rfl (HQ.out _ _ ⟨(⟨x.op, x.p, x.n, Y, cy, y, x.B, x.d, x.ps, x.pp, x.l, x.r⟩ : Cm), A2, c2, l2, f2, ⟨s.n, y, s.ps, s.pp, s.ts⟩, rfl, HS2.out, HR2.out, HD2.out, HM2.out, Q9q HST.out, fun hf => Q6E (HX.out (HST.out.none hf))⟩)
theorem Q9x {w : World} {b g B D op : Nat} {p : Int} {A : Option Addr} {c : Nat} {l : List Tr} {e : Int} {f : Option Int} {x : Cm} {s : Cs} (h : Cr w b A c l e f) (hr : RowAt w g 31 (cv x)) (hd : DeepC w (fun k => B ≤ k ∧ k ≠ b ∧ k ≠ g) x) (hB : B ≤ w.heap.size) (hg : b < g) (hx : f = none → Hold op p x s) :
 Calls Tryz.prog 71 #[.pointer (some ⟨b, 0, none⟩), .pointer (some ⟨g, 0, none⟩), .int .u8 112] w fun e' w' => Q2o w b g B D op p 112 s l e f e' w' := by
 have hbw := h.lt
 have hgb : g ≠ b := by omega
 have hgw := hr.lt
 refine Q0e fun Q' hQ => ?_
 have HQ := zh hQ; clear hQ
 have HC := zh (Q9N _ _ _ _ _ _ _ h)
 have HX := zh hx
 go_enter Tryz.func71, Tryz.ntmps71
 go_wp2_with fail
 refine HC.out.mono ?_
 rintro e' w1 ⟨v, y, A2, c2, l2, f2, rfl, ⟨Y, cy, rfl, hcy, hsl⟩, hs, hm, hst⟩
 have hr1 := hr.mv hm hgb
 have hd1 := hd.mv (hm.two2 (g := g))
 have hm1 := hm.two2 (g := g)
 have hnew : w.heap.size ≤ w1.heap.size := hm.size
 have q5 : w1.cell? ⟨g, 5, none⟩ = some (.slice x.B x.ps.length x.d) := (RowAt.cell hr1 5).trans rfl
 have u5 := RowAt.free hr1 5
 have q6 : w1.cell? ⟨g, 6, none⟩ = some (.int .i64 x.pp) := (RowAt.cell hr1 6).trans rfl
 have u6 := RowAt.free hr1 6
 have HR2 : Hid (RowAt ((w1.setCells g 5 [.slice Y y.1.length cy]).setCells g 6 [.int .i64 y.2]) g 31 (cv (⟨x.op, x.p, x.n, x.A, x.c, x.ws, Y, cy, y.1, y.2, x.l, x.r⟩ : Cm))) := zh (((hr1.puts [.slice Y y.1.length cy] 5).puts [.int .i64 y.2] 6))
 have HM2 : Hid (Mv2 b g w ((w1.setCells g 5 [.slice Y y.1.length cy]).setCells g 6 [.int .i64 y.2])) := zh (((hm1.puts hg [.slice Y y.1.length cy] 5).puts hg [.int .i64 y.2] 6))
 have HS2 : Hid (Cr ((w1.setCells g 5 [.slice Y y.1.length cy]).setCells g 6 [.int .i64 y.2]) b A2 c2 l2 e f2) := zh (((hs.puts hg [.slice Y y.1.length cy] 5).puts hg [.int .i64 y.2] 6))
 have hd2 : DeepC ((w1.setCells g 5 [.slice Y y.1.length cy]).setCells g 6 [.int .i64 y.2]) (fun k => B ≤ k ∧ k ≠ b ∧ k ≠ g) x := ((hd1.puts hg [.slice Y y.1.length cy] 5).puts hg [.int .i64 y.2] 6)
 have HD2 : Hid (DeepC ((w1.setCells g 5 [.slice Y y.1.length cy]).setCells g 6 [.int .i64 y.2]) (fun k => B ≤ k ∧ k ≠ b ∧ k ≠ g) (⟨x.op, x.p, x.n, x.A, x.c, x.ws, Y, cy, y.1, y.2, x.l, x.r⟩ : Cm)) := zh (⟨hd2.ws, hd2.wc, (((hsl.weak (ok' := fun k => B ≤ k ∧ k ≠ b ∧ k ≠ g) fun k _ hk => ⟨by omega, by omega, by omega⟩).keep9 fun k _ ho => Q0j _ _ _ _ k ho.2.2).keep9 fun k _ ho => Q0j _ _ _ _ k ho.2.2), hcy, hd2.l, hd2.r⟩)
 have HST := zh hst
 clear hs hm hst hr hd h hr1 hd1 hd2 hm1 HC hx
 go_wp2_with fail
 exact bodyPost_ret (results_none rfl _ _ _) rfl (HQ.out _ _ ⟨(⟨x.op, x.p, x.n, x.A, x.c, x.ws, Y, cy, y.1, y.2, x.l, x.r⟩ : Cm), A2, c2, l2, f2, ⟨s.n, s.ws, y.1, y.2, s.ts⟩, rfl, HS2.out, HR2.out, HD2.out, HM2.out, Q9r HST.out, fun hf => Q9u (HX.out (HST.out.none hf))⟩)
theorem Q9y {w : World} {b g B D op : Nat} {p : Int} {A : Option Addr} {c : Nat} {l : List Tr} {e : Int} {f : Option Int} {x : Cm} {s : Cs} (h : Cr w b A c l e f) (hr : RowAt w g 31 (cv x)) (hd : DeepC w (fun k => B ≤ k ∧ k ≠ b ∧ k ≠ g) x) (hB : B ≤ w.heap.size) (hg : b < g) (hx : f = none → Hold op p x s) :
 Calls Tryz.prog 71 #[.pointer (some ⟨b, 0, none⟩), .pointer (some ⟨g, 0, none⟩), .int .u8 102] w fun e' w' => Q2o w b g B D op p 102 s l e f e' w' := by
 have hbw := h.lt
 have hgb : g ≠ b := by omega
 have hgw := hr.lt
 refine Q0e fun Q' hQ => ?_
 have HQ := zh hQ; clear hQ
 have HC := zh (Q3Z _ _ _ _ _ _ _ h)
 have HX := zh hx
 go_enter Tryz.func71, Tryz.ntmps71
 go_wp2_with fail
 refine HC.out.mono ?_
 rintro e' w1 ⟨v, y, A2, c2, l2, f2, rfl, rfl, hs, hm, hst⟩
 have hr1 := hr.mv hm hgb
 have hd1 := hd.mv (hm.two2 (g := g))
 have hm1 := hm.two2 (g := g)
 have hnew : w.heap.size ≤ w1.heap.size := hm.size
 have hb1 : Below w1.heap.size w1 (w1.alloc (.cells #[.string y.s, .int .i64 y.p] 24)) := (zB _ _).alloc (zL _) _
 have hN := RowAt.new w1 24 #[.string y.s, .int .i64 y.p]
 have hs := hs.below hb1
 have hm1 := hm1.trans (Mv.two2 (g := g) (Mv.below (by have := hm.size; omega) hb1))
 have hr1 := hr1.below hb1 hr1.lt
 have hd1 := hd1.keep9 fun k hk _ => hb1.block k hk
 have hNE : w1.heap.size ≠ g := by omega
 unfold wv
 have q4 : (w1.alloc (.cells #[.string y.s, .int .i64 y.p] 24)).cell? ⟨g, 4, none⟩ = some (.slice x.A x.ws.length x.c) := (RowAt.cell hr1 4).trans rfl
 have u4 := RowAt.free hr1 4
 have HR2 : Hid (RowAt ((w1.alloc (.cells #[.string y.s, .int .i64 y.p] 24)).setCells g 4 [.slice (some ⟨w1.heap.size, 0, none⟩) 1 1]) g 31 (cv (⟨x.op, x.p, x.n, some ⟨w1.heap.size, 0, none⟩, 1, [y], x.B, x.d, x.ps, x.pp, x.l, x.r⟩ : Cm))) := zh ((hr1.puts [.slice (some ⟨w1.heap.size, 0, none⟩) 1 1] 4))
 have HM2 : Hid (Mv2 b g w ((w1.alloc (.cells #[.string y.s, .int .i64 y.p] 24)).setCells g 4 [.slice (some ⟨w1.heap.size, 0, none⟩) 1 1])) := zh ((hm1.puts hg [.slice (some ⟨w1.heap.size, 0, none⟩) 1 1] 4))
 have HS2 : Hid (Cr ((w1.alloc (.cells #[.string y.s, .int .i64 y.p] 24)).setCells g 4 [.slice (some ⟨w1.heap.size, 0, none⟩) 1 1]) b A2 c2 l2 e f2) := zh ((hs.puts hg [.slice (some ⟨w1.heap.size, 0, none⟩) 1 1] 4))
 have hd2 : DeepC ((w1.alloc (.cells #[.string y.s, .int .i64 y.p] 24)).setCells g 4 [.slice (some ⟨w1.heap.size, 0, none⟩) 1 1]) (fun k => B ≤ k ∧ k ≠ b ∧ k ≠ g) x := (hd1.puts hg [.slice (some ⟨w1.heap.size, 0, none⟩) 1 1] 4)
 have HD2 : Hid (DeepC ((w1.alloc (.cells #[.string y.s, .int .i64 y.p] 24)).setCells g 4 [.slice (some ⟨w1.heap.size, 0, none⟩) 1 1]) (fun k => B ≤ k ∧ k ≠ b ∧ k ≠ g) (⟨x.op, x.p, x.n, some ⟨w1.heap.size, 0, none⟩, 1, [y], x.B, x.d, x.ps, x.pp, x.l, x.r⟩ : Cm)) := zh (⟨fun _ => ⟨w1.heap.size, 0, rfl, by rw [setCells_size]; exact hN.lt, ⟨by omega, by omega, hNE⟩, fun j u hu => by rw [Nat.zero_add]; exact (RowAt.cell (show RowAt _ w1.heap.size 24 _ from (Q0j _ g 4 _ w1.heap.size hNE).trans hN) j).trans (by simpa [wcs, Q0X] using hu)⟩, zL _, hd2.ps, hd2.pc, hd2.l, hd2.r⟩)
 have HST := zh hst
 clear hs hm hst hr hd h hr1 hd1 hd2 hm1 HC hx
 go_wp2_with fail
 exact bodyPost_ret (results_none rfl _ _ _) rfl (HQ.out _ _ ⟨(⟨x.op, x.p, x.n, some ⟨w1.heap.size, 0, none⟩, 1, [y], x.B, x.d, x.ps, x.pp, x.l, x.r⟩ : Cm), A2, c2, l2, f2, ⟨s.n, [y], s.ps, s.pp, s.ts⟩, rfl, HS2.out, HR2.out, HD2.out, HM2.out, Q9p HST.out, fun hf => Q9t (HX.out (HST.out.none hf))⟩)
theorem Q9z {w : World} {b g B D op : Nat} {p : Int} {A : Option Addr} {c : Nat} {l : List Tr} {e : Int} {f : Option Int} {x : Cm} {s : Cs} (h : Cr w b A c l e f) (hr : RowAt w g 31 (cv x)) (hd : DeepC w (fun k => B ≤ k ∧ k ≠ b ∧ k ≠ g) x) (hB : B ≤ w.heap.size) (hg : b < g) (hx : f = none → Hold op p x s) (hN : (nodes l).length ≤ D - 1) (hD : 1 ≤ D) (hD2 : D ≤ 4294967296) :
 Calls Tryz.prog 71 #[.pointer (some ⟨b, 0, none⟩), .pointer (some ⟨g, 0, none⟩), .int .u8 116] w fun e' w' => Q2o w b g B D op p 116 s l e f e' w' := by
 have hbw := h.lt
 have hgb : g ≠ b := by omega
 have hgw := hr.lt
 refine Q0e fun Q' hQ => ?_
 have HQ := zh hQ; clear hQ
 have HC := zh (Q9m (D := D) hD hD2 (h.drew) hN)
 have HX := zh hx
 have HRv0 := zh hr.drew
 have HDv0 : Hid (DeepC w.drew (fun k => B ≤ k ∧ k ≠ b ∧ k ≠ g) x) := zh (hd.keep9 fun _ _ _ => rfl)
 clear hr hd h hx
 go_enter Tryz.func71, Tryz.ntmps71
 go_upto_region 10 with fail
 obtain ⟨S, hSe⟩ : ∃ S : World → Prop, S = fun W => b < W.heap.size := ⟨_, rfl⟩
 have HSv0 : Hid (S w.drew) := by rw [hSe]; exact zh hbw
 have HSP : Hid (∀ V, Mv b w.drew V → S V) := by rw [hSe]; exact zh fun V hm => zT hbw hm.size
 have HSQ : Hid (∀ V o ys, S V → S (V.setCells g o ys)) := by rw [hSe]; exact zh fun V o ys h => by show b < _; rw [setCells_size]; exact h
 clear hSe
 refine Q0y S ((.take 0 (.take 1 (.take 2 (.take 3 (.take 4 (.take 6 (.two 5 (.solo 7 (.take 8 (.take 9 (.solo 10 (.take 11 (.take 12 (.solo 13 .nil))))))) 7 (.solo 5 (.take 8 (.take 9 (.solo 10 (.take 11 (.take 12 (.solo 13 .nil))))))))))))))) (by kernel_rfl) (by kernel_rfl) rfl (by kernel_rfl) HSv0.out ?_
 have hBw : B ≤ w.drew.heap.size := hB
 have hgw0 : g < w.drew.heap.size := hgw
 have HD0 : Hid (∀ V, Mv2 b g w.drew V → Mv2 b g w V) := zh fun V h => h.drew0
 generalize w.drew = v0 at *
 iterate 6
  (refine Q07 (zO rfl) ?_)
  (first
        | (refine Q08 (by rfl) ?_)
        | (refine Q03 (v := ?_) (by rfl) ?_ ?_; rotate_left 1; (intro wx hSx; go_simp; try with_reducible rfl)))
  (try simp only [Act.put, zA4, zA5, zA6])
 refine Q2c ?_ ?_
 ·(refine Q02 (zO rfl) ?_)
  intro K hK
  rw [if_pos (by rfl)]
  have HSc := HSv0.out
  refine wp_load_mid _ _ rfl g 12 rfl (Q0g x.r) _ (RowAt.range HRv0.out 12 (Q0g x.r) (by intro j u hu; match j, hu with | 0, hu => exact hu | 1, hu => exact hu | 2, hu => exact hu | 3, hu => exact hu | 4, hu => exact hu)) Tryz.underlying29 rfl (by rw [show (Q0g x.r).length = 5 from rfl]; kernel_rfl) ?_
  refine hK.out _ _ HSc ?_
  clear hK K HSc
  (try simp only [Act.put, zA4, zA5, zA6])
  (refine Q02 (zO rfl) ?_)
  intro K hK
  go_simp
  go_at_call 114
  refine HC.out.mono ?_
  rintro e' v1 ⟨z, A2, c2, l2, f2, rfl, hdz, hs, hm, hst⟩
  have HSv1 : Hid (S v1) := zh (HSP.out v1 hm)
  have HRv1 := zh (HRv0.out.mv hm hgb)
  have HDv1 := zh (HDv0.out.mv (hm.two2 (g := g)))
  have HMv1 := zh (hm.two2 (g := g))
  have HCv1 := zh hs
  have HZv1 : Hid (DeepN v1 (fun k => B ≤ k ∧ k ≠ b ∧ k ≠ g) [z]) := zh (hdz.weak fun k _ hk => ⟨by omega, by omega, by omega⟩)
  have HST := zh hst
  clear hs hm hst hdz
  refine hK.out _ _ HSv1.out ?_
  clear hK K
  (try simp only [Act.put, zA4, zA5, zA6])
  iterate 2
   (refine Q07 (zO rfl) ?_)
   (first
    | (refine Q08 (by rfl) ?_)
    | (refine Q03 (v := ?_) (by rfl) ?_ ?_; rotate_left 1; (intro wx hSx; go_simp; try with_reducible rfl)))
   (try simp only [Act.put, zA4, zA5, zA6])
  (refine Q02 (zO rfl) ?_)
  intro K hK
  rw [if_pos (by rfl)]
  refine wp_store_mid _ _ _ rfl g 7 (nv x.r) rfl rfl (RowAt.there9 HRv1.out (by show 7 + 5 ≤ 17; omega)) (Q0h _ _ _ _ _) (by simp [nv, Value.oneCell']) ?_
  have HSv2 : Hid (S (v1.setCells g 7 (nv x.r).toList)) := zh (HSQ.out _ _ _ HSv1.out)
  have HRv2 : Hid (RowAt (v1.setCells g 7 (nv x.r).toList) g 31 (cv (⟨x.op, x.p, x.n, x.A, x.c, x.ws, x.B, x.d, x.ps, x.pp, x.r, x.r⟩ : Cm))) := zh (RowAt.puts HRv1.out (nv x.r).toList 7)
  have hdv2 := HDv1.out.puts hg (nv x.r).toList 7
  have HDv2 : Hid (DeepC (v1.setCells g 7 (nv x.r).toList) (fun k => B ≤ k ∧ k ≠ b ∧ k ≠ g) (⟨x.op, x.p, x.n, x.A, x.c, x.ws, x.B, x.d, x.ps, x.pp, x.r, x.r⟩ : Cm)) := zh ⟨hdv2.ws, hdv2.wc, hdv2.ps, hdv2.pc, hdv2.r, hdv2.r⟩
  have HMv2 := zh (HMv1.out.puts hg (nv x.r).toList 7)
  have HCv2 := zh (HCv1.out.puts hg (nv x.r).toList 7)
  have HZv2 : Hid (DeepN (v1.setCells g 7 (nv x.r).toList) (fun k => B ≤ k ∧ k ≠ b ∧ k ≠ g) [z]) := zh (HZv1.out.keep9 fun k _ ho => Q0j _ _ _ _ k ho.2.2)
  clear hdv2
  refine hK.out _ _ HSv2.out ?_
  clear hK K
  (try simp only [Act.put, zA4, zA5, zA6])
  generalize (v1.setCells g 7 (nv x.r).toList) = v2 at *
  iterate 2
   (refine Q07 (zO rfl) ?_)
   (first
    | (refine Q08 (by rfl) ?_)
    | (refine Q03 (v := ?_) (by rfl) ?_ ?_; rotate_left 1; (intro wx hSx; go_simp; try with_reducible rfl)))
   (try simp only [Act.put, zA4, zA5, zA6])
  (refine Q02 (zO rfl) ?_)
  intro K hK
  rw [if_pos (by rfl)]
  refine wp_store_mid _ _ _ rfl g 12 (nv z) rfl rfl (RowAt.there9 HRv2.out (by show 12 + 5 ≤ 17; omega)) (Q0h _ _ _ _ _) (by simp [nv, Value.oneCell']) ?_
  have HSv3 : Hid (S (v2.setCells g 12 (nv z).toList)) := zh (HSQ.out _ _ _ HSv2.out)
  have HRv3 : Hid (RowAt (v2.setCells g 12 (nv z).toList) g 31 (cv (⟨x.op, x.p, x.n, x.A, x.c, x.ws, x.B, x.d, x.ps, x.pp, x.r, z⟩ : Cm))) := zh (RowAt.puts HRv2.out (nv z).toList 12)
  have hdv3 := HDv2.out.puts hg (nv z).toList 12
  have HDv3 : Hid (DeepC (v2.setCells g 12 (nv z).toList) (fun k => B ≤ k ∧ k ≠ b ∧ k ≠ g) (⟨x.op, x.p, x.n, x.A, x.c, x.ws, x.B, x.d, x.ps, x.pp, x.r, z⟩ : Cm)) := zh ⟨hdv3.ws, hdv3.wc, hdv3.ps, hdv3.pc, hdv3.l, HZv2.out.keep9 fun k _ ho => Q0j _ _ _ _ k ho.2.2⟩
  have HMv3 := zh (HMv2.out.puts hg (nv z).toList 12)
  have HCv3 := zh (HCv2.out.puts hg (nv z).toList 12)
  have HZv3 : Hid (DeepN (v2.setCells g 12 (nv z).toList) (fun k => B ≤ k ∧ k ≠ b ∧ k ≠ g) [z]) := zh (HZv2.out.keep9 fun k _ ho => Q0j _ _ _ _ k ho.2.2)
  clear hdv3
  refine hK.out _ _ HSv3.out ?_
  clear hK K
  (try simp only [Act.put, zA4, zA5, zA6])
  generalize (v2.setCells g 12 (nv z).toList) = v3 at *
  refine Q0s ?_
  go_wp2
  exact bodyPost_ret (results_none rfl _ _ _) rfl (HQ.out _ _ ⟨(⟨x.op, x.p, x.n, x.A, x.c, x.ws, x.B, x.d, x.ps, x.pp, x.r, z⟩ : Cm), A2, c2, l2, f2, ⟨s.n, s.ws, s.ps, s.pp, s.ts ++ [er1 z]⟩, rfl, HCv3.out, HRv3.out, HDv3.out, (HD0.out _ HMv3.out), Q6D HST.out, fun hf => Q3W (HX.out (HST.out.none hf))⟩)
 ·(refine Q02 (zO rfl) ?_)
  intro K hK
  go_simp
  go_at_call 114
  refine HC.out.mono ?_
  rintro e' v1 ⟨z, A2, c2, l2, f2, rfl, hdz, hs, hm, hst⟩
  have HSv1 : Hid (S v1) := zh (HSP.out v1 hm)
  have HRv1 := zh (HRv0.out.mv hm hgb)
  have HDv1 := zh (HDv0.out.mv (hm.two2 (g := g)))
  have HMv1 := zh (hm.two2 (g := g))
  have HCv1 := zh hs
  have HZv1 : Hid (DeepN v1 (fun k => B ≤ k ∧ k ≠ b ∧ k ≠ g) [z]) := zh (hdz.weak fun k _ hk => ⟨by omega, by omega, by omega⟩)
  have HST := zh hst
  clear hs hm hst hdz
  refine hK.out _ _ HSv1.out ?_
  clear hK K
  (try simp only [Act.put, zA4, zA5, zA6])
  (refine Q02 (zO rfl) ?_)
  intro K hK
  rw [if_pos (by rfl)]
  have HSc := HSv1.out
  refine wp_load_mid _ _ rfl g 12 rfl (Q0g x.r) _ (RowAt.range HRv1.out 12 (Q0g x.r) (by intro j u hu; match j, hu with | 0, hu => exact hu | 1, hu => exact hu | 2, hu => exact hu | 3, hu => exact hu | 4, hu => exact hu)) Tryz.underlying29 rfl (by rw [show (Q0g x.r).length = 5 from rfl]; kernel_rfl) ?_
  refine hK.out _ _ HSc ?_
  clear hK K HSc
  (try simp only [Act.put, zA4, zA5, zA6])
  iterate 2
   (refine Q07 (zO rfl) ?_)
   (first
    | (refine Q08 (by rfl) ?_)
    | (refine Q03 (v := ?_) (by rfl) ?_ ?_; rotate_left 1; (intro wx hSx; go_simp; try with_reducible rfl)))
   (try simp only [Act.put, zA4, zA5, zA6])
  (refine Q02 (zO rfl) ?_)
  intro K hK
  rw [if_pos (by rfl)]
  refine wp_store_mid _ _ _ rfl g 7 (nv x.r) rfl rfl (RowAt.there9 HRv1.out (by show 7 + 5 ≤ 17; omega)) (Q0h _ _ _ _ _) (by simp [nv, Value.oneCell']) ?_
  have HSv2 : Hid (S (v1.setCells g 7 (nv x.r).toList)) := zh (HSQ.out _ _ _ HSv1.out)
  have HRv2 : Hid (RowAt (v1.setCells g 7 (nv x.r).toList) g 31 (cv (⟨x.op, x.p, x.n, x.A, x.c, x.ws, x.B, x.d, x.ps, x.pp, x.r, x.r⟩ : Cm))) := zh (RowAt.puts HRv1.out (nv x.r).toList 7)
  have hdv2 := HDv1.out.puts hg (nv x.r).toList 7
  have HDv2 : Hid (DeepC (v1.setCells g 7 (nv x.r).toList) (fun k => B ≤ k ∧ k ≠ b ∧ k ≠ g) (⟨x.op, x.p, x.n, x.A, x.c, x.ws, x.B, x.d, x.ps, x.pp, x.r, x.r⟩ : Cm)) := zh ⟨hdv2.ws, hdv2.wc, hdv2.ps, hdv2.pc, hdv2.r, hdv2.r⟩
  have HMv2 := zh (HMv1.out.puts hg (nv x.r).toList 7)
  have HCv2 := zh (HCv1.out.puts hg (nv x.r).toList 7)
  have HZv2 : Hid (DeepN (v1.setCells g 7 (nv x.r).toList) (fun k => B ≤ k ∧ k ≠ b ∧ k ≠ g) [z]) := zh (HZv1.out.keep9 fun k _ ho => Q0j _ _ _ _ k ho.2.2)
  clear hdv2
  refine hK.out _ _ HSv2.out ?_
  clear hK K
  (try simp only [Act.put, zA4, zA5, zA6])
  generalize (v1.setCells g 7 (nv x.r).toList) = v2 at *
  iterate 2
   (refine Q07 (zO rfl) ?_)
   (first
    | (refine Q08 (by rfl) ?_)
    | (refine Q03 (v := ?_) (by rfl) ?_ ?_; rotate_left 1; (intro wx hSx; go_simp; try with_reducible rfl)))
   (try simp only [Act.put, zA4, zA5, zA6])
  (refine Q02 (zO rfl) ?_)
  intro K hK
  rw [if_pos (by rfl)]
  refine wp_store_mid _ _ _ rfl g 12 (nv z) rfl rfl (RowAt.there9 HRv2.out (by show 12 + 5 ≤ 17; omega)) (Q0h _ _ _ _ _) (by simp [nv, Value.oneCell']) ?_
  have HSv3 : Hid (S (v2.setCells g 12 (nv z).toList)) := zh (HSQ.out _ _ _ HSv2.out)
  have HRv3 : Hid (RowAt (v2.setCells g 12 (nv z).toList) g 31 (cv (⟨x.op, x.p, x.n, x.A, x.c, x.ws, x.B, x.d, x.ps, x.pp, x.r, z⟩ : Cm))) := zh (RowAt.puts HRv2.out (nv z).toList 12)
  have hdv3 := HDv2.out.puts hg (nv z).toList 12
  have HDv3 : Hid (DeepC (v2.setCells g 12 (nv z).toList) (fun k => B ≤ k ∧ k ≠ b ∧ k ≠ g) (⟨x.op, x.p, x.n, x.A, x.c, x.ws, x.B, x.d, x.ps, x.pp, x.r, z⟩ : Cm)) := zh ⟨hdv3.ws, hdv3.wc, hdv3.ps, hdv3.pc, hdv3.l, HZv2.out.keep9 fun k _ ho => Q0j _ _ _ _ k ho.2.2⟩
  have HMv3 := zh (HMv2.out.puts hg (nv z).toList 12)
  have HCv3 := zh (HCv2.out.puts hg (nv z).toList 12)
  have HZv3 : Hid (DeepN (v2.setCells g 12 (nv z).toList) (fun k => B ≤ k ∧ k ≠ b ∧ k ≠ g) [z]) := zh (HZv2.out.keep9 fun k _ ho => Q0j _ _ _ _ k ho.2.2)
  clear hdv3
  refine hK.out _ _ HSv3.out ?_
  clear hK K
  (try simp only [Act.put, zA4, zA5, zA6])
  generalize (v2.setCells g 12 (nv z).toList) = v3 at *
  refine Q0s ?_
  go_wp2
  exact bodyPost_ret (results_none rfl _ _ _) rfl (HQ.out _ _ ⟨(⟨x.op, x.p, x.n, x.A, x.c, x.ws, x.B, x.d, x.ps, x.pp, x.r, z⟩ : Cm), A2, c2, l2, f2, ⟨s.n, s.ws, s.ps, s.pp, s.ts ++ [er1 z]⟩, rfl, HCv3.out, HRv3.out, HDv3.out, (HD0.out _ HMv3.out), Q6D HST.out, fun hf => Q3W (HX.out (HST.out.none hf))⟩)
theorem Q9A {w : World} {b g B D op : Nat} {p : Int} {A : Option Addr} {c : Nat} {l : List Tr} {e : Int} {f : Option Int} {x : Cm} {s : Cs} (h : Cr w b A c l e f) (hr : RowAt w g 31 (cv x)) (hd : DeepC w (fun k => B ≤ k ∧ k ≠ b ∧ k ≠ g) x) (hB : B ≤ w.heap.size) (hg : b < g) (hx : f = none → Hold op p x s) (hN : (nodes l).length ≤ D - 1) (hD : 1 ≤ D) (hD2 : D ≤ 4294967296) :
 Calls Tryz.prog 71 #[.pointer (some ⟨b, 0, none⟩), .pointer (some ⟨g, 0, none⟩), .int .u8 114] w fun e' w' => Q2o w b g B D op p 114 s l e f e' w' := by
 have hbw := h.lt
 have hgb : g ≠ b := by omega
 have hgw := hr.lt
 refine Q0e fun Q' hQ => ?_
 have HQ := zh hQ; clear hQ
 have HC := zh (Q9n (D := D) hD hD2 (h.drew) hN)
 have HX := zh hx
 have HRv0 := zh hr.drew
 have HDv0 : Hid (DeepC w.drew (fun k => B ≤ k ∧ k ≠ b ∧ k ≠ g) x) := zh (hd.keep9 fun _ _ _ => rfl)
 clear hr hd h hx
 go_enter Tryz.func71, Tryz.ntmps71
 go_upto_region 12 with fail
 obtain ⟨S, hSe⟩ : ∃ S : World → Prop, S = fun W => b < W.heap.size := ⟨_, rfl⟩
 have HSv0 : Hid (S w.drew) := by rw [hSe]; exact zh hbw
 have HSP : Hid (∀ V, Mv b w.drew V → S V) := by rw [hSe]; exact zh fun V hm => zT hbw hm.size
 have HSQ : Hid (∀ V o ys, S V → S (V.setCells g o ys)) := by rw [hSe]; exact zh fun V o ys h => by show b < _; rw [setCells_size]; exact h
 clear hSe
 refine Q0y S ((.take 0 (.take 1 (.take 2 (.take 3 (.take 4 (.take 6 (.two 5 (.solo 7 (.take 8 (.take 9 (.solo 10 (.take 11 (.take 12 (.solo 13 .nil))))))) 7 (.solo 5 (.take 8 (.take 9 (.solo 10 (.take 11 (.take 12 (.solo 13 .nil))))))))))))))) (by kernel_rfl) (by kernel_rfl) rfl (by kernel_rfl) HSv0.out ?_
 have hBw : B ≤ w.drew.heap.size := hB
 have hgw0 : g < w.drew.heap.size := hgw
 have HD0 : Hid (∀ V, Mv2 b g w.drew V → Mv2 b g w V) := zh fun V h => h.drew0
 generalize w.drew = v0 at *
 iterate 6
  (refine Q07 (zO rfl) ?_)
  (first
        | (refine Q08 (by rfl) ?_)
        | (refine Q03 (v := ?_) (by rfl) ?_ ?_; rotate_left 1; (intro wx hSx; go_simp; try with_reducible rfl)))
  (try simp only [Act.put, zA4, zA5, zA6])
 refine Q2c ?_ ?_
 ·(refine Q02 (zO rfl) ?_)
  intro K hK
  rw [if_pos (by rfl)]
  have HSc := HSv0.out
  refine wp_load_mid _ _ rfl g 12 rfl (Q0g x.r) _ (RowAt.range HRv0.out 12 (Q0g x.r) (by intro j u hu; match j, hu with | 0, hu => exact hu | 1, hu => exact hu | 2, hu => exact hu | 3, hu => exact hu | 4, hu => exact hu)) Tryz.underlying29 rfl (by rw [show (Q0g x.r).length = 5 from rfl]; kernel_rfl) ?_
  refine hK.out _ _ HSc ?_
  clear hK K HSc
  (try simp only [Act.put, zA4, zA5, zA6])
  (refine Q02 (zO rfl) ?_)
  intro K hK
  go_simp
  go_at_call 114
  refine HC.out.mono ?_
  rintro e' v1 ⟨z, A2, c2, l2, f2, rfl, hdz, hs, hm, hst⟩
  have HSv1 : Hid (S v1) := zh (HSP.out v1 hm)
  have HRv1 := zh (HRv0.out.mv hm hgb)
  have HDv1 := zh (HDv0.out.mv (hm.two2 (g := g)))
  have HMv1 := zh (hm.two2 (g := g))
  have HCv1 := zh hs
  have HZv1 : Hid (DeepN v1 (fun k => B ≤ k ∧ k ≠ b ∧ k ≠ g) [z]) := zh (hdz.weak fun k _ hk => ⟨by omega, by omega, by omega⟩)
  have HST := zh hst
  clear hs hm hst hdz
  refine hK.out _ _ HSv1.out ?_
  clear hK K
  (try simp only [Act.put, zA4, zA5, zA6])
  iterate 2
   (refine Q07 (zO rfl) ?_)
   (first
    | (refine Q08 (by rfl) ?_)
    | (refine Q03 (v := ?_) (by rfl) ?_ ?_; rotate_left 1; (intro wx hSx; go_simp; try with_reducible rfl)))
   (try simp only [Act.put, zA4, zA5, zA6])
  (refine Q02 (zO rfl) ?_)
  intro K hK
  rw [if_pos (by rfl)]
  refine wp_store_mid _ _ _ rfl g 7 (nv x.r) rfl rfl (RowAt.there9 HRv1.out (by show 7 + 5 ≤ 17; omega)) (Q0h _ _ _ _ _) (by simp [nv, Value.oneCell']) ?_
  have HSv2 : Hid (S (v1.setCells g 7 (nv x.r).toList)) := zh (HSQ.out _ _ _ HSv1.out)
  have HRv2 : Hid (RowAt (v1.setCells g 7 (nv x.r).toList) g 31 (cv (⟨x.op, x.p, x.n, x.A, x.c, x.ws, x.B, x.d, x.ps, x.pp, x.r, x.r⟩ : Cm))) := zh (RowAt.puts HRv1.out (nv x.r).toList 7)
  have hdv2 := HDv1.out.puts hg (nv x.r).toList 7
  have HDv2 : Hid (DeepC (v1.setCells g 7 (nv x.r).toList) (fun k => B ≤ k ∧ k ≠ b ∧ k ≠ g) (⟨x.op, x.p, x.n, x.A, x.c, x.ws, x.B, x.d, x.ps, x.pp, x.r, x.r⟩ : Cm)) := zh ⟨hdv2.ws, hdv2.wc, hdv2.ps, hdv2.pc, hdv2.r, hdv2.r⟩
  have HMv2 := zh (HMv1.out.puts hg (nv x.r).toList 7)
  have HCv2 := zh (HCv1.out.puts hg (nv x.r).toList 7)
  have HZv2 : Hid (DeepN (v1.setCells g 7 (nv x.r).toList) (fun k => B ≤ k ∧ k ≠ b ∧ k ≠ g) [z]) := zh (HZv1.out.keep9 fun k _ ho => Q0j _ _ _ _ k ho.2.2)
  clear hdv2
  refine hK.out _ _ HSv2.out ?_
  clear hK K
  (try simp only [Act.put, zA4, zA5, zA6])
  generalize (v1.setCells g 7 (nv x.r).toList) = v2 at *
  iterate 2
   (refine Q07 (zO rfl) ?_)
   (first
    | (refine Q08 (by rfl) ?_)
    | (refine Q03 (v := ?_) (by rfl) ?_ ?_; rotate_left 1; (intro wx hSx; go_simp; try with_reducible rfl)))
   (try simp only [Act.put, zA4, zA5, zA6])
  (refine Q02 (zO rfl) ?_)
  intro K hK
  rw [if_pos (by rfl)]
  refine wp_store_mid _ _ _ rfl g 12 (nv z) rfl rfl (RowAt.there9 HRv2.out (by show 12 + 5 ≤ 17; omega)) (Q0h _ _ _ _ _) (by simp [nv, Value.oneCell']) ?_
  have HSv3 : Hid (S (v2.setCells g 12 (nv z).toList)) := zh (HSQ.out _ _ _ HSv2.out)
  have HRv3 : Hid (RowAt (v2.setCells g 12 (nv z).toList) g 31 (cv (⟨x.op, x.p, x.n, x.A, x.c, x.ws, x.B, x.d, x.ps, x.pp, x.r, z⟩ : Cm))) := zh (RowAt.puts HRv2.out (nv z).toList 12)
  have hdv3 := HDv2.out.puts hg (nv z).toList 12
  have HDv3 : Hid (DeepC (v2.setCells g 12 (nv z).toList) (fun k => B ≤ k ∧ k ≠ b ∧ k ≠ g) (⟨x.op, x.p, x.n, x.A, x.c, x.ws, x.B, x.d, x.ps, x.pp, x.r, z⟩ : Cm)) := zh ⟨hdv3.ws, hdv3.wc, hdv3.ps, hdv3.pc, hdv3.l, HZv2.out.keep9 fun k _ ho => Q0j _ _ _ _ k ho.2.2⟩
  have HMv3 := zh (HMv2.out.puts hg (nv z).toList 12)
  have HCv3 := zh (HCv2.out.puts hg (nv z).toList 12)
  have HZv3 : Hid (DeepN (v2.setCells g 12 (nv z).toList) (fun k => B ≤ k ∧ k ≠ b ∧ k ≠ g) [z]) := zh (HZv2.out.keep9 fun k _ ho => Q0j _ _ _ _ k ho.2.2)
  clear hdv3
  refine hK.out _ _ HSv3.out ?_
  clear hK K
  (try simp only [Act.put, zA4, zA5, zA6])
  generalize (v2.setCells g 12 (nv z).toList) = v3 at *
  refine Q0s ?_
  go_wp2
  exact bodyPost_ret (results_none rfl _ _ _) rfl (HQ.out _ _ ⟨(⟨x.op, x.p, x.n, x.A, x.c, x.ws, x.B, x.d, x.ps, x.pp, x.r, z⟩ : Cm), A2, c2, l2, f2, ⟨s.n, s.ws, s.ps, s.pp, s.ts ++ [er1 z]⟩, rfl, HCv3.out, HRv3.out, HDv3.out, (HD0.out _ HMv3.out), Q6C HST.out, fun hf => Q3W (HX.out (HST.out.none hf))⟩)
 ·(refine Q02 (zO rfl) ?_)
  intro K hK
  go_simp
  go_at_call 114
  refine HC.out.mono ?_
  rintro e' v1 ⟨z, A2, c2, l2, f2, rfl, hdz, hs, hm, hst⟩
  have HSv1 : Hid (S v1) := zh (HSP.out v1 hm)
  have HRv1 := zh (HRv0.out.mv hm hgb)
  have HDv1 := zh (HDv0.out.mv (hm.two2 (g := g)))
  have HMv1 := zh (hm.two2 (g := g))
  have HCv1 := zh hs
  have HZv1 : Hid (DeepN v1 (fun k => B ≤ k ∧ k ≠ b ∧ k ≠ g) [z]) := zh (hdz.weak fun k _ hk => ⟨by omega, by omega, by omega⟩)
  have HST := zh hst
  clear hs hm hst hdz
  refine hK.out _ _ HSv1.out ?_
  clear hK K
  (try simp only [Act.put, zA4, zA5, zA6])
  (refine Q02 (zO rfl) ?_)
  intro K hK
  rw [if_pos (by rfl)]
  have HSc := HSv1.out
  refine wp_load_mid _ _ rfl g 12 rfl (Q0g x.r) _ (RowAt.range HRv1.out 12 (Q0g x.r) (by intro j u hu; match j, hu with | 0, hu => exact hu | 1, hu => exact hu | 2, hu => exact hu | 3, hu => exact hu | 4, hu => exact hu)) Tryz.underlying29 rfl (by rw [show (Q0g x.r).length = 5 from rfl]; kernel_rfl) ?_
  refine hK.out _ _ HSc ?_
  clear hK K HSc
  (try simp only [Act.put, zA4, zA5, zA6])
  iterate 2
   (refine Q07 (zO rfl) ?_)
   (first
    | (refine Q08 (by rfl) ?_)
    | (refine Q03 (v := ?_) (by rfl) ?_ ?_; rotate_left 1; (intro wx hSx; go_simp; try with_reducible rfl)))
   (try simp only [Act.put, zA4, zA5, zA6])
  (refine Q02 (zO rfl) ?_)
  intro K hK
  rw [if_pos (by rfl)]
  refine wp_store_mid _ _ _ rfl g 7 (nv x.r) rfl rfl (RowAt.there9 HRv1.out (by show 7 + 5 ≤ 17; omega)) (Q0h _ _ _ _ _) (by simp [nv, Value.oneCell']) ?_
  have HSv2 : Hid (S (v1.setCells g 7 (nv x.r).toList)) := zh (HSQ.out _ _ _ HSv1.out)
  have HRv2 : Hid (RowAt (v1.setCells g 7 (nv x.r).toList) g 31 (cv (⟨x.op, x.p, x.n, x.A, x.c, x.ws, x.B, x.d, x.ps, x.pp, x.r, x.r⟩ : Cm))) := zh (RowAt.puts HRv1.out (nv x.r).toList 7)
  have hdv2 := HDv1.out.puts hg (nv x.r).toList 7
  have HDv2 : Hid (DeepC (v1.setCells g 7 (nv x.r).toList) (fun k => B ≤ k ∧ k ≠ b ∧ k ≠ g) (⟨x.op, x.p, x.n, x.A, x.c, x.ws, x.B, x.d, x.ps, x.pp, x.r, x.r⟩ : Cm)) := zh ⟨hdv2.ws, hdv2.wc, hdv2.ps, hdv2.pc, hdv2.r, hdv2.r⟩
  have HMv2 := zh (HMv1.out.puts hg (nv x.r).toList 7)
  have HCv2 := zh (HCv1.out.puts hg (nv x.r).toList 7)
  have HZv2 : Hid (DeepN (v1.setCells g 7 (nv x.r).toList) (fun k => B ≤ k ∧ k ≠ b ∧ k ≠ g) [z]) := zh (HZv1.out.keep9 fun k _ ho => Q0j _ _ _ _ k ho.2.2)
  clear hdv2
  refine hK.out _ _ HSv2.out ?_
  clear hK K
  (try simp only [Act.put, zA4, zA5, zA6])
  generalize (v1.setCells g 7 (nv x.r).toList) = v2 at *
  iterate 2
   (refine Q07 (zO rfl) ?_)
   (first
    | (refine Q08 (by rfl) ?_)
    | (refine Q03 (v := ?_) (by rfl) ?_ ?_; rotate_left 1; (intro wx hSx; go_simp; try with_reducible rfl)))
   (try simp only [Act.put, zA4, zA5, zA6])
  (refine Q02 (zO rfl) ?_)
  intro K hK
  rw [if_pos (by rfl)]
  refine wp_store_mid _ _ _ rfl g 12 (nv z) rfl rfl (RowAt.there9 HRv2.out (by show 12 + 5 ≤ 17; omega)) (Q0h _ _ _ _ _) (by simp [nv, Value.oneCell']) ?_
  have HSv3 : Hid (S (v2.setCells g 12 (nv z).toList)) := zh (HSQ.out _ _ _ HSv2.out)
  have HRv3 : Hid (RowAt (v2.setCells g 12 (nv z).toList) g 31 (cv (⟨x.op, x.p, x.n, x.A, x.c, x.ws, x.B, x.d, x.ps, x.pp, x.r, z⟩ : Cm))) := zh (RowAt.puts HRv2.out (nv z).toList 12)
  have hdv3 := HDv2.out.puts hg (nv z).toList 12
  have HDv3 : Hid (DeepC (v2.setCells g 12 (nv z).toList) (fun k => B ≤ k ∧ k ≠ b ∧ k ≠ g) (⟨x.op, x.p, x.n, x.A, x.c, x.ws, x.B, x.d, x.ps, x.pp, x.r, z⟩ : Cm)) := zh ⟨hdv3.ws, hdv3.wc, hdv3.ps, hdv3.pc, hdv3.l, HZv2.out.keep9 fun k _ ho => Q0j _ _ _ _ k ho.2.2⟩
  have HMv3 := zh (HMv2.out.puts hg (nv z).toList 12)
  have HCv3 := zh (HCv2.out.puts hg (nv z).toList 12)
  have HZv3 : Hid (DeepN (v2.setCells g 12 (nv z).toList) (fun k => B ≤ k ∧ k ≠ b ∧ k ≠ g) [z]) := zh (HZv2.out.keep9 fun k _ ho => Q0j _ _ _ _ k ho.2.2)
  clear hdv3
  refine hK.out _ _ HSv3.out ?_
  clear hK K
  (try simp only [Act.put, zA4, zA5, zA6])
  generalize (v2.setCells g 12 (nv z).toList) = v3 at *
  refine Q0s ?_
  go_wp2
  exact bodyPost_ret (results_none rfl _ _ _) rfl (HQ.out _ _ ⟨(⟨x.op, x.p, x.n, x.A, x.c, x.ws, x.B, x.d, x.ps, x.pp, x.r, z⟩ : Cm), A2, c2, l2, f2, ⟨s.n, s.ws, s.ps, s.pp, s.ts ++ [er1 z]⟩, rfl, HCv3.out, HRv3.out, HDv3.out, (HD0.out _ HMv3.out), Q6C HST.out, fun hf => Q3W (HX.out (HST.out.none hf))⟩)
end
section
open Go.RowKit LX TR TM DT CM
theorem Q1F {P : Program} {fn : Func} {p q r : Tmp} {ty : TypeId} (h : fn.results = #[.cell p ty, .tmp q, .tmp r]) (tmps : Array Value) (w : World) (u v : Value) (g : Nat) (t : TypeId) (cs : Array Value) (d : TypeDesc)
 (hp : tmps.getD p undef = .pointer (some ⟨g, 0, none⟩)) (hq : tmps.getD q undef = u) (hr : tmps.getD r undef = v) (hg : RowAt w g t cs)
 (hu : P.underlying ty = some d) (hd : (match d with | .struct _ | .array _ _ => true | _ => false) = true) (hi : (P.info? ty).map (·.size) = some cs.size) :
 (results fn tmps).run P w = .ok (.tuple #[.agg cs, u, v]) w := by
 have hp' : tmps[p]?.getD undef = .pointer (some ⟨g, 0, none⟩) := by simpa using hp
 have hq' : tmps[q]?.getD undef = u := by simpa using hq
 have hr' : tmps[r]?.getD undef = v := by simpa using hr
 simp [results, h, hp', hq', hr', asAddr, run_loadVar_row w g t ty cs (0, 0) d hg hu hd hi]
theorem Q0R {P : Program} {S : World → Prop} {o : Oper} {a : Act} (ty : TypeId) (x : Operand) (ho : o.op = .load ty x) (g : Nat) (hx : a.eval x = .pointer (some ⟨g, 0, none⟩)) (t : TypeId) (cs : Array Value) (d : TypeDesc) (hS : ∀ w, S w → RowAt w g t cs)
 (hu : P.underlying ty = some d) (hd : (match d with | .struct _ | .array _ _ => true | _ => false) = true) (hi : (P.info? ty).map (·.size) = some cs.size) : ∀ w, S w → (execOp a.eval o).run P w = .ok (.value (.agg cs)) w := fun w hw => by
 unfold execOp
 simp only [ho, hx, Instr.loadAt, Instr.sureAddr, Sem.run_bind, Sem.run_pure, Result.andThen_ok, run_loadVar_row w g t ty cs (0, 0) d (hS w hw) hu hd hi]
namespace DT
structure HoldD (op : Nat) (p : Int) (x : Cm) (s : Cs) : Prop where
 op_ : x.op = op
 p_ : x.p = p
 n_ : x.n = s.n
 ws_ : x.ws = s.ws
 ps_ : x.ps = s.ps
 pp_ : x.pp = s.pp
 l_ : er1 x.l = s.ts.getD 0 n0
 r_ : er1 x.r = s.ts.getD 1 n0
 k_ : ∀ z ∈ s.ts, z.k ≠ 0
def Gq (ok : Nat → Prop) (D k op : Nat) (p : Int) (s : Cs) (l : List Tr) (i : Nat) (e : Int) (y : Cm) (n bad : Int) (w : World) : Prop := match Q0b D k s (l.drop i) e with
 | .error q => bad = q
 | .ok (s2, r) => bad = -1 ∧ (∃ m : Nat, n = (m : Int) ∧ m ≤ l.length ∧ r = l.drop m) ∧ HoldD op p y s2 ∧ DeepC w ok y
end DT
theorem Q9B {ok : Nat → Prop} {D op : Nat} {p : Int} {s : Cs} (x : Cm) (A : Option Addr) (c : Nat) (l : List Tr) (i : Nat) (e : Int) (w : World) (hok : ∀ k, w.heap.size ≤ k → ok k) (hT : Trs w w.heap.size A l) (hl : l.length ≤ 1048576) (hH : HoldD op p x s) (hD : DeepC w (fun k => k < w.heap.size ∧ ok k) x) :
 Calls Tryz.prog 26 #[.agg (cv x), .int .u8 110, .slice A l.length c, .int .i64 (i : Int), .int .i64 e] w fun e' w' => ∃ y n bad, e' = .returned (.tuple #[.agg (cv y), .int .i64 n, .int .i64 bad]) ∧ Gq ok D 110 op p s l i e y n bad w' ∧ Below w.heap.size w w' := by
 have hg0 := (RowAt.new w 31 (cv x)).alloc (.cells (cv c0) 31)
 have hr0 := RowAt.new (w.alloc (.cells (cv x) 31)) 31 (cv c0)
 rw [show (w.alloc (.cells (cv x) 31)).heap.size = w.heap.size + 1 by simp] at hr0
 have hb0 : Below w.heap.size w ((w.alloc (.cells (cv x) 31)).alloc (.cells (cv c0) 31)) := ((zB _ _).alloc (zL _) _).alloc (by simp) _
 have HG0 := zh hg0
 have HR0' := zh hr0
 have HB0 := zh hb0
 have HT := zh hT
 have HNM := zh (Q70 A c l i _ ((hT.below hb0).mono hb0.size))
 have HPL : Hid (∀ W, Below w.heap.size w W → Calls Tryz.prog 73 #[.slice A l.length c, .int .i64 (i : Int), .int .i64 e] W fun e' w' => e' = .returned (.int .i64 (Q00 (l.drop i) e)) ∧ w' = W) := zh fun W hW => Q4c A c l i e W ((HT.out.below hW).mono hW.size)
 refine Q0e fun Q' hQ => ?_
 have HQ := zh hQ
 clear hg0 hr0 hb0 hT hQ
 by_cases hk : kindOf (l.drop i) none = 97
 ·rw [zE hk] at HNM
  obtain ⟨hi, hd, hx⟩ := Q2M hk (by omega)
  have HGG : Hid (∀ W : World, Below w.heap.size w W → Gq ok D 110 op p s l i e (Cm.mk x.op x.p ⟨(l.getD i r0).t.s, (l.getD i r0).t.p⟩ x.A x.c x.ws x.B x.d x.ps x.pp x.l x.r) ((i : Int) + 1) (-1) W) := zh fun W hW => by
   unfold Gq Q0b
   rw [if_pos rfl, hd, Q1p hx]
   refine ⟨rfl, ⟨i + 1, by omega, by omega, rfl⟩, ⟨hH.op_, hH.p_, rfl, hH.ws_, hH.ps_, hH.pp_, hH.l_, hH.r_, hH.k_⟩, ?_⟩
   have h9 := (hD.keep9 (w' := W) fun k hk _ => hW.block k hk).weak (ok' := ok) fun k _ h => h.2
   exact ⟨h9.ws, h9.wc, h9.ps, h9.pc, h9.l, h9.r⟩
  obtain ⟨bb, o, rfl, hbb, hc⟩ := HT.out.at (k := i) hi
  obtain ⟨_, b1, b2, _, _⟩ := hc i hi
  have C0 : ∀ W, Below w.heap.size w W → W.cell? ⟨bb, o + i * 5 + 1, none⟩ = _ := fun W hW => (hW.cell (p := ⟨bb, o + i * 5 + 1, none⟩) hbb).trans b1
  have C1 : ∀ W, Below w.heap.size w W → W.cell? ⟨bb, o + i * 5 + 2, none⟩ = _ := fun W hW => (hW.cell (p := ⟨bb, o + i * 5 + 2, none⟩) hbb).trans b2
  have hin : (i : Int) < (l.length : Int) := by omega
  clear hc b1 b2 hd hx hk
  generalize (l.getD i r0).t.s = xs at *
  generalize (l.getD i r0).t.p = xp at *
  generalize l.length = n at *
  go_enter Tryz.func26, Tryz.ntmps26
  go_upto_region 1 with fail
  change Code.wp _ _ _ _ ((w.alloc (.cells (cv x) 31)).alloc (.cells (cv c0) 31))
  generalize (w.alloc (.cells (cv x) 31)).alloc (.cells (cv c0) 31) = W0 at *
  go_wp2_with fail
  refine HNM.out.mono ?_
  rintro e' w' ⟨rfl, hww⟩
  have hww := hww.symm
  subst hww
  go_upto_region 4 with fail
  refine Q0y (fun W => Below w.heap.size w W) ((.take 0 (.take 1 (.take 2 (.take 3 (.take 4 (.take 5 (.take 6 (.take 7 (.take 8 (.take 9 (.take 10 (.take 11 (.take 12 (.solo 13 (.solo 14 .nil)))))))))))))))) (by kernel_rfl) (by kernel_rfl) rfl (by kernel_rfl) (HB0.out.drew) ?_
  iterate 13
   (refine Q07 (zO rfl) ?_)
   (first
    | (refine Q08 (by rfl) ?_)
    | (refine Q03 (v := ?_) (by rfl) ?_ ?_; rotate_left 1; (intro wx hSx; have hc_0 := C0 wx hSx; have hc_1 := C1 wx hSx; go_simp; try with_reducible rfl)))
   (try simp only [Act.put, zA4, zA5, zA6])
  (refine Q02 (zO rfl) ?_)
  intro K hK
  go_simp
  have hb : Below W0.drew.heap.size W0.drew (W0.drew.alloc (.cells #[.string ⟨#[]⟩, .int .i64 0] 24)) := (zB _ _).alloc (zL _) _
  have HB4 := zh (HB0.out.drew.trans (hb.mono HB0.out.drew.size))
  have HG4 := zh (HG0.out.drew.below hb HG0.out.drew.lt)
  have HR4 := zh (HR0'.out.drew.below hb HR0'.out.drew.lt)
  have HW4 : Hid (RowAt (W0.drew.alloc (.cells #[.string ⟨#[]⟩, .int .i64 0] 24)) W0.heap.size 24 #[.string ⟨#[]⟩, .int .i64 0]) := zh (RowAt.new W0.drew 24 #[.string ⟨#[]⟩, .int .i64 0])
  have hlt : w.heap.size + 1 < W0.heap.size := HR0'.out.lt
  clear hb
  refine hK.out _ _ HB4.out ?_
  clear hK K
  (try simp only [Act.put, zA4, zA5, zA6])
  change wpOT _ _ _ _ _ _ (W0.drew.alloc (.cells #[.string ⟨#[]⟩, .int .i64 0] 24))
  generalize hgw : W0.heap.size = gw at *
  generalize (W0.drew.alloc (.cells #[.string ⟨#[]⟩, .int .i64 0] 24)) = W4 at *
  (refine Q02 (zO rfl) ?_)
  intro K hK
  rw [if_pos (by rfl)]
  refine wp_store_row _ _ _ rfl gw #[.string xs, .int .i64 xp] rfl rfl _ _ HW4.out (Q3d _ _) rfl (by simp [Value.oneCell']) ?_
  have HB5 : Hid (Below w.heap.size w (W4.setRow gw #[.string xs, .int .i64 xp])) := zh (HB4.out.trans (below_setRow (by omega) _))
  have HG5 : Hid (RowAt (W4.setRow gw #[.string xs, .int .i64 xp]) w.heap.size 31 (cv x)) := zh ((setRow_other _ _ _ _ (by omega)).trans HG4.out)
  have HR5 : Hid (RowAt (W4.setRow gw #[.string xs, .int .i64 xp]) (w.heap.size + 1) 31 (cv c0)) := zh ((setRow_other _ _ _ _ (by omega)).trans HR4.out)
  have HW5 := zh (HW4.out.setRow #[.string xs, .int .i64 xp])
  refine hK.out _ _ HB5.out ?_
  clear hK K
  (try simp only [Act.put, zA4, zA5, zA6])
  generalize W4.setRow gw #[.string xs, .int .i64 xp] = W5 at *
  refine Q0s ?_
  obtain ⟨q0, q1, _, _⟩ : W5.cell? ⟨gw, 0, none⟩ = some (.string xs) ∧ W5.cell? ⟨gw, 1, none⟩ = some (.int .i64 xp) ∧ True ∧ True := ⟨(HW5.out.cell 0).trans rfl, (HW5.out.cell 1).trans rfl, trivial, trivial⟩
  have hv := RowAt.putsD HG5.out [.string xs, .int .i64 xp] 2
  have HG6 : Hid (RowAt (W5.setCells w.heap.size 2 [.string xs, .int .i64 xp]) w.heap.size 31 (cv (Cm.mk x.op x.p ⟨xs, xp⟩ x.A x.c x.ws x.B x.d x.ps x.pp x.l x.r))) := zh hv
  have HR6 : Hid (RowAt (W5.setCells w.heap.size 2 [.string xs, .int .i64 xp]) (w.heap.size + 1) 31 (cv c0)) := zh ((Q0j _ _ _ _ _ (by omega)).trans HR5.out)
  have HB6 : Hid (Below w.heap.size w (W5.setCells w.heap.size 2 [.string xs, .int .i64 xp])) := zh (HB5.out.trans (Q1i (zL _) 2 _))
  clear hv
  go_upto_region 8 with (first | (refine wpList_store_mid rfl _ _ _ rfl w.heap.size 2 #[.string xs, .int .i64 xp] rfl rfl (RowAt.thereD HG5.out (by show 2 + 2 ≤ 17; omega)) (Q3d _ _) (by simp [Value.oneCell']) ?_))
  change Code.wp _ _ _ _ (W5.setCells w.heap.size 2 [.string xs, .int .i64 xp])
  generalize W5.setCells w.heap.size 2 [.string xs, .int .i64 xp] = W6 at *
  clear q0 q1 HG5 HR5 HB5 HW5
  have HB7 : Hid (Below w.heap.size w (W6.setRow (w.heap.size + 1) (cv (Cm.mk x.op x.p ⟨xs, xp⟩ x.A x.c x.ws x.B x.d x.ps x.pp x.l x.r)))) := zh (HB6.out.trans (below_setRow (by omega) _))
  have HR7 : Hid (RowAt (W6.setRow (w.heap.size + 1) (cv (Cm.mk x.op x.p ⟨xs, xp⟩ x.A x.c x.ws x.B x.d x.ps x.pp x.l x.r))) (w.heap.size + 1) 31 (cv (Cm.mk x.op x.p ⟨xs, xp⟩ x.A x.c x.ws x.B x.d x.ps x.pp x.l x.r))) := zh (HR6.out.setRow (cv (Cm.mk x.op x.p ⟨xs, xp⟩ x.A x.c x.ws x.B x.d x.ps x.pp x.l x.r)))
  go_wp2_with (first | (refine wpList_load_row rfl _ _ rfl w.heap.size rfl _ _ (0, 0) _ HG6.out Tryz.underlying31 rfl (Q01 _) ?_) | (refine wpList_store_row rfl _ _ _ rfl (w.heap.size + 1) (cv (Cm.mk x.op x.p ⟨xs, xp⟩ x.A x.c x.ws x.B x.d x.ps x.pp x.l x.r)) rfl rfl _ _ HR6.out (Q01 _) rfl (by simp [cv, Value.oneCell']) ?_))
  exact bodyPost_ret (Q1F rfl _ _ _ _ (w.heap.size + 1) _ _ _ rfl rfl rfl HR7.out Tryz.underlying31 rfl (Q01 _)) rfl (HQ.out _ _ ⟨(Cm.mk x.op x.p ⟨xs, xp⟩ x.A x.c x.ws x.B x.d x.ps x.pp x.l x.r), _, _, rfl, HGG.out _ HB7.out, HB7.out⟩)
 ·rw [zF hk] at HNM
  have HG : Hid (∀ W : World, Gq ok D 110 op p s l i e x (i : Int) (Q00 (l.drop i) e) W) := zh fun W => by
   unfold Gq Q0b
   rw [if_pos rfl, Q2e hk]
   rfl
  clear hk
  generalize Q00 (l.drop i) e = q at *
  generalize l.length = n at *
  go_enter Tryz.func26, Tryz.ntmps26
  go_upto_region 1 with fail
  change Code.wp _ _ _ _ ((w.alloc (.cells (cv x) 31)).alloc (.cells (cv c0) 31))
  generalize (w.alloc (.cells (cv x) 31)).alloc (.cells (cv c0) 31) = W0 at *
  go_wp2_with fail
  refine HNM.out.mono ?_
  rintro e' w' ⟨rfl, hww⟩
  have hww := hww.symm
  subst hww
  go_upto_region 3 with fail
  have HSB := zh HB0.out.drew
  have HS0 : Hid (RowAt W0.drew w.heap.size 31 (cv x) ∧ Below w.heap.size w W0.drew) := zh ⟨HG0.out.drew, HSB.out⟩
  have HR0 : Hid (RowAt W0.drew (w.heap.size + 1) 31 (cv c0)) := zh HR0'.out.drew
  have HB1 : Hid (Below w.heap.size w (W0.drew.setRow (w.heap.size + 1) (cv x))) := zh (HSB.out.trans (below_setRow (by omega) _))
  have HS1 : Hid (RowAt (W0.drew.setRow (w.heap.size + 1) (cv x)) w.heap.size 31 (cv x) ∧ Below w.heap.size w (W0.drew.setRow (w.heap.size + 1) (cv x))) := zh ⟨(setRow_other _ _ _ _ (by omega)).trans HS0.out.1, HB1.out⟩
  have HR1 : Hid (RowAt (W0.drew.setRow (w.heap.size + 1) (cv x)) (w.heap.size + 1) 31 (cv x)) := zh (HR0.out.setRow (cv x))
  refine Q0y (fun W => RowAt W w.heap.size 31 (cv x) ∧ Below w.heap.size w W) ((.take 0 (.take 1 (.take 2 (.take 3 (.take 4 (.solo 5 (.solo 6 (.take 7 (.take 8 .nil)))))))))) (by kernel_rfl) (by kernel_rfl) rfl (by kernel_rfl) HS0.out ?_
  iterate 5
   (refine Q07 (zO rfl) ?_)
   (first
    | (refine Q08 (by rfl) ?_)
    | (refine Q03 (by rfl) (Q0R _ _ rfl w.heap.size rfl _ (cv x) _ (fun W h => h.1) Tryz.underlying31 rfl (Q01 x)) ?_)
    | (refine Q03 (v := ?_) (by rfl) ?_ ?_; rotate_left 1; (intro wx hSx; go_simp; try with_reducible rfl)))
   (try simp only [Act.put, zA4, zA5, zA6])
  (refine Q02 (zO rfl) ?_)
  intro K hK
  go_simp
  refine (HPL.out W0.drew HSB.out).mono ?_
  rintro e' w' ⟨rfl, hww⟩
  have hww := hww.symm
  subst hww
  refine hK.out _ _ HS0.out ?_
  clear hK K
  (try simp only [Act.put, zA4, zA5, zA6])
  (refine Q02 (zO rfl) ?_)
  intro K hK
  rw [if_pos (by rfl)]
  refine wp_store_row _ _ _ rfl (w.heap.size + 1) (cv x) rfl rfl _ _ HR0.out (Q01 x) rfl (by simp [cv, Value.oneCell']) ?_
  refine hK.out _ _ HS1.out ?_
  clear hK K
  (try simp only [Act.put, zA4, zA5, zA6])
  iterate 2
   (refine Q07 (zO rfl) ?_)
   (first
    | (refine Q08 (by rfl) ?_)
    | (refine Q03 (by rfl) (Q0R _ _ rfl w.heap.size rfl _ (cv x) _ (fun W h => h.1) Tryz.underlying31 rfl (Q01 x)) ?_)
    | (refine Q03 (v := ?_) (by rfl) ?_ ?_; rotate_left 1; (intro wx hSx; go_simp; try with_reducible rfl)))
   (try simp only [Act.put, zA4, zA5, zA6])
  refine Q0s ?_
  go_wp2
  exact bodyPost_ret (Q1F rfl _ _ _ _ (w.heap.size + 1) _ _ _ rfl rfl rfl HR1.out Tryz.underlying31 rfl (Q01 x)) rfl (HQ.out _ _ ⟨x, _, _, rfl, HG.out _, HB1.out⟩)
theorem Q9C {ok : Nat → Prop} {D op : Nat} {p : Int} {s : Cs} (x : Cm) (A : Option Addr) (c : Nat) (l : List Tr) (i : Nat) (e : Int) (w : World) (hok : ∀ k, w.heap.size ≤ k → ok k) (hT : Trs w w.heap.size A l) (hl : l.length ≤ 1048576) (hH : HoldD op p x s) (hD : DeepC w (fun k => k < w.heap.size ∧ ok k) x) :
 Calls Tryz.prog 26 #[.agg (cv x), .int .u8 102, .slice A l.length c, .int .i64 (i : Int), .int .i64 e] w fun e' w' => ∃ y n bad, e' = .returned (.tuple #[.agg (cv y), .int .i64 n, .int .i64 bad]) ∧ Gq ok D 102 op p s l i e y n bad w' ∧ Below w.heap.size w w' := by
 have hg0 := (RowAt.new w 31 (cv x)).alloc (.cells (cv c0) 31)
 have hr0 := RowAt.new (w.alloc (.cells (cv x) 31)) 31 (cv c0)
 rw [show (w.alloc (.cells (cv x) 31)).heap.size = w.heap.size + 1 by simp] at hr0
 have hb0 : Below w.heap.size w ((w.alloc (.cells (cv x) 31)).alloc (.cells (cv c0) 31)) := ((zB _ _).alloc (zL _) _).alloc (by simp) _
 have HG0 := zh hg0
 have HR0' := zh hr0
 have HB0 := zh hb0
 have HT := zh hT
 have HNM := zh (Q70 A c l i _ ((hT.below hb0).mono hb0.size))
 have HPL : Hid (∀ W, Below w.heap.size w W → Calls Tryz.prog 73 #[.slice A l.length c, .int .i64 (i : Int), .int .i64 e] W fun e' w' => e' = .returned (.int .i64 (Q00 (l.drop i) e)) ∧ w' = W) := zh fun W hW => Q4c A c l i e W ((HT.out.below hW).mono hW.size)
 refine Q0e fun Q' hQ => ?_
 have HQ := zh hQ
 clear hg0 hr0 hb0 hT hQ
 by_cases hk : kindOf (l.drop i) none = 97
 ·rw [zE hk] at HNM
  obtain ⟨hi, hd, hx⟩ := Q2M hk (by omega)
  have HGG : Hid (∀ (X : Option Addr) (W : World), SlC W ok X (wcs [⟨(l.getD i r0).t.s, (l.getD i r0).t.p⟩]) → Below w.heap.size w W → Gq ok D 102 op p s l i e (Cm.mk x.op x.p x.n X 1 [⟨(l.getD i r0).t.s, (l.getD i r0).t.p⟩] x.B x.d x.ps x.pp x.l x.r) ((i : Int) + 1) (-1) W) := zh fun X W hsl hW => by
   unfold Gq Q0b
   rw [if_neg (by omega), if_pos rfl, hd, Q1p hx]
   refine ⟨rfl, ⟨i + 1, by omega, by omega, rfl⟩, ⟨hH.op_, hH.p_, hH.n_, rfl, hH.ps_, hH.pp_, hH.l_, hH.r_, hH.k_⟩, ?_⟩
   have h9 := (hD.keep9 (w' := W) fun k hk _ => hW.block k hk).weak (ok' := ok) fun k _ h => h.2
   exact ⟨hsl, zL _, h9.ps, h9.pc, h9.l, h9.r⟩
  obtain ⟨bb, o, rfl, hbb, hc⟩ := HT.out.at (k := i) hi
  obtain ⟨_, b1, b2, _, _⟩ := hc i hi
  have C0 : ∀ W, Below w.heap.size w W → W.cell? ⟨bb, o + i * 5 + 1, none⟩ = _ := fun W hW => (hW.cell (p := ⟨bb, o + i * 5 + 1, none⟩) hbb).trans b1
  have C1 : ∀ W, Below w.heap.size w W → W.cell? ⟨bb, o + i * 5 + 2, none⟩ = _ := fun W hW => (hW.cell (p := ⟨bb, o + i * 5 + 2, none⟩) hbb).trans b2
  have hin : (i : Int) < (l.length : Int) := by omega
  clear hc b1 b2 hd hx hk
  generalize (l.getD i r0).t.s = xs at *
  generalize (l.getD i r0).t.p = xp at *
  generalize l.length = n at *
  go_enter Tryz.func26, Tryz.ntmps26
  go_upto_region 1 with fail
  change Code.wp _ _ _ _ ((w.alloc (.cells (cv x) 31)).alloc (.cells (cv c0) 31))
  generalize (w.alloc (.cells (cv x) 31)).alloc (.cells (cv c0) 31) = W0 at *
  go_wp2_with fail
  refine HNM.out.mono ?_
  rintro e' w' ⟨rfl, hww⟩
  have hww := hww.symm
  subst hww
  go_upto_region 4 with fail
  refine Q0y (fun W => Below w.heap.size w W) ((.take 0 (.take 1 (.take 2 (.take 3 (.take 4 (.take 5 (.take 6 (.take 7 (.take 8 (.take 9 (.take 10 (.take 11 (.take 12 (.solo 13 (.solo 14 .nil)))))))))))))))) (by kernel_rfl) (by kernel_rfl) rfl (by kernel_rfl) (HB0.out.drew) ?_
  iterate 13
   (refine Q07 (zO rfl) ?_)
   (first
    | (refine Q08 (by rfl) ?_)
    | (refine Q03 (v := ?_) (by rfl) ?_ ?_; rotate_left 1; (intro wx hSx; have hc_0 := C0 wx hSx; have hc_1 := C1 wx hSx; go_simp; try with_reducible rfl)))
   (try simp only [Act.put, zA4, zA5, zA6])
  (refine Q02 (zO rfl) ?_)
  intro K hK
  go_simp
  have hb : Below W0.drew.heap.size W0.drew (W0.drew.alloc (.cells #[.string ⟨#[]⟩, .int .i64 0] 24)) := (zB _ _).alloc (zL _) _
  have HB4 := zh (HB0.out.drew.trans (hb.mono HB0.out.drew.size))
  have HG4 := zh (HG0.out.drew.below hb HG0.out.drew.lt)
  have HR4 := zh (HR0'.out.drew.below hb HR0'.out.drew.lt)
  have HW4 : Hid (RowAt (W0.drew.alloc (.cells #[.string ⟨#[]⟩, .int .i64 0] 24)) W0.heap.size 24 #[.string ⟨#[]⟩, .int .i64 0]) := zh (RowAt.new W0.drew 24 #[.string ⟨#[]⟩, .int .i64 0])
  have hlt : w.heap.size + 1 < W0.heap.size := HR0'.out.lt
  clear hb
  refine hK.out _ _ HB4.out ?_
  clear hK K
  (try simp only [Act.put, zA4, zA5, zA6])
  change wpOT _ _ _ _ _ _ (W0.drew.alloc (.cells #[.string ⟨#[]⟩, .int .i64 0] 24))
  generalize hgw : W0.heap.size = gw at *
  generalize (W0.drew.alloc (.cells #[.string ⟨#[]⟩, .int .i64 0] 24)) = W4 at *
  (refine Q02 (zO rfl) ?_)
  intro K hK
  rw [if_pos (by rfl)]
  refine wp_store_row _ _ _ rfl gw #[.string xs, .int .i64 xp] rfl rfl _ _ HW4.out (Q3d _ _) rfl (by simp [Value.oneCell']) ?_
  have HB5 : Hid (Below w.heap.size w (W4.setRow gw #[.string xs, .int .i64 xp])) := zh (HB4.out.trans (below_setRow (by omega) _))
  have HG5 : Hid (RowAt (W4.setRow gw #[.string xs, .int .i64 xp]) w.heap.size 31 (cv x)) := zh ((setRow_other _ _ _ _ (by omega)).trans HG4.out)
  have HR5 : Hid (RowAt (W4.setRow gw #[.string xs, .int .i64 xp]) (w.heap.size + 1) 31 (cv c0)) := zh ((setRow_other _ _ _ _ (by omega)).trans HR4.out)
  have HW5 := zh (HW4.out.setRow #[.string xs, .int .i64 xp])
  refine hK.out _ _ HB5.out ?_
  clear hK K
  (try simp only [Act.put, zA4, zA5, zA6])
  generalize W4.setRow gw #[.string xs, .int .i64 xp] = W5 at *
  refine Q0s ?_
  obtain ⟨q0, q1, _, _⟩ : W5.cell? ⟨gw, 0, none⟩ = some (.string xs) ∧ W5.cell? ⟨gw, 1, none⟩ = some (.int .i64 xp) ∧ True ∧ True := ⟨(HW5.out.cell 0).trans rfl, (HW5.out.cell 1).trans rfl, trivial, trivial⟩
  have hw5 : w.heap.size + 1 < W5.heap.size := HR5.out.lt
  go_upto_region 6 with fail
  have hge := HG5.out.alloc (.cells #[.string xs, .int .i64 xp] 24)
  obtain ⟨j4, j5⟩ : (W5.alloc (.cells #[.string xs, .int .i64 xp] 24)).cell? ⟨w.heap.size, 4, none⟩ = some (.slice x.A x.ws.length x.c) ∧ (W5.alloc (.cells #[.string xs, .int .i64 xp] 24)).frozen? ⟨w.heap.size, 4, none⟩ = false := ⟨(hge.cell 4).trans rfl, hge.free 4⟩
  clear hge
  go_upto_region 8 with fail
  have hn9 := RowAt.new W5 24 #[.string xs, .int .i64 xp]
  have hg7 := (HG5.out.alloc (.cells #[.string xs, .int .i64 xp] 24)).put 4 (.slice (some ⟨W5.heap.size, 0, none⟩) 1 1)
  have HG7 : Hid (RowAt ((W5.alloc (.cells #[.string xs, .int .i64 xp] 24)).setCell ⟨w.heap.size, 4, none⟩ (.slice (some ⟨W5.heap.size, 0, none⟩) 1 1)) w.heap.size 31 (cv (Cm.mk x.op x.p x.n (some ⟨W5.heap.size, 0, none⟩) 1 [⟨xs, xp⟩] x.B x.d x.ps x.pp x.l x.r))) := zh hg7
  have HR7 : Hid (RowAt ((W5.alloc (.cells #[.string xs, .int .i64 xp] 24)).setCell ⟨w.heap.size, 4, none⟩ (.slice (some ⟨W5.heap.size, 0, none⟩) 1 1)) (w.heap.size + 1) 31 (cv c0)) := zh ((HR5.out.alloc _).far (p := ⟨w.heap.size, 4, none⟩) (by show w.heap.size ≠ w.heap.size + 1; omega) _)
  have HB7 : Hid (Below w.heap.size w ((W5.alloc (.cells #[.string xs, .int .i64 xp] 24)).setCell ⟨w.heap.size, 4, none⟩ (.slice (some ⟨W5.heap.size, 0, none⟩) 1 1))) := zh ((HB5.out.alloc HB5.out.size _).setCell (p := ⟨w.heap.size, 4, none⟩) (by show w.heap.size ≤ w.heap.size; omega) _)
  have HV6 : SlC (W5.alloc (.cells #[.string xs, .int .i64 xp] 24)) (fun k => w.heap.size + 1 < k) (some ⟨W5.heap.size, 0, none⟩) (wcs [⟨xs, xp⟩]) := fun _ => ⟨W5.heap.size, 0, rfl, hn9.lt, hw5, fun j u hu => by
   have h2 := hn9.cell j
   rw [Nat.zero_add]
   exact h2.trans (by simpa [wcs, Q0X] using hu)⟩
  have HV7 : Hid (SlC ((W5.alloc (.cells #[.string xs, .int .i64 xp] 24)).setCell ⟨w.heap.size, 4, none⟩ (.slice (some ⟨W5.heap.size, 0, none⟩) 1 1)) (fun k => w.heap.size + 1 < k) (some ⟨W5.heap.size, 0, none⟩) (wcs [⟨xs, xp⟩])) := zh (HV6.setCell9 (fun k hk => by show k ≠ w.heap.size; omega) _)
  change Code.wp _ _ _ _ ((W5.alloc (.cells #[.string xs, .int .i64 xp] 24)).setCell ⟨w.heap.size, 4, none⟩ (.slice (some ⟨W5.heap.size, 0, none⟩) 1 1))
  clear q0 q1 j4 j5 HG5 HR5 HB5 HW5 hn9 hg7 HV6
  generalize ((W5.alloc (.cells #[.string xs, .int .i64 xp] 24)).setCell ⟨w.heap.size, 4, none⟩ (.slice (some ⟨W5.heap.size, 0, none⟩) 1 1)) = W7 at *
  generalize W5.heap.size = gs at *
  have HB8 : Hid (Below w.heap.size w (W7.setRow (w.heap.size + 1) (cv (Cm.mk x.op x.p x.n (some ⟨gs, 0, none⟩) 1 [⟨xs, xp⟩] x.B x.d x.ps x.pp x.l x.r)))) := zh (HB7.out.trans (below_setRow (by omega) _))
  have HR8 : Hid (RowAt (W7.setRow (w.heap.size + 1) (cv (Cm.mk x.op x.p x.n (some ⟨gs, 0, none⟩) 1 [⟨xs, xp⟩] x.B x.d x.ps x.pp x.l x.r))) (w.heap.size + 1) 31 (cv (Cm.mk x.op x.p x.n (some ⟨gs, 0, none⟩) 1 [⟨xs, xp⟩] x.B x.d x.ps x.pp x.l x.r))) := zh (HR7.out.setRow (cv (Cm.mk x.op x.p x.n (some ⟨gs, 0, none⟩) 1 [⟨xs, xp⟩] x.B x.d x.ps x.pp x.l x.r)))
  have HV8 := zh (HV7.out.keep9 (wb := W7.setRow (w.heap.size + 1) (cv (Cm.mk x.op x.p x.n (some ⟨gs, 0, none⟩) 1 [⟨xs, xp⟩] x.B x.d x.ps x.pp x.l x.r))) fun k _ h => setRow_other _ _ k _ (by omega))
  go_wp2_with (first | (refine wpList_load_row rfl _ _ rfl w.heap.size rfl _ _ (0, 0) _ HG7.out Tryz.underlying31 rfl (Q01 _) ?_) | (refine wpList_store_row rfl _ _ _ rfl (w.heap.size + 1) (cv (Cm.mk x.op x.p x.n (some ⟨gs, 0, none⟩) 1 [⟨xs, xp⟩] x.B x.d x.ps x.pp x.l x.r)) rfl rfl _ _ HR7.out (Q01 _) rfl (by simp [cv, Value.oneCell']) ?_))
  exact bodyPost_ret (Q1F rfl _ _ _ _ (w.heap.size + 1) _ _ _ rfl rfl rfl HR8.out Tryz.underlying31 rfl (Q01 _)) rfl (HQ.out _ _ ⟨(Cm.mk x.op x.p x.n (some ⟨gs, 0, none⟩) 1 [⟨xs, xp⟩] x.B x.d x.ps x.pp x.l x.r), _, _, rfl, HGG.out _ _ (HV8.out.weak fun k _ h => hok k (by omega)) HB8.out, HB8.out⟩)
 ·rw [zF hk] at HNM
  have HG : Hid (∀ W : World, Gq ok D 102 op p s l i e x (i : Int) (Q00 (l.drop i) e) W) := zh fun W => by
   unfold Gq Q0b
   rw [if_neg (by omega), if_pos rfl, Q2e hk]
   rfl
  clear hk
  generalize Q00 (l.drop i) e = q at *
  generalize l.length = n at *
  go_enter Tryz.func26, Tryz.ntmps26
  go_upto_region 1 with fail
  change Code.wp _ _ _ _ ((w.alloc (.cells (cv x) 31)).alloc (.cells (cv c0) 31))
  generalize (w.alloc (.cells (cv x) 31)).alloc (.cells (cv c0) 31) = W0 at *
  go_wp2_with fail
  refine HNM.out.mono ?_
  rintro e' w' ⟨rfl, hww⟩
  have hww := hww.symm
  subst hww
  go_upto_region 3 with fail
  have HSB := zh HB0.out.drew
  have HS0 : Hid (RowAt W0.drew w.heap.size 31 (cv x) ∧ Below w.heap.size w W0.drew) := zh ⟨HG0.out.drew, HSB.out⟩
  have HR0 : Hid (RowAt W0.drew (w.heap.size + 1) 31 (cv c0)) := zh HR0'.out.drew
  have HB1 : Hid (Below w.heap.size w (W0.drew.setRow (w.heap.size + 1) (cv x))) := zh (HSB.out.trans (below_setRow (by omega) _))
  have HS1 : Hid (RowAt (W0.drew.setRow (w.heap.size + 1) (cv x)) w.heap.size 31 (cv x) ∧ Below w.heap.size w (W0.drew.setRow (w.heap.size + 1) (cv x))) := zh ⟨(setRow_other _ _ _ _ (by omega)).trans HS0.out.1, HB1.out⟩
  have HR1 : Hid (RowAt (W0.drew.setRow (w.heap.size + 1) (cv x)) (w.heap.size + 1) 31 (cv x)) := zh (HR0.out.setRow (cv x))
  refine Q0y (fun W => RowAt W w.heap.size 31 (cv x) ∧ Below w.heap.size w W) ((.take 0 (.take 1 (.take 2 (.take 3 (.take 4 (.solo 5 (.solo 6 (.take 7 (.take 8 .nil)))))))))) (by kernel_rfl) (by kernel_rfl) rfl (by kernel_rfl) HS0.out ?_
  iterate 5
   (refine Q07 (zO rfl) ?_)
   (first
    | (refine Q08 (by rfl) ?_)
    | (refine Q03 (by rfl) (Q0R _ _ rfl w.heap.size rfl _ (cv x) _ (fun W h => h.1) Tryz.underlying31 rfl (Q01 x)) ?_)
    | (refine Q03 (v := ?_) (by rfl) ?_ ?_; rotate_left 1; (intro wx hSx; go_simp; try with_reducible rfl)))
   (try simp only [Act.put, zA4, zA5, zA6])
  (refine Q02 (zO rfl) ?_)
  intro K hK
  go_simp
  refine (HPL.out W0.drew HSB.out).mono ?_
  rintro e' w' ⟨rfl, hww⟩
  have hww := hww.symm
  subst hww
  refine hK.out _ _ HS0.out ?_
  clear hK K
  (try simp only [Act.put, zA4, zA5, zA6])
  (refine Q02 (zO rfl) ?_)
  intro K hK
  rw [if_pos (by rfl)]
  refine wp_store_row _ _ _ rfl (w.heap.size + 1) (cv x) rfl rfl _ _ HR0.out (Q01 x) rfl (by simp [cv, Value.oneCell']) ?_
  refine hK.out _ _ HS1.out ?_
  clear hK K
  (try simp only [Act.put, zA4, zA5, zA6])
  iterate 2
   (refine Q07 (zO rfl) ?_)
   (first
    | (refine Q08 (by rfl) ?_)
    | (refine Q03 (by rfl) (Q0R _ _ rfl w.heap.size rfl _ (cv x) _ (fun W h => h.1) Tryz.underlying31 rfl (Q01 x)) ?_)
    | (refine Q03 (v := ?_) (by rfl) ?_ ?_; rotate_left 1; (intro wx hSx; go_simp; try with_reducible rfl)))
   (try simp only [Act.put, zA4, zA5, zA6])
  refine Q0s ?_
  go_wp2
  exact bodyPost_ret (Q1F rfl _ _ _ _ (w.heap.size + 1) _ _ _ rfl rfl rfl HR1.out Tryz.underlying31 rfl (Q01 x)) rfl (HQ.out _ _ ⟨x, _, _, rfl, HG.out _, HB1.out⟩)
end
section
open Go.RowKit LX TR TM DT CM
namespace DT
theorem Q9D {x : Tr} {r : List Tr} {e : Int} (hk : x.t.k = 123) : Q0K (x :: r) e = match Q0B false wnR x.ks x.e with
 | .error p => .error p
 | .ok xs => .ok (xs.map nwd, r) := by
 unfold Q0K
 simp only [Q0f]
 rw [if_pos hk]
 unfold Q0B
 rw [if_neg (by simp), Q7P]
 cases Q0c Q05 x.ks x.e with
 | error p => rfl
 | ok yr =>
   obtain ⟨y, q⟩ := yr
   cases q with
   | nil => simp only [bnd]; rw [Q7N]
   | cons a b => rfl
def Gn (s : Nat) (l : List Tr) (i e : Int) (out : Value) (f : Option Int) (w : World) : Prop :=
 (∃ p, f = some p ∧ Q0K (rest l i) e = .error p) ∨ (f = none ∧ ∃ ws Y dd, out = .slice Y ws.length dd ∧ ws.length ≤ dd ∧ Q0K (rest l i) e = .ok (ws, rest l (i + 1)) ∧ SlC w (fun k => s ≤ k) Y (wcs ws))
end DT
theorem Q9E (A : Option Addr) (c : Nat) (l : List Tr) (i e : Int) (w : World) (hT : Trs w w.heap.size A l) (hF : Fw l) (h0 : 0 ≤ i) :
 Calls Tryz.prog 74 #[.slice A l.length c, .int .i64 i, .int .i64 e] w fun e' w' => ∃ out z n f, e' = .returned (.tuple #[out, .agg (gv z n f)]) ∧ Gn w.heap.size l i e out f w' ∧ Below w.heap.size w w' := by
 have hl := hF.1
 have HT := zh hT
 have hb0 : Below w.heap.size w (w.alloc (.cells #[.int .i64 0, .int .i64 0, .string ⟨#[]⟩, .slice none 0 0, .slice none 0 0, .int .i64 0, .bool false, .int .i64 0] 103)) := (zB _ _).alloc (zL _) _
 have HG0 := zh (RowAt.new w 103 #[.int .i64 0, .int .i64 0, .string ⟨#[]⟩, .slice none 0 0, .slice none 0 0, .int .i64 0, .bool false, .int .i64 0])
 have HB0 := zh hb0
 have HI := zh (Q1H A c l i 123 (by decide) _ ((hT.below hb0).mono hb0.size))
 have HW := zh (Q1P A c l i e _ ((hT.below hb0).mono hb0.size))
 refine Q0e fun Q' hQ => ?_
 have HQ := zh hQ; clear hQ hT
 by_cases hk : kindOf (rest l i) none = 123
 ·rw [zE hk] at HI
  obtain ⟨hi0, hr0, hx0⟩ := Q0Z h0 hk (by omega)
  obtain ⟨j, rfl⟩ := Int.eq_ofNat_of_zero_le h0
  have hj : j < l.length := by omega
  rw [show ((j : Int)).toNat = j by omega] at hr0 hx0
  have hFk : Fw (l.getD j r0).ks := hF.kid (Q1K hj)
  have hFk9 := hFk.1
  have HCW := zh (Q2Z false (Q4p (nodes (l.getD j r0).ks).length) (l.getD j r0) _ (((HT.out.below hb0).mono hb0.size).kidAt hj) hFk (zL _))
  have HRL := zh (Q9D (r := rest l ((j : Int) + 1)) (e := e) hx0)
  rw [← hr0] at HRL
  obtain ⟨bb, o, rfl, hbb, hc⟩ := HT.out.at (k := j) hj
  obtain ⟨b0, b1, b2, b3, b4⟩ := hc j hj
  have B0 : ∀ W, Below w.heap.size w W → W.cell? ⟨bb, o + j * 5, none⟩ = _ := fun W hW => (hW.cell (p := ⟨bb, o + j * 5, none⟩) hbb).trans b0
  have B1 : ∀ W, Below w.heap.size w W → W.cell? ⟨bb, o + j * 5 + 1, none⟩ = _ := fun W hW => (hW.cell (p := ⟨bb, o + j * 5 + 1, none⟩) hbb).trans b1
  have B2 : ∀ W, Below w.heap.size w W → W.cell? ⟨bb, o + j * 5 + 2, none⟩ = _ := fun W hW => (hW.cell (p := ⟨bb, o + j * 5 + 2, none⟩) hbb).trans b2
  have B3 : ∀ W, Below w.heap.size w W → W.cell? ⟨bb, o + j * 5 + 3, none⟩ = _ := fun W hW => (hW.cell (p := ⟨bb, o + j * 5 + 3, none⟩) hbb).trans b3
  have B4 : ∀ W, Below w.heap.size w W → W.cell? ⟨bb, o + j * 5 + 4, none⟩ = _ := fun W hW => (hW.cell (p := ⟨bb, o + j * 5 + 4, none⟩) hbb).trans b4
  have a0 := B0 _ hb0
  have a1 := B1 _ hb0
  have a2 := B2 _ hb0
  have a3 := B3 _ hb0
  have a4 := B4 _ hb0
  have hjn : (j : Int) < (l.length : Int) := by omega
  clear hc b0 b1 b2 b3 b4 hr0 hx0 hF hFk hk hb0 B0 B1 B2 B3 B4 HW
  generalize l.getD j r0 = y at *
  obtain ⟨⟨yq, ys, yp⟩, YA, yc, ks, ye⟩ := y
  simp only [Tr.t, Tr.A, Tr.c, Tr.ks, Tr.e] at *
  unfold trv at HCW
  simp only [Tr.t, Tr.A, Tr.c, Tr.ks, Tr.e] at HCW
  generalize hkn : ks.length = kn at *
  have HKN := zh hkn; clear hkn
  generalize l.length = n at *
  go_enter Tryz.func74, Tryz.ntmps74
  go_upto_region 1 with fail
  change Code.wp _ _ _ _ (w.alloc (.cells #[.int .i64 0, .int .i64 0, .string ⟨#[]⟩, .slice none 0 0, .slice none 0 0, .int .i64 0, .bool false, .int .i64 0] 103))
  generalize w.alloc (.cells #[.int .i64 0, .int .i64 0, .string ⟨#[]⟩, .slice none 0 0, .slice none 0 0, .int .i64 0, .bool false, .int .i64 0] 103) = w0 at *
  go_wp2_with fail
  refine HI.out.mono ?_
  rintro e' w' ⟨rfl, hww⟩
  have hww := hww.symm
  subst hww
  go_wp2_with fail
  refine HCW.out.mono ?_
  rintro e' w5 ⟨out, z, nx, f, rfl, hgw, hb5⟩
  obtain ⟨zs, X, d, rfl, hzl, hsl, hpo⟩ : ∃ zs X d, out = .slice X (zs : List Nd).length d ∧ zs.length ≤ kn + 1 ∧ SlC w5 (fun k => w.heap.size < k) X (ncs zs) ∧ ∀ (Y : Option Addr) (dd : Nat) (W : World), zs.length ≤ dd → SlC W (fun k => w.heap.size ≤ k) Y (wcs (zs.map nwd)) → Gn w.heap.size l (j : Int) e (.slice Y zs.length dd) f W := by
   have hz := HG0.out.lt
   rcases hgw with ⟨p, rfl, rfl, her⟩ | ⟨rfl, zs, X, d, rfl, hd, hlz, hok, hsl, hdz⟩
   ·exact ⟨[], none, 0, rfl, Nat.zero_le _, SlC.nil _ _ _, fun Y dd W _ _ => .inl ⟨p, rfl, by rw [HRL.out, her]⟩⟩
   ·refine ⟨zs, X, d, rfl, by have := HKN.out; omega, hsl.weak fun k _ h => by omega, fun Y dd W h1 h2 => .inr ⟨rfl, zs.map nwd, Y, dd, by rw [List.length_map], by rw [List.length_map]; exact h1, by rw [HRL.out, hok, ← Q5D zs], h2⟩⟩
  have HPO := zh hpo
  clear hgw hpo
  have hz5 : w.heap.size < w5.heap.size := zT HG0.out.lt hb5.size
  have HN0 := zh (RowAt.new w5 103 #[.int .i64 0, .int .i64 0, .string ⟨#[]⟩, .slice none 0 0, .slice none 0 0, .int .i64 0, .bool false, .int .i64 0])
  have hb6 : Below w5.heap.size w5 ((w5.alloc (.cells #[.int .i64 0, .int .i64 0, .string ⟨#[]⟩, .slice none 0 0, .slice none 0 0, .int .i64 0, .bool false, .int .i64 0] 103)).setRow w5.heap.size (gv z nx f)) := ((zB _ _).alloc (zL _) _).trans (below_setRow (zL _) _)
  have HV2 := zh (HN0.out.setRow (gv z nx f))
  have HG2 := zh ((HG0.out.below hb5 HG0.out.lt).below hb6 hz5)
  have HB2 := zh ((HB0.out.trans (hb5.mono HB0.out.size)).trans (hb6.mono (Nat.le_of_lt hz5)))
  have HNM : Hid (∀ W, W = ((w5.alloc (.cells #[.int .i64 0, .int .i64 0, .string ⟨#[]⟩, .slice none 0 0, .slice none 0 0, .int .i64 0, .bool false, .int .i64 0] 103)).setRow w5.heap.size (gv z nx f)).drew → _) := zh fun W (hW : W = ((w5.alloc (.cells #[.int .i64 0, .int .i64 0, .string ⟨#[]⟩, .slice none 0 0, .slice none 0 0, .int .i64 0, .bool false, .int .i64 0] 103)).setRow w5.heap.size (gv z nx f)).drew) => Q4o X d zs W.heap.size W (zL _) (by omega) (by rw [hW]; exact ((hsl.keep9 (wb := ((w5.alloc (.cells #[.int .i64 0, .int .i64 0, .string ⟨#[]⟩, .slice none 0 0, .slice none 0 0, .int .i64 0, .bool false, .int .i64 0] 103)).setRow w5.heap.size (gv z nx f)).drew) fun k hk _ => hb6.block k hk).sl))
  clear hb5 hb6 hsl a0 a1 a2 a3 a4 HG0 HB0
  go_upto_region 4 with (first | (refine wpList_store_row rfl _ _ _ rfl w5.heap.size (gv z nx f) rfl rfl _ _ HN0.out (Q0I z nx f) rfl (by simp [gv, Value.oneCell']) ?_))
  clear HN0
  change Code.wp _ _ _ _ ((w5.alloc (.cells #[.int .i64 0, .int .i64 0, .string ⟨#[]⟩, .slice none 0 0, .slice none 0 0, .int .i64 0, .bool false, .int .i64 0] 103)).setRow w5.heap.size (gv z nx f))
  generalize (w5.alloc (.cells #[.int .i64 0, .int .i64 0, .string ⟨#[]⟩, .slice none 0 0, .slice none 0 0, .int .i64 0, .bool false, .int .i64 0] 103)).setRow w5.heap.size (gv z nx f) = W2 at *
  generalize w5.heap.size = g9 at *
  have hz2 : w.heap.size < W2.heap.size := HG2.out.lt
  refine Q0y (fun W => RowAt W g9 103 (gv z nx f) ∧ Below w.heap.size w W) ((.take 0 (.take 2 (.solo 1 (.take 3 (.solo 4 .nil)))))) (by kernel_rfl) (by kernel_rfl) rfl (by kernel_rfl) ⟨HV2.out.drew, HB2.out.drew⟩ ?_
  iterate 2
   (refine Q07 (zO rfl) ?_)
   (first
    | (refine Q08 (by rfl) ?_)
    | (refine Q03 (by rfl) (Q0R _ _ rfl g9 rfl _ (gv z nx f) _ (fun W h => h.1) Tryz.underlying103 rfl (Q0I z nx f)) ?_)
    | (refine Q03 (v := ?_) (by rfl) ?_ ?_; rotate_left 1; (intro wx hSx; go_simp; try with_reducible rfl)))
   (try simp only [Act.put, zA4, zA5, zA6])
  (refine Q02 (zO rfl) ?_)
  intro K hK
  go_simp
  refine (HNM.out W2.drew rfl).mono ?_
  rintro e' W3 ⟨Y, dd, rfl, hdd, hsy, hb3⟩
  have HS3 : Hid (RowAt W3 g9 103 (gv z nx f) ∧ Below w.heap.size w W3) := zh ⟨HV2.out.drew.below hb3 HV2.out.drew.lt, HB2.out.drew.trans (hb3.mono HB2.out.drew.size)⟩
  have HG3 := zh (HG2.out.drew.below hb3 HG2.out.drew.lt)
  have HY3 : Hid (SlC W3 (fun k => w.heap.size < k) Y (wcs (zs.map nwd))) := zh (hsy.weak fun k _ h => by have h9 : W2.heap.size ≤ k := h; omega)
  clear hb3 hsy
  refine hK.out _ _ HS3.out ?_
  clear hK K
  (try simp only [Act.put, zA4, zA5, zA6])
  iterate 1
   (refine Q07 (zO rfl) ?_)
   (first
    | (refine Q08 (by rfl) ?_)
    | (refine Q03 (by rfl) (Q0R _ _ rfl g9 rfl _ (gv z nx f) _ (fun W h => h.1) Tryz.underlying103 rfl (Q0I z nx f)) ?_)
    | (refine Q03 (v := ?_) (by rfl) ?_ ?_; rotate_left 1; (intro wx hSx; go_simp; try with_reducible rfl)))
   (try simp only [Act.put, zA4, zA5, zA6])
  (refine Q02 (zO rfl) ?_)
  intro K hK
  rw [if_pos (by rfl)]
  refine wp_store_row _ _ _ rfl w.heap.size (gv z nx f) rfl rfl _ _ HG3.out (Q0I z nx f) rfl (by simp [gv, Value.oneCell']) ?_
  have HB4 : Hid (Below w.heap.size w (W3.setRow w.heap.size (gv z nx f))) := zh (HS3.out.2.trans (below_setRow (zL _) _))
  have HR4 := zh (HG3.out.setRow (gv z nx f))
  have HY4 := zh (HY3.out.keep9 (wb := W3.setRow w.heap.size (gv z nx f)) fun k _ h => setRow_other _ _ k _ (by omega))
  have HS4 : Hid (RowAt (W3.setRow w.heap.size (gv z nx f)) g9 103 (gv z nx f) ∧ Below w.heap.size w (W3.setRow w.heap.size (gv z nx f))) := zh ⟨(setRow_other _ _ _ _ (by omega)).trans HS3.out.1, HB4.out⟩
  refine hK.out _ _ HS4.out ?_
  clear hK K
  (try simp only [Act.put, zA4, zA5, zA6])
  refine Q0s ?_
  go_wp2
  exact bodyPost_ret (Q0C rfl _ _ (.slice Y zs.length dd) w.heap.size _ _ (0, 0) _ rfl rfl HR4.out Tryz.underlying103 rfl (Q0I z nx f)) rfl (HQ.out _ _ ⟨_, z, nx, f, rfl, HPO.out Y dd _ hdd (HY4.out.weak fun k _ h => by omega), HB4.out⟩)
 ·rw [zF hk] at HI
  have HER : Hid (Q0K (rest l i) e = .error (Q00 (rest l i) e)) := zh (QcE hk)
  clear hk hb0
  generalize Q00 (rest l i) e = p at *
  generalize l.length = n at *
  go_enter Tryz.func74, Tryz.ntmps74
  go_upto_region 1 with fail
  change Code.wp _ _ _ _ (w.alloc (.cells #[.int .i64 0, .int .i64 0, .string ⟨#[]⟩, .slice none 0 0, .slice none 0 0, .int .i64 0, .bool false, .int .i64 0] 103))
  generalize w.alloc (.cells #[.int .i64 0, .int .i64 0, .string ⟨#[]⟩, .slice none 0 0, .slice none 0 0, .int .i64 0, .bool false, .int .i64 0] 103) = w0 at *
  go_wp2_with fail
  refine HI.out.mono ?_
  rintro e' w' ⟨rfl, hww⟩
  have hww := hww.symm
  subst hww
  go_wp2_with fail
  refine HW.out.mono ?_
  rintro e' w9 ⟨rfl, hb9⟩
  have HR9 := zh (HG0.out.below hb9 HG0.out.lt)
  have HB9 := zh (HB0.out.trans (hb9.mono HB0.out.size))
  clear hb9
  rw [Q7K]
  go_wp2_with (first | (refine wpList_store_row rfl _ _ _ rfl w.heap.size (gv n0 0 (some p)) rfl rfl _ _ HR9.out (Q0I _ _ _) rfl (by simp [gv, Value.oneCell']) ?_))
  exact bodyPost_ret (Q0C rfl _ _ (.slice none 0 0) w.heap.size _ _ (0, 0) _ rfl rfl (HR9.out.setRow (gv n0 0 (some p))) Tryz.underlying103 rfl (Q0I _ _ _)) rfl (HQ.out _ _ ⟨_, n0, 0, some p, rfl, .inl ⟨p, rfl, HER.out⟩, HB9.out.trans (below_setRow (zL _) _)⟩)
end
end Go.Proofs.YtmobcncgfbfmcaaGreatDoor
