/- Texts that all the claims need. Conditions: those that each states. -/

import Derived.Test.YtmffnkfohmbbeaaGreatDoorCh14
set_option linter.unusedSimpArgs false
set_option linter.unusedVariables false
set_option maxRecDepth 100000
set_option maxHeartbeats 40000000
namespace Go.Proofs.YtmffnkfohmbbeaaGreatDoor
section
open Go.RowKit LX TR TM CM
def HandN (rd : Rdr Nd) (l : List Tr) (e : Int) (z : Nd) (m : Nat) (fx fy : Int) : Prop :=
 (∃ p, rd l e = .error p ∧ fx = 2 ∧ fy = p ∧ m = 0) ∨ (rd l e = .ok (er1 z, l.drop m) ∧ fx = 0 ∧ fy = 0 ∧ m ≤ l.length)
theorem deep_n0' (w : World) (ok : Nat → Prop) : DeepN w ok [n0] := fun y hy => by
 obtain rfl : y = n0 := by simpa [TM.all, n0, nd] using hy
 exact ⟨⟨SlC.nil _ _ _, zL _⟩, SlC.nil _ _ _, zL _⟩
theorem Handed.n {s : Nat} {rd : Rdr Nd} {l : List Tr} {e : Int} {v : Value} {w : World} (h : Handed s rd l 0 e v w) :
 ∃ z m fx fy, v = .tuple #[.agg (nv z), .int .i64 ((m : Nat) : Int), .agg #[.int .i64 fx, .int .i64 fy]] ∧ DeepN w (fun k => s ≤ k) [z] ∧ HandN rd l e z m fx fy := by
 unfold Handed at h
 rw [rest_zero] at h
 cases hr : rd l e with
 | error p => rw [hr] at h; exact ⟨n0, 0, 2, p, h, deep_n0' _ _, .inl ⟨p, hr, rfl, rfl, rfl⟩⟩
 | ok xr =>
   obtain ⟨x, r⟩ := xr
   rw [hr] at h
   obtain ⟨z, i2, rfl, rfl, hd, ha, rfl⟩ := h
   obtain ⟨m, rfl, hm, hd2⟩ := ha.drop
   rw [rest_zero] at hm hd2
   exact ⟨z, m, 0, 0, by simp, hd, .inr ⟨by rw [hr, hd2], rfl, rfl, hm⟩⟩
theorem HandN.step {rd : Rdr Nd} {l : List Tr} {e : Int} {z : Nd} {m : Nat} {fx fy : Int} (h : HandN rd l e z m fx fy) : m ≤ l.length ∧ ∃ f2, fx = fc f2 ∧ fy = fa f2 ∧ StepL rd l e none (er1 z) (l.drop m) f2 := by
 rcases h with ⟨p, h1, rfl, rfl, rfl⟩ | ⟨h1, rfl, rfl, h4⟩
 ·exact ⟨Nat.zero_le _, some _, rfl, rfl, .err ⟨0, rfl⟩ (.inr ⟨rfl, h1⟩)⟩
 ·exact ⟨h4, none, rfl, rfl, .ok ⟨m, rfl⟩ h1⟩
theorem cterm_any {F : FuncId} {rd : Rdr Nd} {N : Nat} (hf : ∀ args w, (callFunc F args).run Tryz.prog w = .ok (.enter F args) w)
 (HF : ∀ (A : Option Addr) (c : Nat) (l : List Tr) (i e : Int) (w : World), Trs w w.heap.size A l → Few l → (nodes (rest l i)).length ≤ N →
  Calls Tryz.prog F #[.slice A l.length c, .int .i64 i, .int .i64 e] w fun e' w' => ∃ v, e' = .returned v ∧ Handed w.heap.size rd l i e v w' ∧ Below w.heap.size w w')
 {w : World} {b : Nat} {A : Option Addr} {c : Nat} {l : List Tr} {e : Int} {f : Option Int} (h : Cr w b A c l e f) (hN : (nodes l).length ≤ N) :
 Calls Tryz.prog 115 #[.pointer (some ⟨b, 0, none⟩), .func (.func F) #[] #[]] w fun e' w' => ∃ z A2 c2 l2 f2, e' = .returned (.agg (nv z)) ∧ DeepN w' (fun k => w.heap.size ≤ k) [z] ∧ Cr w' b A2 c2 l2 e f2 ∧ Mv b w w' ∧ StepL rd l e f (er1 z) l2 f2 := by
 have hbw := h.lt
 have hb1 : Below w.heap.size w (w.alloc (.cells #[.int .i64 0, .int .i64 0, .string ⟨#[]⟩, .slice none 0 0, .slice none 0 0] 28)) := (zB _ _).alloc (zL _) _
 have HG1 := zh (RowAt.new w 28 #[.int .i64 0, .int .i64 0, .string ⟨#[]⟩, .slice none 0 0, .slice none 0 0])
 have HM1 := zh (Mv.below hbw hb1)
 have HC1 := zh (h.below hb1)
 clear hb1
 refine calls_hid fun Q' hQ => ?_
 have HQ := zh hQ; clear hQ
 have HLEN := zh h.len
 clear h
 go_enter Tryz.func115, Tryz.ntmps115
 go_upto_region 1 with fail
 generalize w.alloc (.cells #[.int .i64 0, .int .i64 0, .string ⟨#[]⟩, .slice none 0 0, .slice none 0 0] 28) = w1 at *
 have hz1 : w.heap.size < w1.heap.size := HG1.out.lt
 have hb1w : b < w1.heap.size := by omega
 obtain ⟨c0, c1, c2, c3⟩ := cr_cells HC1.out.at_
 cases f with
 | some p =>
   simp only [fc, fa, Option.isSome_some, if_true, Option.getD_some] at c2 c3
   obtain ⟨g0, g1, g2, g3, g4, u0, u1, u2, u3, u4⟩ := row5 HG1.out
   go_wp2_with fail
   have hb2 : Below w.heap.size w1 (set5 w1 w.heap.size (.int .i64 0) (.int .i64 0) (.string ⟨#[]⟩) (.slice none 0 0) (.slice none 0 0)) := set5_below (zL _)
   exact bodyPost_ret (ret_cell rfl _ _ w.heap.size _ _ (0, 0) _ rfl (set5_row HG1.out) Tryz.underlying28 rfl (node_info _ _ _ _ _)) rfl (HQ.out _ _ ⟨n0, A, c, l, some p, rfl, deep_n0' _ _, HC1.out.low hb2 hbw, HM1.out.onBelow hbw hb2 (zL _), .err (suf_refl _) (.inl rfl)⟩)
 | none =>
   simp only [fc, fa, Option.isSome_none, Bool.false_eq_true, if_false, Option.getD_none] at c2 c3
   have HC : Hid (∀ W, Below w1.heap.size w1 W → Calls Tryz.prog F #[.slice A l.length c, .int .i64 0, .int .i64 e] W fun e' w' => ∃ z m fx fy, e' = .returned (.tuple #[.agg (nv z), .int .i64 ((m : Nat) : Int), .agg #[.int .i64 fx, .int .i64 fy]]) ∧ DeepN w' (fun k => W.heap.size ≤ k) [z] ∧ HandN rd l e z m fx fy ∧ Below W.heap.size W w') := zh fun W hW =>
    (HF A c l 0 e W ((HC1.out.trs.below (hW.mono (Nat.le_of_lt hb1w))).mono (by have := hW.size; omega)) HLEN.out (by rw [rest_zero]; exact hN)).mono fun e' w' ⟨v, h1, h2, h3⟩ => by
        obtain ⟨z, m, fx, fy, rfl, h4, h5⟩ := h2.n
        exact ⟨z, m, fx, fy, h1, h4, h5, h3⟩
   have C0 : ∀ W, Below w1.heap.size w1 W → W.cell? ⟨b, 0, none⟩ = some (.slice A l.length c) := fun W hW => (hW.cell (p := ⟨b, 0, none⟩) hb1w).trans c0
   have C1 : ∀ W, Below w1.heap.size w1 W → W.cell? ⟨b, 1, none⟩ = some (.int .i64 e) := fun W hW => (hW.cell (p := ⟨b, 1, none⟩) hb1w).trans c1
   clear HF HLEN
   generalize hln : l.length = ln at *
   have HLN := zh hln; clear hln
   go_upto_region 3 with fail
   clear c0 c1 c2 c3
   go_cut [5, 6, 7] from 15 to 28 (fun p5 p6 p7 wx => ∃ (z : Nd) (m : Nat) (fx fy : Int) (g5 g7 : Nat), p5 = .pointer (some ⟨g5, 0, none⟩) ∧ p6 = .int .i64 (m : Int) ∧ p7 = .pointer (some ⟨g7, 0, none⟩) ∧ Hid (RowAt wx g5 28 (nv z)) ∧ Hid (RowAt wx g7 39 #[.int .i64 fx, .int .i64 fy]) ∧ Hid (DeepN wx (fun k => w1.heap.size ≤ k ∧ k ≠ g5 ∧ k ≠ g7) [z]) ∧ Hid (HandN rd l e z m fx fy) ∧ Hid (Below w1.heap.size w1 wx) ∧ w1.heap.size ≤ g5 ∧ w1.heap.size ≤ g7)
   case first =>
    have HS0 : Hid (Below w1.heap.size w1 w1.drew) := (zB _ _).drew
    refine wp_region_ou (fun w' => Below w1.heap.size w1 w') ((.take 0 (.take 1 (.take 2 (.take 3 (.take 4 (.take 5 (.take 6 (.take 7 (.take 8 (.three 9 (.take 10 (.take 11 (.take 12 (.take 13 (.two 14 (.solo 15 (.solo 16 (.take 17 (.solo 18 .nil)))) 15 (.solo 14 (.solo 16 (.take 17 (.solo 18 .nil))))))))) 14 (.two 9 (.take 10 (.take 11 (.take 12 (.take 13 (.solo 15 (.solo 16 (.take 17 (.solo 18 .nil)))))))) 15 (.solo 9 (.take 10 (.take 11 (.take 12 (.take 13 (.solo 16 (.take 17 (.solo 18 .nil))))))))) 15 (.two 9 (.take 10 (.take 11 (.take 12 (.take 13 (.solo 14 (.solo 16 (.take 17 (.solo 18 .nil)))))))) 14 (.solo 9 (.take 10 (.take 11 (.take 12 (.take 13 (.solo 16 (.take 17 (.solo 18 .nil)))))))))))))))))))) (by kernel_rfl) (by kernel_rfl) rfl (by kernel_rfl) HS0.out ?_
    generalize w1.drew = v0 at HS0 ⊢
    have HSv0 := HS0
    iterate 9
        (refine wpOU_step (zO rfl) ?_)
        (first
         | (refine wpOU_skip (by rfl) ?_)
         | (refine wpOU_take (v := ?_) (by rfl) ?_ ?_; rotate_left 1; (intro wx hSx; have hc_0 := C0 wx hSx; have hc_1 := C1 wx hSx; go_simp; try with_reducible rfl)))
        (try simp only [Act.put, zA4, zA5, zA6])
    refine wpOU_three ?_ ?_ ?_
    ·(refine wpOU_solo (zO rfl) ?_)
     intro K hK
     go_simp
     refine (HC.out v0 HSv0.out).mono ?_
     rintro e' v1 ⟨z, m, fx, fy, rfl, hdn, hhn, hb⟩
     have HSv1 := zh (HSv0.out.trans (hb.mono HSv0.out.size))
     have hzv1 : w1.heap.size ≤ v0.heap.size := HSv0.out.size
     have HHN := zh hhn
     have HDv1 : Hid (DeepN v1 (fun k => w1.heap.size ≤ k) [z]) := zh (hdn.weak fun k hk h => by omega)
     clear hb hdn hhn
     refine hK.out _ _ HSv1.out ?_
     clear hK K
     (try simp only [Act.put, zA4, zA5, zA6])
     iterate 4
      (refine wpOU_step (zO rfl) ?_)
      (first
       | (refine wpOU_skip (by rfl) ?_)
       | (refine wpOU_take (v := ?_) (by rfl) ?_ ?_; rotate_left 1; (intro wx hSx; have hc_0 := C0 wx hSx; have hc_1 := C1 wx hSx; go_simp; try with_reducible rfl)))
      (try simp only [Act.put, zA4, zA5, zA6])
     refine wpOU_two ?_ ?_
     ·(refine wpOU_solo (zO rfl) ?_)
      intro K hK
      go_simp
      have hb : Below v1.heap.size v1 (v1.alloc (.cells #[.int .i64 0, .int .i64 0, .string ⟨#[]⟩, .slice none 0 0, .slice none 0 0] 28)) := (zB _ _).alloc (zL _) _
      have HSv2 := zh (HSv1.out.trans (hb.mono HSv1.out.size))
      have Hg5v2 := zh (RowAt.new v1 28 #[.int .i64 0, .int .i64 0, .string ⟨#[]⟩, .slice none 0 0, .slice none 0 0])
      have HZg5 := zh HSv1.out.size
      have HDv2 : Hid (DeepN (v1.alloc (.cells #[.int .i64 0, .int .i64 0, .string ⟨#[]⟩, .slice none 0 0, .slice none 0 0] 28)) (fun k => w1.heap.size ≤ k ∧ k ≠ v1.heap.size) [z]) := zh ((HDv1.out.weak (ok' := fun k => w1.heap.size ≤ k ∧ k ≠ v1.heap.size) fun k hk h => ⟨h, by omega⟩).keep9 fun k hk _ => hb.block k hk)
      clear hb
      refine hK.out _ _ HSv2.out ?_
      clear hK K
      (try simp only [Act.put, zA4, zA5, zA6])
      generalize hgb : v1.heap.size = g5 at *
      generalize (v1.alloc (.cells #[.int .i64 0, .int .i64 0, .string ⟨#[]⟩, .slice none 0 0, .slice none 0 0] 28)) = v2 at *
      clear hgb
      (refine wpOU_solo (zO rfl) ?_)
      intro K hK
      go_simp
      have hb : Below v2.heap.size v2 (v2.alloc (.cells #[.int .i64 0, .int .i64 0] 39)) := (zB _ _).alloc (zL _) _
      have HSv3 := zh (HSv2.out.trans (hb.mono HSv2.out.size))
      have Hg7v3 := zh (RowAt.new v2 39 #[.int .i64 0, .int .i64 0])
      have HZg7 := zh HSv2.out.size
      have Hg5v3 := zh (Hg5v2.out.below hb Hg5v2.out.lt)
      have HNE : Hid (g5 < v2.heap.size) := zh Hg5v2.out.lt
      have HDv3 : Hid (DeepN (v2.alloc (.cells #[.int .i64 0, .int .i64 0] 39)) (fun k => w1.heap.size ≤ k ∧ k ≠ g5 ∧ k ≠ v2.heap.size) [z]) := zh ((HDv2.out.weak (ok' := fun k => w1.heap.size ≤ k ∧ k ≠ g5 ∧ k ≠ v2.heap.size) fun k hk h => ⟨h.1, h.2, by omega⟩).keep9 fun k hk _ => hb.block k hk)
      clear hb
      refine hK.out _ _ HSv3.out ?_
      clear hK K
      (try simp only [Act.put, zA4, zA5, zA6])
      generalize hgb : v2.heap.size = g7 at *
      generalize (v2.alloc (.cells #[.int .i64 0, .int .i64 0] 39)) = v3 at *
      clear hgb
      (refine wpOU_solo (zO rfl) ?_)
      intro K hK
      have hne : g5 ≠ g7 := by have := HNE.out; omega
      have hz5 := HZg5.out
      have hz7 := HZg7.out
      rw [if_pos (by rfl)]
      refine wp_store_row _ _ _ rfl g5 (nv z) rfl rfl _ _ Hg5v3.out (node_info _ _ _ _ _) rfl (by simp [nv, Value.oneCell']) ?_
      have HSv9 : Hid (Below w1.heap.size w1 (v3.setRow g5 (nv z))) := zh (HSv3.out.trans (below_setRow hz5 _))
      have Hg5v9 := zh (Hg5v3.out.setRow (nv z))
      have Hg7v9 : Hid (RowAt (v3.setRow g5 (nv z)) g7 39 #[.int .i64 0, .int .i64 0]) := zh ((setRow_other v3 g5 g7 _ (Ne.symm hne)).trans Hg7v3.out)
      have HDv9 : Hid (DeepN (v3.setRow g5 (nv z)) (fun k => w1.heap.size ≤ k ∧ k ≠ g5 ∧ k ≠ g7) [z]) := zh (HDv3.out.keep9 fun k _ h => setRow_other v3 g5 k _ h.2.1)
      refine hK.out _ _ HSv9.out ?_
      clear hK K
      (try simp only [Act.put, zA4, zA5, zA6])
      generalize v3.setRow g5 (nv z) = v9 at *
      iterate 1
       (refine wpOU_step (zO rfl) ?_)
       (first
             | (refine wpOU_skip (by rfl) ?_)
             | (refine wpOU_take (v := ?_) (by rfl) ?_ ?_; rotate_left 1; (intro wx hSx; have hc_0 := C0 wx hSx; have hc_1 := C1 wx hSx; go_simp; try with_reducible rfl)))
       (try simp only [Act.put, zA4, zA5, zA6])
      (refine wpOU_solo (zO rfl) ?_)
      intro K hK
      rw [if_pos (by rfl)]
      refine wp_store_row _ _ _ rfl g7 #[.int .i64 fx, .int .i64 fy] rfl rfl _ _ Hg7v9.out (fault_info _ _) rfl (by simp [Value.oneCell']) ?_
      have HSz : Hid (Below w1.heap.size w1 (v9.setRow g7 #[.int .i64 fx, .int .i64 fy])) := zh (HSv9.out.trans (below_setRow hz7 _))
      have Hg7z := zh (Hg7v9.out.setRow #[.int .i64 fx, .int .i64 fy])
      have Hg5z : Hid (RowAt (v9.setRow g7 #[.int .i64 fx, .int .i64 fy]) g5 28 (nv z)) := zh ((setRow_other v9 g7 g5 _ hne).trans Hg5v9.out)
      have HDz : Hid (DeepN (v9.setRow g7 #[.int .i64 fx, .int .i64 fy]) (fun k => w1.heap.size ≤ k ∧ k ≠ g5 ∧ k ≠ g7) [z]) := zh (HDv9.out.keep9 fun k _ h => setRow_other v9 g7 k _ h.2.2)
      refine hK.out _ _ HSz.out ?_
      clear hK K
      (try simp only [Act.put, zA4, zA5, zA6])
      refine wpOU_done ?_
      go_wp2
      go_meet
      case rel => exact ⟨z, m, fx, fy, g5, g7, rfl, rfl, rfl, Hg5z.out, Hg7z.out, HDz.out, HHN.out, HSz.out, hz5, hz7⟩
     ·(refine wpOU_solo (zO rfl) ?_)
      intro K hK
      go_simp
      have hb : Below v1.heap.size v1 (v1.alloc (.cells #[.int .i64 0, .int .i64 0] 39)) := (zB _ _).alloc (zL _) _
      have HSv2 := zh (HSv1.out.trans (hb.mono HSv1.out.size))
      have Hg7v2 := zh (RowAt.new v1 39 #[.int .i64 0, .int .i64 0])
      have HZg7 := zh HSv1.out.size
      have HDv2 : Hid (DeepN (v1.alloc (.cells #[.int .i64 0, .int .i64 0] 39)) (fun k => w1.heap.size ≤ k ∧ k ≠ v1.heap.size) [z]) := zh ((HDv1.out.weak (ok' := fun k => w1.heap.size ≤ k ∧ k ≠ v1.heap.size) fun k hk h => ⟨h, by omega⟩).keep9 fun k hk _ => hb.block k hk)
      clear hb
      refine hK.out _ _ HSv2.out ?_
      clear hK K
      (try simp only [Act.put, zA4, zA5, zA6])
      generalize hgb : v1.heap.size = g7 at *
      generalize (v1.alloc (.cells #[.int .i64 0, .int .i64 0] 39)) = v2 at *
      clear hgb
      (refine wpOU_solo (zO rfl) ?_)
      intro K hK
      go_simp
      have hb : Below v2.heap.size v2 (v2.alloc (.cells #[.int .i64 0, .int .i64 0, .string ⟨#[]⟩, .slice none 0 0, .slice none 0 0] 28)) := (zB _ _).alloc (zL _) _
      have HSv3 := zh (HSv2.out.trans (hb.mono HSv2.out.size))
      have Hg5v3 := zh (RowAt.new v2 28 #[.int .i64 0, .int .i64 0, .string ⟨#[]⟩, .slice none 0 0, .slice none 0 0])
      have HZg5 := zh HSv2.out.size
      have Hg7v3 := zh (Hg7v2.out.below hb Hg7v2.out.lt)
      have HNE : Hid (g7 < v2.heap.size) := zh Hg7v2.out.lt
      have HDv3 : Hid (DeepN (v2.alloc (.cells #[.int .i64 0, .int .i64 0, .string ⟨#[]⟩, .slice none 0 0, .slice none 0 0] 28)) (fun k => w1.heap.size ≤ k ∧ k ≠ v2.heap.size ∧ k ≠ g7) [z]) := zh ((HDv2.out.weak (ok' := fun k => w1.heap.size ≤ k ∧ k ≠ v2.heap.size ∧ k ≠ g7) fun k hk h => ⟨h.1, by omega, h.2⟩).keep9 fun k hk _ => hb.block k hk)
      clear hb
      refine hK.out _ _ HSv3.out ?_
      clear hK K
      (try simp only [Act.put, zA4, zA5, zA6])
      generalize hgb : v2.heap.size = g5 at *
      generalize (v2.alloc (.cells #[.int .i64 0, .int .i64 0, .string ⟨#[]⟩, .slice none 0 0, .slice none 0 0] 28)) = v3 at *
      clear hgb
      (refine wpOU_solo (zO rfl) ?_)
      intro K hK
      have hne : g5 ≠ g7 := by have := HNE.out; omega
      have hz5 := HZg5.out
      have hz7 := HZg7.out
      rw [if_pos (by rfl)]
      refine wp_store_row _ _ _ rfl g5 (nv z) rfl rfl _ _ Hg5v3.out (node_info _ _ _ _ _) rfl (by simp [nv, Value.oneCell']) ?_
      have HSv9 : Hid (Below w1.heap.size w1 (v3.setRow g5 (nv z))) := zh (HSv3.out.trans (below_setRow hz5 _))
      have Hg5v9 := zh (Hg5v3.out.setRow (nv z))
      have Hg7v9 : Hid (RowAt (v3.setRow g5 (nv z)) g7 39 #[.int .i64 0, .int .i64 0]) := zh ((setRow_other v3 g5 g7 _ (Ne.symm hne)).trans Hg7v3.out)
      have HDv9 : Hid (DeepN (v3.setRow g5 (nv z)) (fun k => w1.heap.size ≤ k ∧ k ≠ g5 ∧ k ≠ g7) [z]) := zh (HDv3.out.keep9 fun k _ h => setRow_other v3 g5 k _ h.2.1)
      refine hK.out _ _ HSv9.out ?_
      clear hK K
      (try simp only [Act.put, zA4, zA5, zA6])
      generalize v3.setRow g5 (nv z) = v9 at *
      iterate 1
       (refine wpOU_step (zO rfl) ?_)
       (first
             | (refine wpOU_skip (by rfl) ?_)
             | (refine wpOU_take (v := ?_) (by rfl) ?_ ?_; rotate_left 1; (intro wx hSx; have hc_0 := C0 wx hSx; have hc_1 := C1 wx hSx; go_simp; try with_reducible rfl)))
       (try simp only [Act.put, zA4, zA5, zA6])
      (refine wpOU_solo (zO rfl) ?_)
      intro K hK
      rw [if_pos (by rfl)]
      refine wp_store_row _ _ _ rfl g7 #[.int .i64 fx, .int .i64 fy] rfl rfl _ _ Hg7v9.out (fault_info _ _) rfl (by simp [Value.oneCell']) ?_
      have HSz : Hid (Below w1.heap.size w1 (v9.setRow g7 #[.int .i64 fx, .int .i64 fy])) := zh (HSv9.out.trans (below_setRow hz7 _))
      have Hg7z := zh (Hg7v9.out.setRow #[.int .i64 fx, .int .i64 fy])
      have Hg5z : Hid (RowAt (v9.setRow g7 #[.int .i64 fx, .int .i64 fy]) g5 28 (nv z)) := zh ((setRow_other v9 g7 g5 _ hne).trans Hg5v9.out)
      have HDz : Hid (DeepN (v9.setRow g7 #[.int .i64 fx, .int .i64 fy]) (fun k => w1.heap.size ≤ k ∧ k ≠ g5 ∧ k ≠ g7) [z]) := zh (HDv9.out.keep9 fun k _ h => setRow_other v9 g7 k _ h.2.2)
      refine hK.out _ _ HSz.out ?_
      clear hK K
      (try simp only [Act.put, zA4, zA5, zA6])
      refine wpOU_done ?_
      go_wp2
      go_meet
      case rel => exact ⟨z, m, fx, fy, g5, g7, rfl, rfl, rfl, Hg5z.out, Hg7z.out, HDz.out, HHN.out, HSz.out, hz5, hz7⟩
    ·(refine wpOU_solo (zO rfl) ?_)
     intro K hK
     go_simp
     have hb : Below v0.heap.size v0 (v0.alloc (.cells #[.int .i64 0, .int .i64 0, .string ⟨#[]⟩, .slice none 0 0, .slice none 0 0] 28)) := (zB _ _).alloc (zL _) _
     have HSv1 := zh (HSv0.out.trans (hb.mono HSv0.out.size))
     have Hg5v1 := zh (RowAt.new v0 28 #[.int .i64 0, .int .i64 0, .string ⟨#[]⟩, .slice none 0 0, .slice none 0 0])
     have HZg5 := zh HSv0.out.size
     clear hb
     refine hK.out _ _ HSv1.out ?_
     clear hK K
     (try simp only [Act.put, zA4, zA5, zA6])
     generalize hgb : v0.heap.size = g5 at *
     generalize (v0.alloc (.cells #[.int .i64 0, .int .i64 0, .string ⟨#[]⟩, .slice none 0 0, .slice none 0 0] 28)) = v1 at *
     clear hgb
     refine wpOU_two ?_ ?_
     ·(refine wpOU_solo (zO rfl) ?_)
      intro K hK
      go_simp
      refine (HC.out v1 HSv1.out).mono ?_
      rintro e' v2 ⟨z, m, fx, fy, rfl, hdn, hhn, hb⟩
      have HSv2 := zh (HSv1.out.trans (hb.mono HSv1.out.size))
      have hzv2 : w1.heap.size ≤ v1.heap.size := HSv1.out.size
      have HHN := zh hhn
      have hzzg5 := Hg5v1.out.lt
      have Hg5v2 := zh (Hg5v1.out.below hb Hg5v1.out.lt)
      have HDv2 : Hid (DeepN v2 (fun k => w1.heap.size ≤ k ∧ k ≠ g5) [z]) := zh (hdn.weak fun k hk h => ⟨by omega, by omega⟩)
      clear hb hdn hhn
      refine hK.out _ _ HSv2.out ?_
      clear hK K
      (try simp only [Act.put, zA4, zA5, zA6])
      iterate 4
       (refine wpOU_step (zO rfl) ?_)
       (first
             | (refine wpOU_skip (by rfl) ?_)
             | (refine wpOU_take (v := ?_) (by rfl) ?_ ?_; rotate_left 1; (intro wx hSx; have hc_0 := C0 wx hSx; have hc_1 := C1 wx hSx; go_simp; try with_reducible rfl)))
       (try simp only [Act.put, zA4, zA5, zA6])
      (refine wpOU_solo (zO rfl) ?_)
      intro K hK
      go_simp
      have hb : Below v2.heap.size v2 (v2.alloc (.cells #[.int .i64 0, .int .i64 0] 39)) := (zB _ _).alloc (zL _) _
      have HSv3 := zh (HSv2.out.trans (hb.mono HSv2.out.size))
      have Hg7v3 := zh (RowAt.new v2 39 #[.int .i64 0, .int .i64 0])
      have HZg7 := zh HSv2.out.size
      have Hg5v3 := zh (Hg5v2.out.below hb Hg5v2.out.lt)
      have HNE : Hid (g5 < v2.heap.size) := zh Hg5v2.out.lt
      have HDv3 : Hid (DeepN (v2.alloc (.cells #[.int .i64 0, .int .i64 0] 39)) (fun k => w1.heap.size ≤ k ∧ k ≠ g5 ∧ k ≠ v2.heap.size) [z]) := zh ((HDv2.out.weak (ok' := fun k => w1.heap.size ≤ k ∧ k ≠ g5 ∧ k ≠ v2.heap.size) fun k hk h => ⟨h.1, h.2, by omega⟩).keep9 fun k hk _ => hb.block k hk)
      clear hb
      refine hK.out _ _ HSv3.out ?_
      clear hK K
      (try simp only [Act.put, zA4, zA5, zA6])
      generalize hgb : v2.heap.size = g7 at *
      generalize (v2.alloc (.cells #[.int .i64 0, .int .i64 0] 39)) = v3 at *
      clear hgb
      (refine wpOU_solo (zO rfl) ?_)
      intro K hK
      have hne : g5 ≠ g7 := by have := HNE.out; omega
      have hz5 := HZg5.out
      have hz7 := HZg7.out
      rw [if_pos (by rfl)]
      refine wp_store_row _ _ _ rfl g5 (nv z) rfl rfl _ _ Hg5v3.out (node_info _ _ _ _ _) rfl (by simp [nv, Value.oneCell']) ?_
      have HSv9 : Hid (Below w1.heap.size w1 (v3.setRow g5 (nv z))) := zh (HSv3.out.trans (below_setRow hz5 _))
      have Hg5v9 := zh (Hg5v3.out.setRow (nv z))
      have Hg7v9 : Hid (RowAt (v3.setRow g5 (nv z)) g7 39 #[.int .i64 0, .int .i64 0]) := zh ((setRow_other v3 g5 g7 _ (Ne.symm hne)).trans Hg7v3.out)
      have HDv9 : Hid (DeepN (v3.setRow g5 (nv z)) (fun k => w1.heap.size ≤ k ∧ k ≠ g5 ∧ k ≠ g7) [z]) := zh (HDv3.out.keep9 fun k _ h => setRow_other v3 g5 k _ h.2.1)
      refine hK.out _ _ HSv9.out ?_
      clear hK K
      (try simp only [Act.put, zA4, zA5, zA6])
      generalize v3.setRow g5 (nv z) = v9 at *
      iterate 1
       (refine wpOU_step (zO rfl) ?_)
       (first
             | (refine wpOU_skip (by rfl) ?_)
             | (refine wpOU_take (v := ?_) (by rfl) ?_ ?_; rotate_left 1; (intro wx hSx; have hc_0 := C0 wx hSx; have hc_1 := C1 wx hSx; go_simp; try with_reducible rfl)))
       (try simp only [Act.put, zA4, zA5, zA6])
      (refine wpOU_solo (zO rfl) ?_)
      intro K hK
      rw [if_pos (by rfl)]
      refine wp_store_row _ _ _ rfl g7 #[.int .i64 fx, .int .i64 fy] rfl rfl _ _ Hg7v9.out (fault_info _ _) rfl (by simp [Value.oneCell']) ?_
      have HSz : Hid (Below w1.heap.size w1 (v9.setRow g7 #[.int .i64 fx, .int .i64 fy])) := zh (HSv9.out.trans (below_setRow hz7 _))
      have Hg7z := zh (Hg7v9.out.setRow #[.int .i64 fx, .int .i64 fy])
      have Hg5z : Hid (RowAt (v9.setRow g7 #[.int .i64 fx, .int .i64 fy]) g5 28 (nv z)) := zh ((setRow_other v9 g7 g5 _ hne).trans Hg5v9.out)
      have HDz : Hid (DeepN (v9.setRow g7 #[.int .i64 fx, .int .i64 fy]) (fun k => w1.heap.size ≤ k ∧ k ≠ g5 ∧ k ≠ g7) [z]) := zh (HDv9.out.keep9 fun k _ h => setRow_other v9 g7 k _ h.2.2)
      refine hK.out _ _ HSz.out ?_
      clear hK K
      (try simp only [Act.put, zA4, zA5, zA6])
      refine wpOU_done ?_
      go_wp2
      go_meet
      case rel => exact ⟨z, m, fx, fy, g5, g7, rfl, rfl, rfl, Hg5z.out, Hg7z.out, HDz.out, HHN.out, HSz.out, hz5, hz7⟩
     ·(refine wpOU_solo (zO rfl) ?_)
      intro K hK
      go_simp
      have hb : Below v1.heap.size v1 (v1.alloc (.cells #[.int .i64 0, .int .i64 0] 39)) := (zB _ _).alloc (zL _) _
      have HSv2 := zh (HSv1.out.trans (hb.mono HSv1.out.size))
      have Hg7v2 := zh (RowAt.new v1 39 #[.int .i64 0, .int .i64 0])
      have HZg7 := zh HSv1.out.size
      have Hg5v2 := zh (Hg5v1.out.below hb Hg5v1.out.lt)
      have HNE : Hid (g5 < v1.heap.size) := zh Hg5v1.out.lt
      clear hb
      refine hK.out _ _ HSv2.out ?_
      clear hK K
      (try simp only [Act.put, zA4, zA5, zA6])
      generalize hgb : v1.heap.size = g7 at *
      generalize (v1.alloc (.cells #[.int .i64 0, .int .i64 0] 39)) = v2 at *
      clear hgb
      (refine wpOU_solo (zO rfl) ?_)
      intro K hK
      go_simp
      refine (HC.out v2 HSv2.out).mono ?_
      rintro e' v3 ⟨z, m, fx, fy, rfl, hdn, hhn, hb⟩
      have HSv3 := zh (HSv2.out.trans (hb.mono HSv2.out.size))
      have hzv3 : w1.heap.size ≤ v2.heap.size := HSv2.out.size
      have HHN := zh hhn
      have hzzg5 := Hg5v2.out.lt
      have Hg5v3 := zh (Hg5v2.out.below hb Hg5v2.out.lt)
      have hzzg7 := Hg7v2.out.lt
      have Hg7v3 := zh (Hg7v2.out.below hb Hg7v2.out.lt)
      have HDv3 : Hid (DeepN v3 (fun k => w1.heap.size ≤ k ∧ k ≠ g5 ∧ k ≠ g7) [z]) := zh (hdn.weak fun k hk h => ⟨by omega, by omega, by omega⟩)
      clear hb hdn hhn
      refine hK.out _ _ HSv3.out ?_
      clear hK K
      (try simp only [Act.put, zA4, zA5, zA6])
      iterate 4
       (refine wpOU_step (zO rfl) ?_)
       (first
             | (refine wpOU_skip (by rfl) ?_)
             | (refine wpOU_take (v := ?_) (by rfl) ?_ ?_; rotate_left 1; (intro wx hSx; have hc_0 := C0 wx hSx; have hc_1 := C1 wx hSx; go_simp; try with_reducible rfl)))
       (try simp only [Act.put, zA4, zA5, zA6])
      (refine wpOU_solo (zO rfl) ?_)
      intro K hK
      have hne : g5 ≠ g7 := by have := HNE.out; omega
      have hz5 := HZg5.out
      have hz7 := HZg7.out
      rw [if_pos (by rfl)]
      refine wp_store_row _ _ _ rfl g5 (nv z) rfl rfl _ _ Hg5v3.out (node_info _ _ _ _ _) rfl (by simp [nv, Value.oneCell']) ?_
      have HSv9 : Hid (Below w1.heap.size w1 (v3.setRow g5 (nv z))) := zh (HSv3.out.trans (below_setRow hz5 _))
      have Hg5v9 := zh (Hg5v3.out.setRow (nv z))
      have Hg7v9 : Hid (RowAt (v3.setRow g5 (nv z)) g7 39 #[.int .i64 0, .int .i64 0]) := zh ((setRow_other v3 g5 g7 _ (Ne.symm hne)).trans Hg7v3.out)
      have HDv9 : Hid (DeepN (v3.setRow g5 (nv z)) (fun k => w1.heap.size ≤ k ∧ k ≠ g5 ∧ k ≠ g7) [z]) := zh (HDv3.out.keep9 fun k _ h => setRow_other v3 g5 k _ h.2.1)
      refine hK.out _ _ HSv9.out ?_
      clear hK K
      (try simp only [Act.put, zA4, zA5, zA6])
      generalize v3.setRow g5 (nv z) = v9 at *
      iterate 1
       (refine wpOU_step (zO rfl) ?_)
       (first
             | (refine wpOU_skip (by rfl) ?_)
             | (refine wpOU_take (v := ?_) (by rfl) ?_ ?_; rotate_left 1; (intro wx hSx; have hc_0 := C0 wx hSx; have hc_1 := C1 wx hSx; go_simp; try with_reducible rfl)))
       (try simp only [Act.put, zA4, zA5, zA6])
      (refine wpOU_solo (zO rfl) ?_)
      intro K hK
      rw [if_pos (by rfl)]
      refine wp_store_row _ _ _ rfl g7 #[.int .i64 fx, .int .i64 fy] rfl rfl _ _ Hg7v9.out (fault_info _ _) rfl (by simp [Value.oneCell']) ?_
      have HSz : Hid (Below w1.heap.size w1 (v9.setRow g7 #[.int .i64 fx, .int .i64 fy])) := zh (HSv9.out.trans (below_setRow hz7 _))
      have Hg7z := zh (Hg7v9.out.setRow #[.int .i64 fx, .int .i64 fy])
      have Hg5z : Hid (RowAt (v9.setRow g7 #[.int .i64 fx, .int .i64 fy]) g5 28 (nv z)) := zh ((setRow_other v9 g7 g5 _ hne).trans Hg5v9.out)
      have HDz : Hid (DeepN (v9.setRow g7 #[.int .i64 fx, .int .i64 fy]) (fun k => w1.heap.size ≤ k ∧ k ≠ g5 ∧ k ≠ g7) [z]) := zh (HDv9.out.keep9 fun k _ h => setRow_other v9 g7 k _ h.2.2)
      refine hK.out _ _ HSz.out ?_
      clear hK K
      (try simp only [Act.put, zA4, zA5, zA6])
      refine wpOU_done ?_
      go_wp2
      go_meet
      case rel => exact ⟨z, m, fx, fy, g5, g7, rfl, rfl, rfl, Hg5z.out, Hg7z.out, HDz.out, HHN.out, HSz.out, hz5, hz7⟩
    ·(refine wpOU_solo (zO rfl) ?_)
     intro K hK
     go_simp
     have hb : Below v0.heap.size v0 (v0.alloc (.cells #[.int .i64 0, .int .i64 0] 39)) := (zB _ _).alloc (zL _) _
     have HSv1 := zh (HSv0.out.trans (hb.mono HSv0.out.size))
     have Hg7v1 := zh (RowAt.new v0 39 #[.int .i64 0, .int .i64 0])
     have HZg7 := zh HSv0.out.size
     clear hb
     refine hK.out _ _ HSv1.out ?_
     clear hK K
     (try simp only [Act.put, zA4, zA5, zA6])
     generalize hgb : v0.heap.size = g7 at *
     generalize (v0.alloc (.cells #[.int .i64 0, .int .i64 0] 39)) = v1 at *
     clear hgb
     refine wpOU_two ?_ ?_
     ·(refine wpOU_solo (zO rfl) ?_)
      intro K hK
      go_simp
      refine (HC.out v1 HSv1.out).mono ?_
      rintro e' v2 ⟨z, m, fx, fy, rfl, hdn, hhn, hb⟩
      have HSv2 := zh (HSv1.out.trans (hb.mono HSv1.out.size))
      have hzv2 : w1.heap.size ≤ v1.heap.size := HSv1.out.size
      have HHN := zh hhn
      have hzzg7 := Hg7v1.out.lt
      have Hg7v2 := zh (Hg7v1.out.below hb Hg7v1.out.lt)
      have HDv2 : Hid (DeepN v2 (fun k => w1.heap.size ≤ k ∧ k ≠ g7) [z]) := zh (hdn.weak fun k hk h => ⟨by omega, by omega⟩)
      clear hb hdn hhn
      refine hK.out _ _ HSv2.out ?_
      clear hK K
      (try simp only [Act.put, zA4, zA5, zA6])
      iterate 4
       (refine wpOU_step (zO rfl) ?_)
       (first
             | (refine wpOU_skip (by rfl) ?_)
             | (refine wpOU_take (v := ?_) (by rfl) ?_ ?_; rotate_left 1; (intro wx hSx; have hc_0 := C0 wx hSx; have hc_1 := C1 wx hSx; go_simp; try with_reducible rfl)))
       (try simp only [Act.put, zA4, zA5, zA6])
      (refine wpOU_solo (zO rfl) ?_)
      intro K hK
      go_simp
      have hb : Below v2.heap.size v2 (v2.alloc (.cells #[.int .i64 0, .int .i64 0, .string ⟨#[]⟩, .slice none 0 0, .slice none 0 0] 28)) := (zB _ _).alloc (zL _) _
      have HSv3 := zh (HSv2.out.trans (hb.mono HSv2.out.size))
      have Hg5v3 := zh (RowAt.new v2 28 #[.int .i64 0, .int .i64 0, .string ⟨#[]⟩, .slice none 0 0, .slice none 0 0])
      have HZg5 := zh HSv2.out.size
      have Hg7v3 := zh (Hg7v2.out.below hb Hg7v2.out.lt)
      have HNE : Hid (g7 < v2.heap.size) := zh Hg7v2.out.lt
      have HDv3 : Hid (DeepN (v2.alloc (.cells #[.int .i64 0, .int .i64 0, .string ⟨#[]⟩, .slice none 0 0, .slice none 0 0] 28)) (fun k => w1.heap.size ≤ k ∧ k ≠ v2.heap.size ∧ k ≠ g7) [z]) := zh ((HDv2.out.weak (ok' := fun k => w1.heap.size ≤ k ∧ k ≠ v2.heap.size ∧ k ≠ g7) fun k hk h => ⟨h.1, by omega, h.2⟩).keep9 fun k hk _ => hb.block k hk)
      clear hb
      refine hK.out _ _ HSv3.out ?_
      clear hK K
      (try simp only [Act.put, zA4, zA5, zA6])
      generalize hgb : v2.heap.size = g5 at *
      generalize (v2.alloc (.cells #[.int .i64 0, .int .i64 0, .string ⟨#[]⟩, .slice none 0 0, .slice none 0 0] 28)) = v3 at *
      clear hgb
      (refine wpOU_solo (zO rfl) ?_)
      intro K hK
      have hne : g5 ≠ g7 := by have := HNE.out; omega
      have hz5 := HZg5.out
      have hz7 := HZg7.out
      rw [if_pos (by rfl)]
      refine wp_store_row _ _ _ rfl g5 (nv z) rfl rfl _ _ Hg5v3.out (node_info _ _ _ _ _) rfl (by simp [nv, Value.oneCell']) ?_
      have HSv9 : Hid (Below w1.heap.size w1 (v3.setRow g5 (nv z))) := zh (HSv3.out.trans (below_setRow hz5 _))
      have Hg5v9 := zh (Hg5v3.out.setRow (nv z))
      have Hg7v9 : Hid (RowAt (v3.setRow g5 (nv z)) g7 39 #[.int .i64 0, .int .i64 0]) := zh ((setRow_other v3 g5 g7 _ (Ne.symm hne)).trans Hg7v3.out)
      have HDv9 : Hid (DeepN (v3.setRow g5 (nv z)) (fun k => w1.heap.size ≤ k ∧ k ≠ g5 ∧ k ≠ g7) [z]) := zh (HDv3.out.keep9 fun k _ h => setRow_other v3 g5 k _ h.2.1)
      refine hK.out _ _ HSv9.out ?_
      clear hK K
      (try simp only [Act.put, zA4, zA5, zA6])
      generalize v3.setRow g5 (nv z) = v9 at *
      iterate 1
       (refine wpOU_step (zO rfl) ?_)
       (first
             | (refine wpOU_skip (by rfl) ?_)
             | (refine wpOU_take (v := ?_) (by rfl) ?_ ?_; rotate_left 1; (intro wx hSx; have hc_0 := C0 wx hSx; have hc_1 := C1 wx hSx; go_simp; try with_reducible rfl)))
       (try simp only [Act.put, zA4, zA5, zA6])
      (refine wpOU_solo (zO rfl) ?_)
      intro K hK
      rw [if_pos (by rfl)]
      refine wp_store_row _ _ _ rfl g7 #[.int .i64 fx, .int .i64 fy] rfl rfl _ _ Hg7v9.out (fault_info _ _) rfl (by simp [Value.oneCell']) ?_
      have HSz : Hid (Below w1.heap.size w1 (v9.setRow g7 #[.int .i64 fx, .int .i64 fy])) := zh (HSv9.out.trans (below_setRow hz7 _))
      have Hg7z := zh (Hg7v9.out.setRow #[.int .i64 fx, .int .i64 fy])
      have Hg5z : Hid (RowAt (v9.setRow g7 #[.int .i64 fx, .int .i64 fy]) g5 28 (nv z)) := zh ((setRow_other v9 g7 g5 _ hne).trans Hg5v9.out)
      have HDz : Hid (DeepN (v9.setRow g7 #[.int .i64 fx, .int .i64 fy]) (fun k => w1.heap.size ≤ k ∧ k ≠ g5 ∧ k ≠ g7) [z]) := zh (HDv9.out.keep9 fun k _ h => setRow_other v9 g7 k _ h.2.2)
      refine hK.out _ _ HSz.out ?_
      clear hK K
      (try simp only [Act.put, zA4, zA5, zA6])
      refine wpOU_done ?_
      go_wp2
      go_meet
      case rel => exact ⟨z, m, fx, fy, g5, g7, rfl, rfl, rfl, Hg5z.out, Hg7z.out, HDz.out, HHN.out, HSz.out, hz5, hz7⟩
     ·(refine wpOU_solo (zO rfl) ?_)
      intro K hK
      go_simp
      have hb : Below v1.heap.size v1 (v1.alloc (.cells #[.int .i64 0, .int .i64 0, .string ⟨#[]⟩, .slice none 0 0, .slice none 0 0] 28)) := (zB _ _).alloc (zL _) _
      have HSv2 := zh (HSv1.out.trans (hb.mono HSv1.out.size))
      have Hg5v2 := zh (RowAt.new v1 28 #[.int .i64 0, .int .i64 0, .string ⟨#[]⟩, .slice none 0 0, .slice none 0 0])
      have HZg5 := zh HSv1.out.size
      have Hg7v2 := zh (Hg7v1.out.below hb Hg7v1.out.lt)
      have HNE : Hid (g7 < v1.heap.size) := zh Hg7v1.out.lt
      clear hb
      refine hK.out _ _ HSv2.out ?_
      clear hK K
      (try simp only [Act.put, zA4, zA5, zA6])
      generalize hgb : v1.heap.size = g5 at *
      generalize (v1.alloc (.cells #[.int .i64 0, .int .i64 0, .string ⟨#[]⟩, .slice none 0 0, .slice none 0 0] 28)) = v2 at *
      clear hgb
      (refine wpOU_solo (zO rfl) ?_)
      intro K hK
      go_simp
      refine (HC.out v2 HSv2.out).mono ?_
      rintro e' v3 ⟨z, m, fx, fy, rfl, hdn, hhn, hb⟩
      have HSv3 := zh (HSv2.out.trans (hb.mono HSv2.out.size))
      have hzv3 : w1.heap.size ≤ v2.heap.size := HSv2.out.size
      have HHN := zh hhn
      have hzzg7 := Hg7v2.out.lt
      have Hg7v3 := zh (Hg7v2.out.below hb Hg7v2.out.lt)
      have hzzg5 := Hg5v2.out.lt
      have Hg5v3 := zh (Hg5v2.out.below hb Hg5v2.out.lt)
      have HDv3 : Hid (DeepN v3 (fun k => w1.heap.size ≤ k ∧ k ≠ g5 ∧ k ≠ g7) [z]) := zh (hdn.weak fun k hk h => ⟨by omega, by omega, by omega⟩)
      clear hb hdn hhn
      refine hK.out _ _ HSv3.out ?_
      clear hK K
      (try simp only [Act.put, zA4, zA5, zA6])
      iterate 4
       (refine wpOU_step (zO rfl) ?_)
       (first
             | (refine wpOU_skip (by rfl) ?_)
             | (refine wpOU_take (v := ?_) (by rfl) ?_ ?_; rotate_left 1; (intro wx hSx; have hc_0 := C0 wx hSx; have hc_1 := C1 wx hSx; go_simp; try with_reducible rfl)))
       (try simp only [Act.put, zA4, zA5, zA6])
      (refine wpOU_solo (zO rfl) ?_)
      intro K hK
      have hne : g5 ≠ g7 := by have := HNE.out; omega
      have hz5 := HZg5.out
      have hz7 := HZg7.out
      rw [if_pos (by rfl)]
      refine wp_store_row _ _ _ rfl g5 (nv z) rfl rfl _ _ Hg5v3.out (node_info _ _ _ _ _) rfl (by simp [nv, Value.oneCell']) ?_
      have HSv9 : Hid (Below w1.heap.size w1 (v3.setRow g5 (nv z))) := zh (HSv3.out.trans (below_setRow hz5 _))
      have Hg5v9 := zh (Hg5v3.out.setRow (nv z))
      have Hg7v9 : Hid (RowAt (v3.setRow g5 (nv z)) g7 39 #[.int .i64 0, .int .i64 0]) := zh ((setRow_other v3 g5 g7 _ (Ne.symm hne)).trans Hg7v3.out)
      have HDv9 : Hid (DeepN (v3.setRow g5 (nv z)) (fun k => w1.heap.size ≤ k ∧ k ≠ g5 ∧ k ≠ g7) [z]) := zh (HDv3.out.keep9 fun k _ h => setRow_other v3 g5 k _ h.2.1)
      refine hK.out _ _ HSv9.out ?_
      clear hK K
      (try simp only [Act.put, zA4, zA5, zA6])
      generalize v3.setRow g5 (nv z) = v9 at *
      iterate 1
       (refine wpOU_step (zO rfl) ?_)
       (first
             | (refine wpOU_skip (by rfl) ?_)
             | (refine wpOU_take (v := ?_) (by rfl) ?_ ?_; rotate_left 1; (intro wx hSx; have hc_0 := C0 wx hSx; have hc_1 := C1 wx hSx; go_simp; try with_reducible rfl)))
       (try simp only [Act.put, zA4, zA5, zA6])
      (refine wpOU_solo (zO rfl) ?_)
      intro K hK
      rw [if_pos (by rfl)]
      refine wp_store_row _ _ _ rfl g7 #[.int .i64 fx, .int .i64 fy] rfl rfl _ _ Hg7v9.out (fault_info _ _) rfl (by simp [Value.oneCell']) ?_
      have HSz : Hid (Below w1.heap.size w1 (v9.setRow g7 #[.int .i64 fx, .int .i64 fy])) := zh (HSv9.out.trans (below_setRow hz7 _))
      have Hg7z := zh (Hg7v9.out.setRow #[.int .i64 fx, .int .i64 fy])
      have Hg5z : Hid (RowAt (v9.setRow g7 #[.int .i64 fx, .int .i64 fy]) g5 28 (nv z)) := zh ((setRow_other v9 g7 g5 _ hne).trans Hg5v9.out)
      have HDz : Hid (DeepN (v9.setRow g7 #[.int .i64 fx, .int .i64 fy]) (fun k => w1.heap.size ≤ k ∧ k ≠ g5 ∧ k ≠ g7) [z]) := zh (HDv9.out.keep9 fun k _ h => setRow_other v9 g7 k _ h.2.2)
      refine hK.out _ _ HSz.out ?_
      clear hK K
      (try simp only [Act.put, zA4, zA5, zA6])
      refine wpOU_done ?_
      go_wp2
      go_meet
      case rel => exact ⟨z, m, fx, fy, g5, g7, rfl, rfl, rfl, Hg5z.out, Hg7z.out, HDz.out, HHN.out, HSz.out, hz5, hz7⟩
   case rest =>
    obtain ⟨z, m, fx, fy, g5, g7, rfl, rfl, rfl, H5, H7, HD, HHN, HB, hz5, hz7⟩ := hcut
    obtain ⟨hm, f2, rfl, rfl, hst⟩ := HHN.out.step
    rw [HLN.out] at hm
    have HST := zh hst
    have hcr := HC1.out.low HB.out hb1w
    have hcap := hcr.cap
    rw [HLN.out] at hcap
    have f0c := hcr.at_.free 0
    have f2c := hcr.at_.free 2
    have f3c := hcr.at_.free 3
    obtain ⟨b0, _, b2, b3⟩ := cr_cells hcr.at_
    rw [HLN.out] at b0
    obtain ⟨x0, x1, x2, x3, x4, _, _, _, _, _⟩ := row5 H5.out
    obtain ⟨r0', r1', _, _⟩ := row2 H7.out
    have hwc : w1.heap.size ≤ wc.heap.size := HB.out.size
    have hbwc : b < wc.heap.size := by omega
    have HMC : Hid (Mv b w wc) := zh (HM1.out.trans (Mv.below hb1w HB.out))
    have HGC := zh (HG1.out.below HB.out hz1)
    have HEND : Hid (∀ A2 c2, A2 = advA A c m → c2 = c - m → ∀ W, W = (((wc.setCell ⟨b, 0, none⟩ (.slice A2 (ln - m) c2)).setCell ⟨b, 2, none⟩ (.int .i64 (fc f2))).setCell ⟨b, 3, none⟩ (.int .i64 (fa f2))).drew →
     (RowAt W g5 28 (nv z) ∧ RowAt W w.heap.size 28 #[.int .i64 0, .int .i64 0, .string ⟨#[]⟩, .slice none 0 0, .slice none 0 0]) ∧ ∀ V, V = set5 W w.heap.size (.int .i64 z.k) (.int .i64 z.p) (.string z.s) (.slice z.A z.ws.length z.c) (.slice z.B z.ks.length z.d) →
     RowAt V w.heap.size 28 (nv z) ∧ Q' (.returned (.agg (nv z))) V) := zh fun A2 c2 hA hc W hW => by
        subst hA hc
        have hmw : Mv b wc W := by
         rw [hW]
         exact ((((Mv.refl b wc).setCell (p := ⟨b, 0, none⟩) (.inl rfl) hbwc _).setCell (p := ⟨b, 2, none⟩) (.inl rfl) hbwc _).setCell (p := ⟨b, 3, none⟩) (.inl rfl) hbwc _).drew
        have hrow : CrAt W b (advA A c m) (l.drop m).length (c - m) e (fc f2) (fa f2) := by
         rw [List.length_drop, HLN.out, hW]
         exact (((hcr.at_.put 0 (.slice (advA A c m) (ln - m) (c - m))).put 2 (.int .i64 (fc f2))).put 3 (.int .i64 (fa f2))).drew
        have hcr2 := hcr.mv hmw hrow (hcr.trs.drop hcr.cap m) (hcr.len.drop m) (by rw [List.length_drop]; have := hcr.cap; omega)
        have h5 := H5.out.mv hmw (by omega)
        have hg := HGC.out.mv hmw (by omega)
        refine ⟨⟨h5, hg⟩, fun V hV => ?_⟩
        subst hV
        have hb5 : Below w.heap.size W (set5 W w.heap.size (.int .i64 z.k) (.int .i64 z.p) (.string z.s) (.slice z.A z.ws.length z.c) (.slice z.B z.ks.length z.d)) := set5_below (zL _)
        refine ⟨set5_row hg, HQ.out _ _ ⟨z, _, _, _, f2, rfl, ?_, hcr2.low hb5 hbw, (HMC.out.trans hmw).onBelow hbw hb5 (zL _), HST.out⟩⟩
        refine (((HD.out.weak (ok' := fun k => w1.heap.size ≤ k) fun k _ h => h.1).keep9 fun k hk h => hmw.block k hk (by omega)).keep9 fun k _ h => set5_other (by omega)).weak fun k _ h => by omega
    clear hcr HC1 HST HHN HMC HD hst
    have hmi : (m : Int) ≤ (ln : Int) := by omega
    have hne5 : ¬ g5 = b := by omega
    have hne7 : ¬ g7 = b := by omega
    go_upto_region 4 with fail
    by_cases hcm : c = m
    ·have HA : Hid (A = advA A c m) := zh (by unfold advA; rw [if_pos hcm])
     have HCE : Hid (0 = c - m) := zh (by show _ = _; omega)
     subst hcm
     have hlm : ln - c = 0 := by omega
     have HEND := HEND.out
     rw [hlm] at HEND
     have HEND := zh HEND
     clear hlm
     go_region
     obtain ⟨⟨h5, hg⟩, hV⟩ := HEND.out A 0 HA.out HCE.out _ rfl
     have HV := zh (hV _ rfl)
     obtain ⟨zk, zp, zs, zA, zc, zw, zBq, zd, zz⟩ := z
     unfold nv at h5 HV
     simp only [Nd.k, Nd.p, Nd.s, Nd.A, Nd.c, Nd.ws, Nd.B, Nd.d, Nd.ks] at h5 HV
     clear b0 b2 b3 x0 x1 x2 x3 x4 r0' r1' HEND hV
     generalize (((wc.setCell ⟨b, 0, none⟩ (.slice A 0 0)).setCell ⟨b, 2, none⟩ (.int .i64 (fc f2))).setCell ⟨b, 3, none⟩ (.int .i64 (fa f2))).drew = W at *
     obtain ⟨x0, x1, x2, x3, x4, _, _, _, _, _⟩ := row5 h5
     obtain ⟨g0, g1, g2, g3, g4, u0, u1, u2, u3, u4⟩ := row5 hg
     go_wp2_with fail
     exact bodyPost_ret (ret_cell rfl _ _ w.heap.size _ _ (0, 0) _ rfl HV.out.1 Tryz.underlying28 rfl (node_info _ _ _ _ _)) rfl HV.out.2
    ·have HA : Hid (Option.map (fun x => x.add (m * 5)) A = advA A c m) := zh (by unfold advA; rw [if_neg hcm])
     go_region
     obtain ⟨⟨h5, hg⟩, hV⟩ := HEND.out _ (c - m) HA.out rfl _ rfl
     have HV := zh (hV _ rfl)
     obtain ⟨zk, zp, zs, zA, zc, zw, zBq, zd, zz⟩ := z
     unfold nv at h5 HV
     simp only [Nd.k, Nd.p, Nd.s, Nd.A, Nd.c, Nd.ws, Nd.B, Nd.d, Nd.ks] at h5 HV
     clear b0 b2 b3 x0 x1 x2 x3 x4 r0' r1' HEND hV
     generalize (((wc.setCell ⟨b, 0, none⟩ (.slice (Option.map (fun x => x.add (m * 5)) A) (ln - m) (c - m))).setCell ⟨b, 2, none⟩ (.int .i64 (fc f2))).setCell ⟨b, 3, none⟩ (.int .i64 (fa f2))).drew = W at *
     obtain ⟨x0, x1, x2, x3, x4, _, _, _, _, _⟩ := row5 h5
     obtain ⟨g0, g1, g2, g3, g4, u0, u1, u2, u3, u4⟩ := row5 hg
     go_wp2_with fail
     exact bodyPost_ret (ret_cell rfl _ _ w.heap.size _ _ (0, 0) _ rfl HV.out.1 Tryz.underlying28 rfl (node_info _ _ _ _ _)) rfl HV.out.2
end
section
open Go.RowKit LX TR TM CM
section
variable {D : Nat} {w : World} {b : Nat} {A : Option Addr} {c : Nat} {l : List Tr} {e : Int} {f : Option Int}
theorem cterm_label (hD : 1 ≤ D) (hD2 : D ≤ 4294967296) (h : Cr w b A c l e f) (hN : (nodes l).length ≤ D - 1) :
 Calls Tryz.prog 115 #[.pointer (some ⟨b, 0, none⟩), .func (.func 116) #[] #[]] w fun e' w' => ∃ z A2 c2 l2 f2, e' = .returned (.agg (nv z)) ∧ DeepN w' (fun k => w.heap.size ≤ k) [z] ∧ Cr w' b A2 c2 l2 e f2 ∧ Mv b w w' ∧ StepL (labelR D) l e f (er1 z) l2 f2 := by
 obtain ⟨D, rfl⟩ : ∃ k, D = k + 1 := ⟨D - 1, by omega⟩
 exact cterm_any (fun args w => by kernel_rfl) (fun A c l i e w h1 h2 h3 => label_call D (by omega) A c l i e w h1 h2 h3) h hN
theorem cterm_row (hD : 1 ≤ D) (hD2 : D ≤ 4294967296) (h : Cr w b A c l e f) (hN : (nodes l).length ≤ D - 1) :
 Calls Tryz.prog 115 #[.pointer (some ⟨b, 0, none⟩), .func (.func 117) #[] #[]] w fun e' w' => ∃ z A2 c2 l2 f2, e' = .returned (.agg (nv z)) ∧ DeepN w' (fun k => w.heap.size ≤ k) [z] ∧ Cr w' b A2 c2 l2 e f2 ∧ Mv b w w' ∧ StepL (rowR D) l e f (er1 z) l2 f2 := by
 obtain ⟨D, rfl⟩ : ∃ k, D = k + 1 := ⟨D - 1, by omega⟩
 exact cterm_any (fun args w => by kernel_rfl) (fun A c l i e w h1 h2 h3 => row_call D (by omega) A c l i e w h1 h2 h3) h hN
end
namespace CM
def Hold (op : Nat) (p : Int) (x : Cm) (s : Cs) : Prop := x.op = op ∧ x.p = p ∧ x.n = s.n ∧ x.ws = s.ws ∧ x.ps = s.ps ∧ x.pp = s.pp ∧ er1 x.r = s.ts.getLastD n0 ∧ er1 x.l = s.ts.dropLast.getLastD n0
end CM
structure DeepC (w : World) (ok : Nat → Prop) (x : Cm) : Prop where
 ws : SlC w ok x.A (wcs x.ws)
 wc : x.ws.length ≤ x.c
 ps : SlC w ok x.B (pwcs x.ps)
 pc : x.ps.length ≤ x.d
 l : DeepN w ok [x.l]
 r : DeepN w ok [x.r]
section
variable {w w' : World} {ok ok' : Nat → Prop} {x : Cm} {b g B : Nat}
theorem DeepC.keep9 (h : DeepC w ok x) (hk : ∀ k, k < w.heap.size → ok k → w'.heap[k]? = w.heap[k]?) : DeepC w' ok x := ⟨h.ws.keep9 hk, h.wc, h.ps.keep9 hk, h.pc, h.l.keep9 hk, h.r.keep9 hk⟩
theorem DeepC.weak (h : DeepC w ok x) (hk : ∀ k, k < w.heap.size → ok k → ok' k) : DeepC w ok' x := ⟨h.ws.weak hk, h.wc, h.ps.weak hk, h.pc, h.l.weak hk, h.r.weak hk⟩
theorem DeepC.mv (h : DeepC w (fun k => B ≤ k ∧ k ≠ b ∧ k ≠ g) x) (hm : Mv2 b g w w') : DeepC w' (fun k => B ≤ k ∧ k ≠ b ∧ k ≠ g) x := h.keep9 fun k hk ho => hm.block k hk ho.2.1 ho.2.2
theorem Mv2.refl (b g : Nat) (w : World) : Mv2 b g w w := ⟨zB _ _, fun _ _ _ _ => rfl⟩
theorem Mv.two2 (h : Mv b w w') : Mv2 b g w w' := h.two g
end
theorem cmd_info (x : Cm) : (Tryz.prog.info? 30).map (·.size) = some (cv x).size := by kernel_rfl
def Parted (w : World) (b g B D op : Nat) (p : Int) (k : Nat) (s : Cs) (l : List Tr) (e : Int) (f : Option Int) (e' : Ending) (w' : World) : Prop :=
 ∃ (x2 : Cm) (A2 : Option Addr) (c2 : Nat) (l2 : List Tr) (f2 : Option Int) (s2 : Cs), e' = .returned (.tuple #[]) ∧ Cr w' b A2 c2 l2 e f2 ∧ RowAt w' g 30 (cv x2) ∧ DeepC w' (fun k => B ≤ k ∧ k ≠ b ∧ k ≠ g) x2 ∧ Mv2 b g w w' ∧ StepL (partR D k s) l e f s2 l2 f2 ∧ (f2 = none → Hold op p x2 s2)
section
variable {w w' : World} {b g B D : Nat} {x : Cm}
theorem Mv2.puts (h : Mv2 b g w w') (hbg : b < g) (ys : List Value) (o : Nat) : Mv2 b g w (w'.setCells g o ys) :=
 ⟨h.low.trans (setCells_below (Nat.le_of_lt hbg) o ys), fun k hk h1 h2 => (setCells_other w' g o ys k h2).trans (h.block k hk h1 h2)⟩
theorem Cr.puts {c : Nat} {A : Option Addr} {l : List Tr} {e : Int} {f : Option Int} (h : Cr w b A c l e f) (hbg : b < g) (ys : List Value) (o : Nat) : Cr (w.setCells g o ys) b A c l e f := h.low (setCells_below (zL g) o ys) hbg
theorem DeepC.puts (h : DeepC w (fun k => B ≤ k ∧ k ≠ b ∧ k ≠ g) x) (_ : b < g) (ys : List Value) (o : Nat) : DeepC (w.setCells g o ys) (fun k => B ≤ k ∧ k ≠ b ∧ k ≠ g) x := h.keep9 fun k _ ho => setCells_other w g o ys k ho.2.2
def putL (cs : Array Value) (o : Nat) : List Value → Array Value
 | [] => cs
 | y :: ys => putL (cs.setIfInBounds o y) (o + 1) ys
theorem RowAt.puts {t : TypeId} {cs : Array Value} (h : RowAt w g t cs) (ys : List Value) (o : Nat) : RowAt (w.setCells g o ys) g t (putL cs o ys) := by
 induction ys generalizing w cs o with
 | nil => exact h
 | cons y ys ih => exact ih (h.put o y) (o + 1)
theorem RowAt.there9 {t : TypeId} {cs : Array Value} (h : RowAt w g t cs) {o n : Nat} (hn : o + n ≤ cs.size) : w.there g o n := fun j hj => ⟨by rw [h.cell, Array.getElem?_eq_getElem (by omega)]; rfl, h.free _⟩
end
theorem StepL.none {α : Type} {rd : Rdr α} {l l2 : List Tr} {e : Int} {f f2 : Option Int} {x : α} (h : StepL rd l e f x l2 f2) (hf : f2 = none) : f = none := by
 cases f with
 | none => rfl
 | some p => have := h.bad p rfl; rw [hf] at this; cases this
section
variable {D op : Nat} {p : Int} {l l2 : List Tr} {e : Int} {f f2 : Option Int} {s : Cs} {x : Cm}
theorem step_n {y : Wd} (h : StepL nameR l e f y l2 f2) : StepL (partR D 110 s) l e f ⟨y, s.ws, s.ps, s.pp, s.ts⟩ l2 f2 := h.map (fun y => (⟨y, s.ws, s.ps, s.pp, s.ts⟩ : Cs))
theorem step_f {y : Wd} (h : StepL nameR l e f y l2 f2) : StepL (partR D 102 s) l e f ⟨s.n, [y], s.ps, s.pp, s.ts⟩ l2 f2 := h.map (fun y => (⟨s.n, [y], s.ps, s.pp, s.ts⟩ : Cs))
theorem step_w {y : List Wd} (h : StepL namesR l e f y l2 f2) : StepL (partR D 119 s) l e f ⟨s.n, y, s.ps, s.pp, s.ts⟩ l2 f2 := h.map (fun y => (⟨s.n, y, s.ps, s.pp, s.ts⟩ : Cs))
theorem step_p {y : List Pw × Int} (h : StepL prsA l e f y l2 f2) : StepL (partR D 112 s) l e f ⟨s.n, s.ws, y.1, y.2, s.ts⟩ l2 f2 := by
 have h1 := h.map (fun y => (⟨s.n, s.ws, y.1, y.2, s.ts⟩ : Cs))
 have e1 : ∀ ts e, bnd (prsA ts e) (fun y r => .ok ((⟨s.n, s.ws, y.1, y.2, s.ts⟩ : Cs), r)) = partR D 112 s ts e := fun ts e => by
  unfold prsA partR
  rw [if_neg (by decide), if_neg (by decide), if_neg (by decide), if_pos rfl]
  cases prsR ts e with
  | error p => rfl
  | ok yr => rfl
 exact ⟨h1.suf, h1.bad, fun hf => by have h2 := h1.good hf; rw [e1] at h2; exact h2⟩
theorem step_r {z : Nd} (h : StepL (rowR D) l e f z l2 f2) : StepL (partR D 114 s) l e f ⟨s.n, s.ws, s.ps, s.pp, s.ts ++ [z]⟩ l2 f2 := h.map (fun z => (⟨s.n, s.ws, s.ps, s.pp, s.ts ++ [z]⟩ : Cs))
theorem step_t {z : Nd} (h : StepL (labelR D) l e f z l2 f2) : StepL (partR D 116 s) l e f ⟨s.n, s.ws, s.ps, s.pp, s.ts ++ [z]⟩ l2 f2 := h.map (fun z => (⟨s.n, s.ws, s.ps, s.pp, s.ts ++ [z]⟩ : Cs))
theorem hold_n {y : Wd} (h : Hold op p x s) : Hold op p ⟨x.op, x.p, y, x.A, x.c, x.ws, x.B, x.d, x.ps, x.pp, x.l, x.r⟩ ⟨y, s.ws, s.ps, s.pp, s.ts⟩ := ⟨h.1, h.2.1, rfl, h.2.2.2.1, h.2.2.2.2.1, h.2.2.2.2.2.1, h.2.2.2.2.2.2⟩
theorem hold_w {Y : Option Addr} {cy : Nat} {y : List Wd} (h : Hold op p x s) : Hold op p ⟨x.op, x.p, x.n, Y, cy, y, x.B, x.d, x.ps, x.pp, x.l, x.r⟩ ⟨s.n, y, s.ps, s.pp, s.ts⟩ := ⟨h.1, h.2.1, h.2.2.1, rfl, h.2.2.2.2.1, h.2.2.2.2.2.1, h.2.2.2.2.2.2⟩
theorem hold_f {Y : Option Addr} {cy : Nat} {y : Wd} (h : Hold op p x s) : Hold op p ⟨x.op, x.p, x.n, Y, cy, [y], x.B, x.d, x.ps, x.pp, x.l, x.r⟩ ⟨s.n, [y], s.ps, s.pp, s.ts⟩ := hold_w h
theorem hold_p {Y : Option Addr} {cy : Nat} {y : List Pw × Int} (h : Hold op p x s) : Hold op p ⟨x.op, x.p, x.n, x.A, x.c, x.ws, Y, cy, y.1, y.2, x.l, x.r⟩ ⟨s.n, s.ws, y.1, y.2, s.ts⟩ := ⟨h.1, h.2.1, h.2.2.1, h.2.2.2.1, rfl, rfl, h.2.2.2.2.2.2⟩
theorem Mv2.drew0 {w w' : World} {b g : Nat} (h : Mv2 b g w.drew w') : Mv2 b g w w' := ⟨⟨h.low.os, h.low.tape, h.low.output, h.low.size, h.low.block⟩, h.block⟩
theorem hold_t {z : Nd} (h : Hold op p x s) : Hold op p ⟨x.op, x.p, x.n, x.A, x.c, x.ws, x.B, x.d, x.ps, x.pp, x.r, z⟩ ⟨s.n, s.ws, s.ps, s.pp, s.ts ++ [er1 z]⟩ :=
 ⟨h.1, h.2.1, h.2.2.1, h.2.2.2.1, h.2.2.2.2.1, h.2.2.2.2.2.1, by simp, by rw [List.dropLast_concat]; exact h.2.2.2.2.2.2.1⟩
end
theorem cpart_n {w : World} {b g B D op : Nat} {p : Int} {A : Option Addr} {c : Nat} {l : List Tr} {e : Int} {f : Option Int} {x : Cm} {s : Cs} (h : Cr w b A c l e f) (hr : RowAt w g 30 (cv x)) (hd : DeepC w (fun k => B ≤ k ∧ k ≠ b ∧ k ≠ g) x) (hB : B ≤ w.heap.size) (hg : b < g) (hx : f = none → Hold op p x s) :
 Calls Tryz.prog 95 #[.pointer (some ⟨b, 0, none⟩), .pointer (some ⟨g, 0, none⟩), .int .u8 110] w fun e' w' => Parted w b g B D op p 110 s l e f e' w' := by
 have hbw := h.lt
 have hgb : g ≠ b := by omega
 have hgw := hr.lt
 refine calls_hid fun Q' hQ => ?_
 have HQ := zh hQ; clear hQ
 have HC := zh (cname_any _ _ _ _ _ _ _ h)
 have HX := zh hx
 go_enter Tryz.func95, Tryz.ntmps95
 go_wp2_with fail
 refine HC.out.mono ?_
 rintro e' w1 ⟨v, y, A2, c2, l2, f2, rfl, rfl, hs, hm, hst⟩
 have hr1 := hr.mv hm hgb
 have hd1 := hd.mv (hm.two2 (g := g))
 have hm1 := hm.two2 (g := g)
 have hnew : w.heap.size ≤ w1.heap.size := hm.size
 unfold wv
 have q2 : w1.cell? ⟨g, 2, none⟩ = some (.string x.n.s) := (RowAt.cell hr1 2).trans rfl
 have u2 := RowAt.free hr1 2
 have q3 : w1.cell? ⟨g, 3, none⟩ = some (.int .i64 x.n.p) := (RowAt.cell hr1 3).trans rfl
 have u3 := RowAt.free hr1 3
 have HR2 : Hid (RowAt (w1.setCells g 2 [.string y.s, .int .i64 y.p]) g 30 (cv (⟨x.op, x.p, y, x.A, x.c, x.ws, x.B, x.d, x.ps, x.pp, x.l, x.r⟩ : Cm))) := zh ((hr1.puts [.string y.s, .int .i64 y.p] 2))
 have HM2 : Hid (Mv2 b g w (w1.setCells g 2 [.string y.s, .int .i64 y.p])) := zh ((hm1.puts hg [.string y.s, .int .i64 y.p] 2))
 have HS2 : Hid (Cr (w1.setCells g 2 [.string y.s, .int .i64 y.p]) b A2 c2 l2 e f2) := zh ((hs.puts hg [.string y.s, .int .i64 y.p] 2))
 have hd2 : DeepC (w1.setCells g 2 [.string y.s, .int .i64 y.p]) (fun k => B ≤ k ∧ k ≠ b ∧ k ≠ g) x := (hd1.puts hg [.string y.s, .int .i64 y.p] 2)
 have HD2 : Hid (DeepC (w1.setCells g 2 [.string y.s, .int .i64 y.p]) (fun k => B ≤ k ∧ k ≠ b ∧ k ≠ g) (⟨x.op, x.p, y, x.A, x.c, x.ws, x.B, x.d, x.ps, x.pp, x.l, x.r⟩ : Cm)) := zh (⟨hd2.ws, hd2.wc, hd2.ps, hd2.pc, hd2.l, hd2.r⟩)
 have HST := zh hst
 clear hs hm hst hr hd h hr1 hd1 hd2 hm1 HC hx
 go_wp2_with fail
 exact bodyPost_ret (results_none rfl _ _ _) rfl (HQ.out _ _ ⟨(⟨x.op, x.p, y, x.A, x.c, x.ws, x.B, x.d, x.ps, x.pp, x.l, x.r⟩ : Cm), A2, c2, l2, f2, ⟨y, s.ws, s.ps, s.pp, s.ts⟩, rfl, HS2.out, HR2.out, HD2.out, HM2.out, step_n HST.out, fun hf => hold_n (HX.out (HST.out.none hf))⟩)
theorem cpart_w {w : World} {b g B D op : Nat} {p : Int} {A : Option Addr} {c : Nat} {l : List Tr} {e : Int} {f : Option Int} {x : Cm} {s : Cs} (h : Cr w b A c l e f) (hr : RowAt w g 30 (cv x)) (hd : DeepC w (fun k => B ≤ k ∧ k ≠ b ∧ k ≠ g) x) (hB : B ≤ w.heap.size) (hg : b < g) (hx : f = none → Hold op p x s) :
 Calls Tryz.prog 95 #[.pointer (some ⟨b, 0, none⟩), .pointer (some ⟨g, 0, none⟩), .int .u8 119] w fun e' w' => Parted w b g B D op p 119 s l e f e' w' := by
 have hbw := h.lt
 have hgb : g ≠ b := by omega
 have hgw := hr.lt
 refine calls_hid fun Q' hQ => ?_
 have HQ := zh hQ; clear hQ
 have HC := zh (cwords_any _ _ _ _ _ _ _ h)
 have HX := zh hx
 go_enter Tryz.func95, Tryz.ntmps95
 go_wp2_with fail
 refine HC.out.mono ?_
 rintro e' w1 ⟨v, y, A2, c2, l2, f2, rfl, ⟨Y, cy, rfl, hcy, hsl⟩, hs, hm, hst⟩
 have hr1 := hr.mv hm hgb
 have hd1 := hd.mv (hm.two2 (g := g))
 have hm1 := hm.two2 (g := g)
 have hnew : w.heap.size ≤ w1.heap.size := hm.size
 have q4 : w1.cell? ⟨g, 4, none⟩ = some (.slice x.A x.ws.length x.c) := (RowAt.cell hr1 4).trans rfl
 have u4 := RowAt.free hr1 4
 have HR2 : Hid (RowAt (w1.setCells g 4 [.slice Y y.length cy]) g 30 (cv (⟨x.op, x.p, x.n, Y, cy, y, x.B, x.d, x.ps, x.pp, x.l, x.r⟩ : Cm))) := zh ((hr1.puts [.slice Y y.length cy] 4))
 have HM2 : Hid (Mv2 b g w (w1.setCells g 4 [.slice Y y.length cy])) := zh ((hm1.puts hg [.slice Y y.length cy] 4))
 have HS2 : Hid (Cr (w1.setCells g 4 [.slice Y y.length cy]) b A2 c2 l2 e f2) := zh ((hs.puts hg [.slice Y y.length cy] 4))
 have hd2 : DeepC (w1.setCells g 4 [.slice Y y.length cy]) (fun k => B ≤ k ∧ k ≠ b ∧ k ≠ g) x := (hd1.puts hg [.slice Y y.length cy] 4)
 have HD2 : Hid (DeepC (w1.setCells g 4 [.slice Y y.length cy]) (fun k => B ≤ k ∧ k ≠ b ∧ k ≠ g) (⟨x.op, x.p, x.n, Y, cy, y, x.B, x.d, x.ps, x.pp, x.l, x.r⟩ : Cm)) := zh (⟨((hsl.weak (ok' := fun k => B ≤ k ∧ k ≠ b ∧ k ≠ g) fun k _ hk => ⟨by omega, by omega, by omega⟩).keep9 fun k _ ho => setCells_other _ _ _ _ k ho.2.2), hcy, hd2.ps, hd2.pc, hd2.l, hd2.r⟩)
 have HST := zh hst
 clear hs hm hst hr hd h hr1 hd1 hd2 hm1 HC hx
 go_wp2_with fail
 exact bodyPost_ret (results_none rfl _ _ _) rfl (HQ.out _ _ ⟨(⟨x.op, x.p, x.n, Y, cy, y, x.B, x.d, x.ps, x.pp, x.l, x.r⟩ : Cm), A2, c2, l2, f2, ⟨s.n, y, s.ps, s.pp, s.ts⟩, rfl, HS2.out, HR2.out, HD2.out, HM2.out, step_w HST.out, fun hf => hold_w (HX.out (HST.out.none hf))⟩)
theorem cpart_p {w : World} {b g B D op : Nat} {p : Int} {A : Option Addr} {c : Nat} {l : List Tr} {e : Int} {f : Option Int} {x : Cm} {s : Cs} (h : Cr w b A c l e f) (hr : RowAt w g 30 (cv x)) (hd : DeepC w (fun k => B ≤ k ∧ k ≠ b ∧ k ≠ g) x) (hB : B ≤ w.heap.size) (hg : b < g) (hx : f = none → Hold op p x s) :
 Calls Tryz.prog 95 #[.pointer (some ⟨b, 0, none⟩), .pointer (some ⟨g, 0, none⟩), .int .u8 112] w fun e' w' => Parted w b g B D op p 112 s l e f e' w' := by
 have hbw := h.lt
 have hgb : g ≠ b := by omega
 have hgw := hr.lt
 refine calls_hid fun Q' hQ => ?_
 have HQ := zh hQ; clear hQ
 have HC := zh (cpairs_any _ _ _ _ _ _ _ h)
 have HX := zh hx
 go_enter Tryz.func95, Tryz.ntmps95
 go_wp2_with fail
 refine HC.out.mono ?_
 rintro e' w1 ⟨v, y, A2, c2, l2, f2, rfl, ⟨Y, cy, rfl, hcy, hsl⟩, hs, hm, hst⟩
 have hr1 := hr.mv hm hgb
 have hd1 := hd.mv (hm.two2 (g := g))
 have hm1 := hm.two2 (g := g)
 have hnew : w.heap.size ≤ w1.heap.size := hm.size
 have q5 : w1.cell? ⟨g, 5, none⟩ = some (.slice x.B x.ps.length x.d) := (RowAt.cell hr1 5).trans rfl
 have u5 := RowAt.free hr1 5
 have q6 : w1.cell? ⟨g, 6, none⟩ = some (.int .i64 x.pp) := (RowAt.cell hr1 6).trans rfl
 have u6 := RowAt.free hr1 6
 have HR2 : Hid (RowAt ((w1.setCells g 5 [.slice Y y.1.length cy]).setCells g 6 [.int .i64 y.2]) g 30 (cv (⟨x.op, x.p, x.n, x.A, x.c, x.ws, Y, cy, y.1, y.2, x.l, x.r⟩ : Cm))) := zh (((hr1.puts [.slice Y y.1.length cy] 5).puts [.int .i64 y.2] 6))
 have HM2 : Hid (Mv2 b g w ((w1.setCells g 5 [.slice Y y.1.length cy]).setCells g 6 [.int .i64 y.2])) := zh (((hm1.puts hg [.slice Y y.1.length cy] 5).puts hg [.int .i64 y.2] 6))
 have HS2 : Hid (Cr ((w1.setCells g 5 [.slice Y y.1.length cy]).setCells g 6 [.int .i64 y.2]) b A2 c2 l2 e f2) := zh (((hs.puts hg [.slice Y y.1.length cy] 5).puts hg [.int .i64 y.2] 6))
 have hd2 : DeepC ((w1.setCells g 5 [.slice Y y.1.length cy]).setCells g 6 [.int .i64 y.2]) (fun k => B ≤ k ∧ k ≠ b ∧ k ≠ g) x := ((hd1.puts hg [.slice Y y.1.length cy] 5).puts hg [.int .i64 y.2] 6)
 have HD2 : Hid (DeepC ((w1.setCells g 5 [.slice Y y.1.length cy]).setCells g 6 [.int .i64 y.2]) (fun k => B ≤ k ∧ k ≠ b ∧ k ≠ g) (⟨x.op, x.p, x.n, x.A, x.c, x.ws, Y, cy, y.1, y.2, x.l, x.r⟩ : Cm)) := zh (⟨hd2.ws, hd2.wc, (((hsl.weak (ok' := fun k => B ≤ k ∧ k ≠ b ∧ k ≠ g) fun k _ hk => ⟨by omega, by omega, by omega⟩).keep9 fun k _ ho => setCells_other _ _ _ _ k ho.2.2).keep9 fun k _ ho => setCells_other _ _ _ _ k ho.2.2), hcy, hd2.l, hd2.r⟩)
 have HST := zh hst
 clear hs hm hst hr hd h hr1 hd1 hd2 hm1 HC hx
 go_wp2_with fail
 exact bodyPost_ret (results_none rfl _ _ _) rfl (HQ.out _ _ ⟨(⟨x.op, x.p, x.n, x.A, x.c, x.ws, Y, cy, y.1, y.2, x.l, x.r⟩ : Cm), A2, c2, l2, f2, ⟨s.n, s.ws, y.1, y.2, s.ts⟩, rfl, HS2.out, HR2.out, HD2.out, HM2.out, step_p HST.out, fun hf => hold_p (HX.out (HST.out.none hf))⟩)
theorem cpart_f {w : World} {b g B D op : Nat} {p : Int} {A : Option Addr} {c : Nat} {l : List Tr} {e : Int} {f : Option Int} {x : Cm} {s : Cs} (h : Cr w b A c l e f) (hr : RowAt w g 30 (cv x)) (hd : DeepC w (fun k => B ≤ k ∧ k ≠ b ∧ k ≠ g) x) (hB : B ≤ w.heap.size) (hg : b < g) (hx : f = none → Hold op p x s) :
 Calls Tryz.prog 95 #[.pointer (some ⟨b, 0, none⟩), .pointer (some ⟨g, 0, none⟩), .int .u8 102] w fun e' w' => Parted w b g B D op p 102 s l e f e' w' := by
 have hbw := h.lt
 have hgb : g ≠ b := by omega
 have hgw := hr.lt
 refine calls_hid fun Q' hQ => ?_
 have HQ := zh hQ; clear hQ
 have HC := zh (cname_any _ _ _ _ _ _ _ h)
 have HX := zh hx
 go_enter Tryz.func95, Tryz.ntmps95
 go_wp2_with fail
 refine HC.out.mono ?_
 rintro e' w1 ⟨v, y, A2, c2, l2, f2, rfl, rfl, hs, hm, hst⟩
 have hr1 := hr.mv hm hgb
 have hd1 := hd.mv (hm.two2 (g := g))
 have hm1 := hm.two2 (g := g)
 have hnew : w.heap.size ≤ w1.heap.size := hm.size
 have hb1 : Below w1.heap.size w1 (w1.alloc (.cells #[.string y.s, .int .i64 y.p] 23)) := (zB _ _).alloc (zL _) _
 have hN := RowAt.new w1 23 #[.string y.s, .int .i64 y.p]
 have hs := hs.below hb1
 have hm1 := hm1.trans (Mv.two2 (g := g) (Mv.below (by have := hm.size; omega) hb1))
 have hr1 := hr1.below hb1 hr1.lt
 have hd1 := hd1.keep9 fun k hk _ => hb1.block k hk
 have hNE : w1.heap.size ≠ g := by omega
 unfold wv
 have q4 : (w1.alloc (.cells #[.string y.s, .int .i64 y.p] 23)).cell? ⟨g, 4, none⟩ = some (.slice x.A x.ws.length x.c) := (RowAt.cell hr1 4).trans rfl
 have u4 := RowAt.free hr1 4
 have HR2 : Hid (RowAt ((w1.alloc (.cells #[.string y.s, .int .i64 y.p] 23)).setCells g 4 [.slice (some ⟨w1.heap.size, 0, none⟩) 1 1]) g 30 (cv (⟨x.op, x.p, x.n, some ⟨w1.heap.size, 0, none⟩, 1, [y], x.B, x.d, x.ps, x.pp, x.l, x.r⟩ : Cm))) := zh ((hr1.puts [.slice (some ⟨w1.heap.size, 0, none⟩) 1 1] 4))
 have HM2 : Hid (Mv2 b g w ((w1.alloc (.cells #[.string y.s, .int .i64 y.p] 23)).setCells g 4 [.slice (some ⟨w1.heap.size, 0, none⟩) 1 1])) := zh ((hm1.puts hg [.slice (some ⟨w1.heap.size, 0, none⟩) 1 1] 4))
 have HS2 : Hid (Cr ((w1.alloc (.cells #[.string y.s, .int .i64 y.p] 23)).setCells g 4 [.slice (some ⟨w1.heap.size, 0, none⟩) 1 1]) b A2 c2 l2 e f2) := zh ((hs.puts hg [.slice (some ⟨w1.heap.size, 0, none⟩) 1 1] 4))
 have hd2 : DeepC ((w1.alloc (.cells #[.string y.s, .int .i64 y.p] 23)).setCells g 4 [.slice (some ⟨w1.heap.size, 0, none⟩) 1 1]) (fun k => B ≤ k ∧ k ≠ b ∧ k ≠ g) x := (hd1.puts hg [.slice (some ⟨w1.heap.size, 0, none⟩) 1 1] 4)
 have HD2 : Hid (DeepC ((w1.alloc (.cells #[.string y.s, .int .i64 y.p] 23)).setCells g 4 [.slice (some ⟨w1.heap.size, 0, none⟩) 1 1]) (fun k => B ≤ k ∧ k ≠ b ∧ k ≠ g) (⟨x.op, x.p, x.n, some ⟨w1.heap.size, 0, none⟩, 1, [y], x.B, x.d, x.ps, x.pp, x.l, x.r⟩ : Cm)) := zh (⟨fun _ => ⟨w1.heap.size, 0, rfl, by rw [setCells_size]; exact hN.lt, ⟨by omega, by omega, hNE⟩, fun j u hu => by rw [Nat.zero_add]; exact (RowAt.cell (show RowAt _ w1.heap.size 23 _ from (setCells_other _ g 4 _ w1.heap.size hNE).trans hN) j).trans (by simpa [wcs, wcells] using hu)⟩, zL _, hd2.ps, hd2.pc, hd2.l, hd2.r⟩)
 have HST := zh hst
 clear hs hm hst hr hd h hr1 hd1 hd2 hm1 HC hx
 go_wp2_with fail
 exact bodyPost_ret (results_none rfl _ _ _) rfl (HQ.out _ _ ⟨(⟨x.op, x.p, x.n, some ⟨w1.heap.size, 0, none⟩, 1, [y], x.B, x.d, x.ps, x.pp, x.l, x.r⟩ : Cm), A2, c2, l2, f2, ⟨s.n, [y], s.ps, s.pp, s.ts⟩, rfl, HS2.out, HR2.out, HD2.out, HM2.out, step_f HST.out, fun hf => hold_f (HX.out (HST.out.none hf))⟩)
theorem cpart_t {w : World} {b g B D op : Nat} {p : Int} {A : Option Addr} {c : Nat} {l : List Tr} {e : Int} {f : Option Int} {x : Cm} {s : Cs} (h : Cr w b A c l e f) (hr : RowAt w g 30 (cv x)) (hd : DeepC w (fun k => B ≤ k ∧ k ≠ b ∧ k ≠ g) x) (hB : B ≤ w.heap.size) (hg : b < g) (hx : f = none → Hold op p x s) (hN : (nodes l).length ≤ D - 1) (hD : 1 ≤ D) (hD2 : D ≤ 4294967296) :
 Calls Tryz.prog 95 #[.pointer (some ⟨b, 0, none⟩), .pointer (some ⟨g, 0, none⟩), .int .u8 116] w fun e' w' => Parted w b g B D op p 116 s l e f e' w' := by
 have hbw := h.lt
 have hgb : g ≠ b := by omega
 have hgw := hr.lt
 refine calls_hid fun Q' hQ => ?_
 have HQ := zh hQ; clear hQ
 have HC := zh (cterm_label (D := D) hD hD2 (h.drew) hN)
 have HX := zh hx
 have HRv0 := zh hr.drew
 have HDv0 : Hid (DeepC w.drew (fun k => B ≤ k ∧ k ≠ b ∧ k ≠ g) x) := zh (hd.keep9 fun _ _ _ => rfl)
 clear hr hd h hx
 go_enter Tryz.func95, Tryz.ntmps95
 go_upto_region 10 with fail
 obtain ⟨S, hSe⟩ : ∃ S : World → Prop, S = fun W => b < W.heap.size := ⟨_, rfl⟩
 have HSv0 : Hid (S w.drew) := by rw [hSe]; exact zh hbw
 have HSP : Hid (∀ V, Mv b w.drew V → S V) := by rw [hSe]; exact zh fun V hm => zT hbw hm.size
 have HSQ : Hid (∀ V o ys, S V → S (V.setCells g o ys)) := by rw [hSe]; exact zh fun V o ys h => by show b < _; rw [setCells_size]; exact h
 clear hSe
 refine wp_region_ot S ((.take 0 (.take 1 (.take 2 (.take 3 (.take 4 (.take 6 (.two 5 (.solo 7 (.take 8 (.take 9 (.solo 10 (.take 11 (.take 12 (.solo 13 .nil))))))) 7 (.solo 5 (.take 8 (.take 9 (.solo 10 (.take 11 (.take 12 (.solo 13 .nil))))))))))))))) (by kernel_rfl) (by kernel_rfl) rfl (by kernel_rfl) HSv0.out ?_
 have hBw : B ≤ w.drew.heap.size := hB
 have hgw0 : g < w.drew.heap.size := hgw
 have HD0 : Hid (∀ V, Mv2 b g w.drew V → Mv2 b g w V) := zh fun V h => h.drew0
 generalize w.drew = v0 at *
 iterate 6
  (refine wpOT_step (zO rfl) ?_)
  (first
        | (refine wpOT_skip (by rfl) ?_)
        | (refine wpOT_take (v := ?_) (by rfl) ?_ ?_; rotate_left 1; (intro wx hSx; go_simp; try with_reducible rfl)))
  (try simp only [Act.put, zA4, zA5, zA6])
 refine wpOT_two ?_ ?_
 ·(refine wpOT_solo (zO rfl) ?_)
  intro K hK
  rw [if_pos (by rfl)]
  have HSc := HSv0.out
  refine wp_load_mid _ _ rfl g 12 rfl (ncells x.r) _ (RowAt.range HRv0.out 12 (ncells x.r) (by intro j u hu; match j, hu with | 0, hu => exact hu | 1, hu => exact hu | 2, hu => exact hu | 3, hu => exact hu | 4, hu => exact hu)) Tryz.underlying28 rfl (by rw [show (ncells x.r).length = 5 from rfl]; kernel_rfl) ?_
  refine hK.out _ _ HSc ?_
  clear hK K HSc
  (try simp only [Act.put, zA4, zA5, zA6])
  (refine wpOT_solo (zO rfl) ?_)
  intro K hK
  go_simp
  go_at_call 115
  refine HC.out.mono ?_
  rintro e' v1 ⟨z, A2, c2, l2, f2, rfl, hdz, hs, hm, hst⟩
  have HSv1 : Hid (S v1) := zh (HSP.out v1 hm)
  have HRv1 := zh (HRv0.out.mv hm hgb)
  have HDv1 := zh (HDv0.out.mv (hm.two2 (g := g)))
  have HMv1 := zh (hm.two2 (g := g))
  have HCv1 := zh hs
  have HZv1 : Hid (DeepN v1 (fun k => B ≤ k ∧ k ≠ b ∧ k ≠ g) [z]) := zh (hdz.weak fun k _ hk => ⟨by omega, by omega, by omega⟩)
  have HST := zh hst
  clear hs hm hst hdz
  refine hK.out _ _ HSv1.out ?_
  clear hK K
  (try simp only [Act.put, zA4, zA5, zA6])
  iterate 2
   (refine wpOT_step (zO rfl) ?_)
   (first
    | (refine wpOT_skip (by rfl) ?_)
    | (refine wpOT_take (v := ?_) (by rfl) ?_ ?_; rotate_left 1; (intro wx hSx; go_simp; try with_reducible rfl)))
   (try simp only [Act.put, zA4, zA5, zA6])
  (refine wpOT_solo (zO rfl) ?_)
  intro K hK
  rw [if_pos (by rfl)]
  refine wp_store_mid _ _ _ rfl g 7 (nv x.r) rfl rfl (RowAt.there9 HRv1.out (by show 7 + 5 ≤ 17; omega)) (node_info _ _ _ _ _) (by simp [nv, Value.oneCell']) ?_
  have HSv2 : Hid (S (v1.setCells g 7 (nv x.r).toList)) := zh (HSQ.out _ _ _ HSv1.out)
  have HRv2 : Hid (RowAt (v1.setCells g 7 (nv x.r).toList) g 30 (cv (⟨x.op, x.p, x.n, x.A, x.c, x.ws, x.B, x.d, x.ps, x.pp, x.r, x.r⟩ : Cm))) := zh (RowAt.puts HRv1.out (nv x.r).toList 7)
  have hdv2 := HDv1.out.puts hg (nv x.r).toList 7
  have HDv2 : Hid (DeepC (v1.setCells g 7 (nv x.r).toList) (fun k => B ≤ k ∧ k ≠ b ∧ k ≠ g) (⟨x.op, x.p, x.n, x.A, x.c, x.ws, x.B, x.d, x.ps, x.pp, x.r, x.r⟩ : Cm)) := zh ⟨hdv2.ws, hdv2.wc, hdv2.ps, hdv2.pc, hdv2.r, hdv2.r⟩
  have HMv2 := zh (HMv1.out.puts hg (nv x.r).toList 7)
  have HCv2 := zh (HCv1.out.puts hg (nv x.r).toList 7)
  have HZv2 : Hid (DeepN (v1.setCells g 7 (nv x.r).toList) (fun k => B ≤ k ∧ k ≠ b ∧ k ≠ g) [z]) := zh (HZv1.out.keep9 fun k _ ho => setCells_other _ _ _ _ k ho.2.2)
  clear hdv2
  refine hK.out _ _ HSv2.out ?_
  clear hK K
  (try simp only [Act.put, zA4, zA5, zA6])
  generalize (v1.setCells g 7 (nv x.r).toList) = v2 at *
  iterate 2
   (refine wpOT_step (zO rfl) ?_)
   (first
    | (refine wpOT_skip (by rfl) ?_)
    | (refine wpOT_take (v := ?_) (by rfl) ?_ ?_; rotate_left 1; (intro wx hSx; go_simp; try with_reducible rfl)))
   (try simp only [Act.put, zA4, zA5, zA6])
  (refine wpOT_solo (zO rfl) ?_)
  intro K hK
  rw [if_pos (by rfl)]
  refine wp_store_mid _ _ _ rfl g 12 (nv z) rfl rfl (RowAt.there9 HRv2.out (by show 12 + 5 ≤ 17; omega)) (node_info _ _ _ _ _) (by simp [nv, Value.oneCell']) ?_
  have HSv3 : Hid (S (v2.setCells g 12 (nv z).toList)) := zh (HSQ.out _ _ _ HSv2.out)
  have HRv3 : Hid (RowAt (v2.setCells g 12 (nv z).toList) g 30 (cv (⟨x.op, x.p, x.n, x.A, x.c, x.ws, x.B, x.d, x.ps, x.pp, x.r, z⟩ : Cm))) := zh (RowAt.puts HRv2.out (nv z).toList 12)
  have hdv3 := HDv2.out.puts hg (nv z).toList 12
  have HDv3 : Hid (DeepC (v2.setCells g 12 (nv z).toList) (fun k => B ≤ k ∧ k ≠ b ∧ k ≠ g) (⟨x.op, x.p, x.n, x.A, x.c, x.ws, x.B, x.d, x.ps, x.pp, x.r, z⟩ : Cm)) := zh ⟨hdv3.ws, hdv3.wc, hdv3.ps, hdv3.pc, hdv3.l, HZv2.out.keep9 fun k _ ho => setCells_other _ _ _ _ k ho.2.2⟩
  have HMv3 := zh (HMv2.out.puts hg (nv z).toList 12)
  have HCv3 := zh (HCv2.out.puts hg (nv z).toList 12)
  have HZv3 : Hid (DeepN (v2.setCells g 12 (nv z).toList) (fun k => B ≤ k ∧ k ≠ b ∧ k ≠ g) [z]) := zh (HZv2.out.keep9 fun k _ ho => setCells_other _ _ _ _ k ho.2.2)
  clear hdv3
  refine hK.out _ _ HSv3.out ?_
  clear hK K
  (try simp only [Act.put, zA4, zA5, zA6])
  generalize (v2.setCells g 12 (nv z).toList) = v3 at *
  refine wpOT_done ?_
  go_wp2
  exact bodyPost_ret (results_none rfl _ _ _) rfl (HQ.out _ _ ⟨(⟨x.op, x.p, x.n, x.A, x.c, x.ws, x.B, x.d, x.ps, x.pp, x.r, z⟩ : Cm), A2, c2, l2, f2, ⟨s.n, s.ws, s.ps, s.pp, s.ts ++ [er1 z]⟩, rfl, HCv3.out, HRv3.out, HDv3.out, (HD0.out _ HMv3.out), step_t HST.out, fun hf => hold_t (HX.out (HST.out.none hf))⟩)
 ·(refine wpOT_solo (zO rfl) ?_)
  intro K hK
  go_simp
  go_at_call 115
  refine HC.out.mono ?_
  rintro e' v1 ⟨z, A2, c2, l2, f2, rfl, hdz, hs, hm, hst⟩
  have HSv1 : Hid (S v1) := zh (HSP.out v1 hm)
  have HRv1 := zh (HRv0.out.mv hm hgb)
  have HDv1 := zh (HDv0.out.mv (hm.two2 (g := g)))
  have HMv1 := zh (hm.two2 (g := g))
  have HCv1 := zh hs
  have HZv1 : Hid (DeepN v1 (fun k => B ≤ k ∧ k ≠ b ∧ k ≠ g) [z]) := zh (hdz.weak fun k _ hk => ⟨by omega, by omega, by omega⟩)
  have HST := zh hst
  clear hs hm hst hdz
  refine hK.out _ _ HSv1.out ?_
  clear hK K
  (try simp only [Act.put, zA4, zA5, zA6])
  (refine wpOT_solo (zO rfl) ?_)
  intro K hK
  rw [if_pos (by rfl)]
  have HSc := HSv1.out
  refine wp_load_mid _ _ rfl g 12 rfl (ncells x.r) _ (RowAt.range HRv1.out 12 (ncells x.r) (by intro j u hu; match j, hu with | 0, hu => exact hu | 1, hu => exact hu | 2, hu => exact hu | 3, hu => exact hu | 4, hu => exact hu)) Tryz.underlying28 rfl (by rw [show (ncells x.r).length = 5 from rfl]; kernel_rfl) ?_
  refine hK.out _ _ HSc ?_
  clear hK K HSc
  (try simp only [Act.put, zA4, zA5, zA6])
  iterate 2
   (refine wpOT_step (zO rfl) ?_)
   (first
    | (refine wpOT_skip (by rfl) ?_)
    | (refine wpOT_take (v := ?_) (by rfl) ?_ ?_; rotate_left 1; (intro wx hSx; go_simp; try with_reducible rfl)))
   (try simp only [Act.put, zA4, zA5, zA6])
  (refine wpOT_solo (zO rfl) ?_)
  intro K hK
  rw [if_pos (by rfl)]
  refine wp_store_mid _ _ _ rfl g 7 (nv x.r) rfl rfl (RowAt.there9 HRv1.out (by show 7 + 5 ≤ 17; omega)) (node_info _ _ _ _ _) (by simp [nv, Value.oneCell']) ?_
  have HSv2 : Hid (S (v1.setCells g 7 (nv x.r).toList)) := zh (HSQ.out _ _ _ HSv1.out)
  have HRv2 : Hid (RowAt (v1.setCells g 7 (nv x.r).toList) g 30 (cv (⟨x.op, x.p, x.n, x.A, x.c, x.ws, x.B, x.d, x.ps, x.pp, x.r, x.r⟩ : Cm))) := zh (RowAt.puts HRv1.out (nv x.r).toList 7)
  have hdv2 := HDv1.out.puts hg (nv x.r).toList 7
  have HDv2 : Hid (DeepC (v1.setCells g 7 (nv x.r).toList) (fun k => B ≤ k ∧ k ≠ b ∧ k ≠ g) (⟨x.op, x.p, x.n, x.A, x.c, x.ws, x.B, x.d, x.ps, x.pp, x.r, x.r⟩ : Cm)) := zh ⟨hdv2.ws, hdv2.wc, hdv2.ps, hdv2.pc, hdv2.r, hdv2.r⟩
  have HMv2 := zh (HMv1.out.puts hg (nv x.r).toList 7)
  have HCv2 := zh (HCv1.out.puts hg (nv x.r).toList 7)
  have HZv2 : Hid (DeepN (v1.setCells g 7 (nv x.r).toList) (fun k => B ≤ k ∧ k ≠ b ∧ k ≠ g) [z]) := zh (HZv1.out.keep9 fun k _ ho => setCells_other _ _ _ _ k ho.2.2)
  clear hdv2
  refine hK.out _ _ HSv2.out ?_
  clear hK K
  (try simp only [Act.put, zA4, zA5, zA6])
  generalize (v1.setCells g 7 (nv x.r).toList) = v2 at *
  iterate 2
   (refine wpOT_step (zO rfl) ?_)
   (first
    | (refine wpOT_skip (by rfl) ?_)
    | (refine wpOT_take (v := ?_) (by rfl) ?_ ?_; rotate_left 1; (intro wx hSx; go_simp; try with_reducible rfl)))
   (try simp only [Act.put, zA4, zA5, zA6])
  (refine wpOT_solo (zO rfl) ?_)
  intro K hK
  rw [if_pos (by rfl)]
  refine wp_store_mid _ _ _ rfl g 12 (nv z) rfl rfl (RowAt.there9 HRv2.out (by show 12 + 5 ≤ 17; omega)) (node_info _ _ _ _ _) (by simp [nv, Value.oneCell']) ?_
  have HSv3 : Hid (S (v2.setCells g 12 (nv z).toList)) := zh (HSQ.out _ _ _ HSv2.out)
  have HRv3 : Hid (RowAt (v2.setCells g 12 (nv z).toList) g 30 (cv (⟨x.op, x.p, x.n, x.A, x.c, x.ws, x.B, x.d, x.ps, x.pp, x.r, z⟩ : Cm))) := zh (RowAt.puts HRv2.out (nv z).toList 12)
  have hdv3 := HDv2.out.puts hg (nv z).toList 12
  have HDv3 : Hid (DeepC (v2.setCells g 12 (nv z).toList) (fun k => B ≤ k ∧ k ≠ b ∧ k ≠ g) (⟨x.op, x.p, x.n, x.A, x.c, x.ws, x.B, x.d, x.ps, x.pp, x.r, z⟩ : Cm)) := zh ⟨hdv3.ws, hdv3.wc, hdv3.ps, hdv3.pc, hdv3.l, HZv2.out.keep9 fun k _ ho => setCells_other _ _ _ _ k ho.2.2⟩
  have HMv3 := zh (HMv2.out.puts hg (nv z).toList 12)
  have HCv3 := zh (HCv2.out.puts hg (nv z).toList 12)
  have HZv3 : Hid (DeepN (v2.setCells g 12 (nv z).toList) (fun k => B ≤ k ∧ k ≠ b ∧ k ≠ g) [z]) := zh (HZv2.out.keep9 fun k _ ho => setCells_other _ _ _ _ k ho.2.2)
  clear hdv3
  refine hK.out _ _ HSv3.out ?_
  clear hK K
  (try simp only [Act.put, zA4, zA5, zA6])
  generalize (v2.setCells g 12 (nv z).toList) = v3 at *
  refine wpOT_done ?_
  go_wp2
  exact bodyPost_ret (results_none rfl _ _ _) rfl (HQ.out _ _ ⟨(⟨x.op, x.p, x.n, x.A, x.c, x.ws, x.B, x.d, x.ps, x.pp, x.r, z⟩ : Cm), A2, c2, l2, f2, ⟨s.n, s.ws, s.ps, s.pp, s.ts ++ [er1 z]⟩, rfl, HCv3.out, HRv3.out, HDv3.out, (HD0.out _ HMv3.out), step_t HST.out, fun hf => hold_t (HX.out (HST.out.none hf))⟩)
theorem cpart_r {w : World} {b g B D op : Nat} {p : Int} {A : Option Addr} {c : Nat} {l : List Tr} {e : Int} {f : Option Int} {x : Cm} {s : Cs} (h : Cr w b A c l e f) (hr : RowAt w g 30 (cv x)) (hd : DeepC w (fun k => B ≤ k ∧ k ≠ b ∧ k ≠ g) x) (hB : B ≤ w.heap.size) (hg : b < g) (hx : f = none → Hold op p x s) (hN : (nodes l).length ≤ D - 1) (hD : 1 ≤ D) (hD2 : D ≤ 4294967296) :
 Calls Tryz.prog 95 #[.pointer (some ⟨b, 0, none⟩), .pointer (some ⟨g, 0, none⟩), .int .u8 114] w fun e' w' => Parted w b g B D op p 114 s l e f e' w' := by
 have hbw := h.lt
 have hgb : g ≠ b := by omega
 have hgw := hr.lt
 refine calls_hid fun Q' hQ => ?_
 have HQ := zh hQ; clear hQ
 have HC := zh (cterm_row (D := D) hD hD2 (h.drew) hN)
 have HX := zh hx
 have HRv0 := zh hr.drew
 have HDv0 : Hid (DeepC w.drew (fun k => B ≤ k ∧ k ≠ b ∧ k ≠ g) x) := zh (hd.keep9 fun _ _ _ => rfl)
 clear hr hd h hx
 go_enter Tryz.func95, Tryz.ntmps95
 go_upto_region 12 with fail
 obtain ⟨S, hSe⟩ : ∃ S : World → Prop, S = fun W => b < W.heap.size := ⟨_, rfl⟩
 have HSv0 : Hid (S w.drew) := by rw [hSe]; exact zh hbw
 have HSP : Hid (∀ V, Mv b w.drew V → S V) := by rw [hSe]; exact zh fun V hm => zT hbw hm.size
 have HSQ : Hid (∀ V o ys, S V → S (V.setCells g o ys)) := by rw [hSe]; exact zh fun V o ys h => by show b < _; rw [setCells_size]; exact h
 clear hSe
 refine wp_region_ot S ((.take 0 (.take 1 (.take 2 (.take 3 (.take 4 (.take 6 (.two 5 (.solo 7 (.take 8 (.take 9 (.solo 10 (.take 11 (.take 12 (.solo 13 .nil))))))) 7 (.solo 5 (.take 8 (.take 9 (.solo 10 (.take 11 (.take 12 (.solo 13 .nil))))))))))))))) (by kernel_rfl) (by kernel_rfl) rfl (by kernel_rfl) HSv0.out ?_
 have hBw : B ≤ w.drew.heap.size := hB
 have hgw0 : g < w.drew.heap.size := hgw
 have HD0 : Hid (∀ V, Mv2 b g w.drew V → Mv2 b g w V) := zh fun V h => h.drew0
 generalize w.drew = v0 at *
 iterate 6
  (refine wpOT_step (zO rfl) ?_)
  (first
        | (refine wpOT_skip (by rfl) ?_)
        | (refine wpOT_take (v := ?_) (by rfl) ?_ ?_; rotate_left 1; (intro wx hSx; go_simp; try with_reducible rfl)))
  (try simp only [Act.put, zA4, zA5, zA6])
 refine wpOT_two ?_ ?_
 ·(refine wpOT_solo (zO rfl) ?_)
  intro K hK
  rw [if_pos (by rfl)]
  have HSc := HSv0.out
  refine wp_load_mid _ _ rfl g 12 rfl (ncells x.r) _ (RowAt.range HRv0.out 12 (ncells x.r) (by intro j u hu; match j, hu with | 0, hu => exact hu | 1, hu => exact hu | 2, hu => exact hu | 3, hu => exact hu | 4, hu => exact hu)) Tryz.underlying28 rfl (by rw [show (ncells x.r).length = 5 from rfl]; kernel_rfl) ?_
  refine hK.out _ _ HSc ?_
  clear hK K HSc
  (try simp only [Act.put, zA4, zA5, zA6])
  (refine wpOT_solo (zO rfl) ?_)
  intro K hK
  go_simp
  go_at_call 115
  refine HC.out.mono ?_
  rintro e' v1 ⟨z, A2, c2, l2, f2, rfl, hdz, hs, hm, hst⟩
  have HSv1 : Hid (S v1) := zh (HSP.out v1 hm)
  have HRv1 := zh (HRv0.out.mv hm hgb)
  have HDv1 := zh (HDv0.out.mv (hm.two2 (g := g)))
  have HMv1 := zh (hm.two2 (g := g))
  have HCv1 := zh hs
  have HZv1 : Hid (DeepN v1 (fun k => B ≤ k ∧ k ≠ b ∧ k ≠ g) [z]) := zh (hdz.weak fun k _ hk => ⟨by omega, by omega, by omega⟩)
  have HST := zh hst
  clear hs hm hst hdz
  refine hK.out _ _ HSv1.out ?_
  clear hK K
  (try simp only [Act.put, zA4, zA5, zA6])
  iterate 2
   (refine wpOT_step (zO rfl) ?_)
   (first
    | (refine wpOT_skip (by rfl) ?_)
    | (refine wpOT_take (v := ?_) (by rfl) ?_ ?_; rotate_left 1; (intro wx hSx; go_simp; try with_reducible rfl)))
   (try simp only [Act.put, zA4, zA5, zA6])
  (refine wpOT_solo (zO rfl) ?_)
  intro K hK
  rw [if_pos (by rfl)]
  refine wp_store_mid _ _ _ rfl g 7 (nv x.r) rfl rfl (RowAt.there9 HRv1.out (by show 7 + 5 ≤ 17; omega)) (node_info _ _ _ _ _) (by simp [nv, Value.oneCell']) ?_
  have HSv2 : Hid (S (v1.setCells g 7 (nv x.r).toList)) := zh (HSQ.out _ _ _ HSv1.out)
  have HRv2 : Hid (RowAt (v1.setCells g 7 (nv x.r).toList) g 30 (cv (⟨x.op, x.p, x.n, x.A, x.c, x.ws, x.B, x.d, x.ps, x.pp, x.r, x.r⟩ : Cm))) := zh (RowAt.puts HRv1.out (nv x.r).toList 7)
  have hdv2 := HDv1.out.puts hg (nv x.r).toList 7
  have HDv2 : Hid (DeepC (v1.setCells g 7 (nv x.r).toList) (fun k => B ≤ k ∧ k ≠ b ∧ k ≠ g) (⟨x.op, x.p, x.n, x.A, x.c, x.ws, x.B, x.d, x.ps, x.pp, x.r, x.r⟩ : Cm)) := zh ⟨hdv2.ws, hdv2.wc, hdv2.ps, hdv2.pc, hdv2.r, hdv2.r⟩
  have HMv2 := zh (HMv1.out.puts hg (nv x.r).toList 7)
  have HCv2 := zh (HCv1.out.puts hg (nv x.r).toList 7)
  have HZv2 : Hid (DeepN (v1.setCells g 7 (nv x.r).toList) (fun k => B ≤ k ∧ k ≠ b ∧ k ≠ g) [z]) := zh (HZv1.out.keep9 fun k _ ho => setCells_other _ _ _ _ k ho.2.2)
  clear hdv2
  refine hK.out _ _ HSv2.out ?_
  clear hK K
  (try simp only [Act.put, zA4, zA5, zA6])
  generalize (v1.setCells g 7 (nv x.r).toList) = v2 at *
  iterate 2
   (refine wpOT_step (zO rfl) ?_)
   (first
    | (refine wpOT_skip (by rfl) ?_)
    | (refine wpOT_take (v := ?_) (by rfl) ?_ ?_; rotate_left 1; (intro wx hSx; go_simp; try with_reducible rfl)))
   (try simp only [Act.put, zA4, zA5, zA6])
  (refine wpOT_solo (zO rfl) ?_)
  intro K hK
  rw [if_pos (by rfl)]
  refine wp_store_mid _ _ _ rfl g 12 (nv z) rfl rfl (RowAt.there9 HRv2.out (by show 12 + 5 ≤ 17; omega)) (node_info _ _ _ _ _) (by simp [nv, Value.oneCell']) ?_
  have HSv3 : Hid (S (v2.setCells g 12 (nv z).toList)) := zh (HSQ.out _ _ _ HSv2.out)
  have HRv3 : Hid (RowAt (v2.setCells g 12 (nv z).toList) g 30 (cv (⟨x.op, x.p, x.n, x.A, x.c, x.ws, x.B, x.d, x.ps, x.pp, x.r, z⟩ : Cm))) := zh (RowAt.puts HRv2.out (nv z).toList 12)
  have hdv3 := HDv2.out.puts hg (nv z).toList 12
  have HDv3 : Hid (DeepC (v2.setCells g 12 (nv z).toList) (fun k => B ≤ k ∧ k ≠ b ∧ k ≠ g) (⟨x.op, x.p, x.n, x.A, x.c, x.ws, x.B, x.d, x.ps, x.pp, x.r, z⟩ : Cm)) := zh ⟨hdv3.ws, hdv3.wc, hdv3.ps, hdv3.pc, hdv3.l, HZv2.out.keep9 fun k _ ho => setCells_other _ _ _ _ k ho.2.2⟩
  have HMv3 := zh (HMv2.out.puts hg (nv z).toList 12)
  have HCv3 := zh (HCv2.out.puts hg (nv z).toList 12)
  have HZv3 : Hid (DeepN (v2.setCells g 12 (nv z).toList) (fun k => B ≤ k ∧ k ≠ b ∧ k ≠ g) [z]) := zh (HZv2.out.keep9 fun k _ ho => setCells_other _ _ _ _ k ho.2.2)
  clear hdv3
  refine hK.out _ _ HSv3.out ?_
  clear hK K
  (try simp only [Act.put, zA4, zA5, zA6])
  generalize (v2.setCells g 12 (nv z).toList) = v3 at *
  refine wpOT_done ?_
  go_wp2
  exact bodyPost_ret (results_none rfl _ _ _) rfl (HQ.out _ _ ⟨(⟨x.op, x.p, x.n, x.A, x.c, x.ws, x.B, x.d, x.ps, x.pp, x.r, z⟩ : Cm), A2, c2, l2, f2, ⟨s.n, s.ws, s.ps, s.pp, s.ts ++ [er1 z]⟩, rfl, HCv3.out, HRv3.out, HDv3.out, (HD0.out _ HMv3.out), step_r HST.out, fun hf => hold_t (HX.out (HST.out.none hf))⟩)
 ·(refine wpOT_solo (zO rfl) ?_)
  intro K hK
  go_simp
  go_at_call 115
  refine HC.out.mono ?_
  rintro e' v1 ⟨z, A2, c2, l2, f2, rfl, hdz, hs, hm, hst⟩
  have HSv1 : Hid (S v1) := zh (HSP.out v1 hm)
  have HRv1 := zh (HRv0.out.mv hm hgb)
  have HDv1 := zh (HDv0.out.mv (hm.two2 (g := g)))
  have HMv1 := zh (hm.two2 (g := g))
  have HCv1 := zh hs
  have HZv1 : Hid (DeepN v1 (fun k => B ≤ k ∧ k ≠ b ∧ k ≠ g) [z]) := zh (hdz.weak fun k _ hk => ⟨by omega, by omega, by omega⟩)
  have HST := zh hst
  clear hs hm hst hdz
  refine hK.out _ _ HSv1.out ?_
  clear hK K
  (try simp only [Act.put, zA4, zA5, zA6])
  (refine wpOT_solo (zO rfl) ?_)
  intro K hK
  rw [if_pos (by rfl)]
  have HSc := HSv1.out
  refine wp_load_mid _ _ rfl g 12 rfl (ncells x.r) _ (RowAt.range HRv1.out 12 (ncells x.r) (by intro j u hu; match j, hu with | 0, hu => exact hu | 1, hu => exact hu | 2, hu => exact hu | 3, hu => exact hu | 4, hu => exact hu)) Tryz.underlying28 rfl (by rw [show (ncells x.r).length = 5 from rfl]; kernel_rfl) ?_
  refine hK.out _ _ HSc ?_
  clear hK K HSc
  (try simp only [Act.put, zA4, zA5, zA6])
  iterate 2
   (refine wpOT_step (zO rfl) ?_)
   (first
    | (refine wpOT_skip (by rfl) ?_)
    | (refine wpOT_take (v := ?_) (by rfl) ?_ ?_; rotate_left 1; (intro wx hSx; go_simp; try with_reducible rfl)))
   (try simp only [Act.put, zA4, zA5, zA6])
  (refine wpOT_solo (zO rfl) ?_)
  intro K hK
  rw [if_pos (by rfl)]
  refine wp_store_mid _ _ _ rfl g 7 (nv x.r) rfl rfl (RowAt.there9 HRv1.out (by show 7 + 5 ≤ 17; omega)) (node_info _ _ _ _ _) (by simp [nv, Value.oneCell']) ?_
  have HSv2 : Hid (S (v1.setCells g 7 (nv x.r).toList)) := zh (HSQ.out _ _ _ HSv1.out)
  have HRv2 : Hid (RowAt (v1.setCells g 7 (nv x.r).toList) g 30 (cv (⟨x.op, x.p, x.n, x.A, x.c, x.ws, x.B, x.d, x.ps, x.pp, x.r, x.r⟩ : Cm))) := zh (RowAt.puts HRv1.out (nv x.r).toList 7)
  have hdv2 := HDv1.out.puts hg (nv x.r).toList 7
  have HDv2 : Hid (DeepC (v1.setCells g 7 (nv x.r).toList) (fun k => B ≤ k ∧ k ≠ b ∧ k ≠ g) (⟨x.op, x.p, x.n, x.A, x.c, x.ws, x.B, x.d, x.ps, x.pp, x.r, x.r⟩ : Cm)) := zh ⟨hdv2.ws, hdv2.wc, hdv2.ps, hdv2.pc, hdv2.r, hdv2.r⟩
  have HMv2 := zh (HMv1.out.puts hg (nv x.r).toList 7)
  have HCv2 := zh (HCv1.out.puts hg (nv x.r).toList 7)
  have HZv2 : Hid (DeepN (v1.setCells g 7 (nv x.r).toList) (fun k => B ≤ k ∧ k ≠ b ∧ k ≠ g) [z]) := zh (HZv1.out.keep9 fun k _ ho => setCells_other _ _ _ _ k ho.2.2)
  clear hdv2
  refine hK.out _ _ HSv2.out ?_
  clear hK K
  (try simp only [Act.put, zA4, zA5, zA6])
  generalize (v1.setCells g 7 (nv x.r).toList) = v2 at *
  iterate 2
   (refine wpOT_step (zO rfl) ?_)
   (first
    | (refine wpOT_skip (by rfl) ?_)
    | (refine wpOT_take (v := ?_) (by rfl) ?_ ?_; rotate_left 1; (intro wx hSx; go_simp; try with_reducible rfl)))
   (try simp only [Act.put, zA4, zA5, zA6])
  (refine wpOT_solo (zO rfl) ?_)
  intro K hK
  rw [if_pos (by rfl)]
  refine wp_store_mid _ _ _ rfl g 12 (nv z) rfl rfl (RowAt.there9 HRv2.out (by show 12 + 5 ≤ 17; omega)) (node_info _ _ _ _ _) (by simp [nv, Value.oneCell']) ?_
  have HSv3 : Hid (S (v2.setCells g 12 (nv z).toList)) := zh (HSQ.out _ _ _ HSv2.out)
  have HRv3 : Hid (RowAt (v2.setCells g 12 (nv z).toList) g 30 (cv (⟨x.op, x.p, x.n, x.A, x.c, x.ws, x.B, x.d, x.ps, x.pp, x.r, z⟩ : Cm))) := zh (RowAt.puts HRv2.out (nv z).toList 12)
  have hdv3 := HDv2.out.puts hg (nv z).toList 12
  have HDv3 : Hid (DeepC (v2.setCells g 12 (nv z).toList) (fun k => B ≤ k ∧ k ≠ b ∧ k ≠ g) (⟨x.op, x.p, x.n, x.A, x.c, x.ws, x.B, x.d, x.ps, x.pp, x.r, z⟩ : Cm)) := zh ⟨hdv3.ws, hdv3.wc, hdv3.ps, hdv3.pc, hdv3.l, HZv2.out.keep9 fun k _ ho => setCells_other _ _ _ _ k ho.2.2⟩
  have HMv3 := zh (HMv2.out.puts hg (nv z).toList 12)
  have HCv3 := zh (HCv2.out.puts hg (nv z).toList 12)
  have HZv3 : Hid (DeepN (v2.setCells g 12 (nv z).toList) (fun k => B ≤ k ∧ k ≠ b ∧ k ≠ g) [z]) := zh (HZv2.out.keep9 fun k _ ho => setCells_other _ _ _ _ k ho.2.2)
  clear hdv3
  refine hK.out _ _ HSv3.out ?_
  clear hK K
  (try simp only [Act.put, zA4, zA5, zA6])
  generalize (v2.setCells g 12 (nv z).toList) = v3 at *
  refine wpOT_done ?_
  go_wp2
  exact bodyPost_ret (results_none rfl _ _ _) rfl (HQ.out _ _ ⟨(⟨x.op, x.p, x.n, x.A, x.c, x.ws, x.B, x.d, x.ps, x.pp, x.r, z⟩ : Cm), A2, c2, l2, f2, ⟨s.n, s.ws, s.ps, s.pp, s.ts ++ [er1 z]⟩, rfl, HCv3.out, HRv3.out, HDv3.out, (HD0.out _ HMv3.out), step_r HST.out, fun hf => hold_t (HX.out (HST.out.none hf))⟩)
end
end Go.Proofs.YtmffnkfohmbbeaaGreatDoor
