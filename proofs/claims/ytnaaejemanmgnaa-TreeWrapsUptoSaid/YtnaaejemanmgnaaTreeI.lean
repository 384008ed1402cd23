/-
  What Read of package tree returns: a stack of open brackets, each with Kids of its own. Conditions: lists below 2^30 tokens.
-/
import Derived.Test.YtnaaejemanmgnaaTreeH
namespace Go.Proofs.Ytnaaejemanmgnaa
open Go.RowKit LX TR
set_option maxRecDepth 100000 in
set_option maxHeartbeats 40000000 in
theorem treeRead_any (A : Option Addr) (c : Nat) (l : List Tk) (w : World) (hl : l.length ≤ 1073741824) (hA : Toks w A l) :
    Calls Try.prog 9 #[.slice A l.length c] w (Rt w.heap.size (parse l) · w ·) := by
  have HA := Lib.hid hA; clear hA
  have HDR : Hid (∀ i, i < l.length → l.drop i = l.getD i t0 :: l.drop (i + 1)) := fun i => tdrop_cons
  have HDN : Hid (∀ i, ¬ i < l.length → l.drop i = []) := fun i hi => List.drop_eq_nil_of_le (by omega)
  have HR0 : Hid (mrun (l.drop 0) (er1 r0 :: er [].reverse) = parse l) := by
    rw [List.drop_zero]
    show mrun l _ = mrun l [r0]
    simp [er1, r0, Tr.t, Tr.ks, Tr.e, er]
  show Calls Try.prog 9 #[.slice A l.length c] w (fun e w' => Rt w.heap.size (parse l) e w w')
  generalize hP : parse l = P at *
  generalize hn : l.length = n at *
  have HN := Lib.hid hn; clear hn hP
  have HG0 : Hid (RowAt ((w.alloc (.cells #[.int .i64 0, .int .i64 0] 27)).alloc (.cells #[.int .u8 0, .string ⟨#[]⟩, .int .i64 0, .slice none 0 0, .int .i64 0] 38)) w.heap.size 27 #[.int .i64 0, .int .i64 0]) := (RowAt.new _ _ _).alloc _
  have HS0 : Hid (Stak ((w.alloc (.cells #[.int .i64 0, .int .i64 0] 27)).alloc (.cells #[.int .u8 0, .string ⟨#[]⟩, .int .i64 0, .slice none 0 0, .int .i64 0] 38)) (w.heap.size + 1) (w.heap.size + 1) [r0].length 1 (tcs [r0])) := by
    refine ⟨Nat.le_refl _, Nat.le_refl _, rfl, #[.int .u8 0, .string ⟨#[]⟩, .int .i64 0, .slice none 0 0, .int .i64 0], ?_, by decide, rfl⟩
    have h := RowAt.new (w.alloc (.cells #[.int .i64 0, .int .i64 0] 27)) 38 #[.int .u8 0, .string ⟨#[]⟩, .int .i64 0, .slice none 0 0, .int .i64 0]
    rw [show (w.alloc (.cells #[.int .i64 0, .int .i64 0] 27)).heap.size = w.heap.size + 1 by simp] at h
    exact h
  have HB0 : Hid (Below w.heap.size w ((w.alloc (.cells #[.int .i64 0, .int .i64 0] 27)).alloc (.cells #[.int .u8 0, .string ⟨#[]⟩, .int .i64 0, .slice none 0 0, .int .i64 0] 38))) := ((Below.refl _ _).alloc (Nat.le_refl _) _).alloc (by simp) _
  have HI0 : Hid (RdInv w l P n (.slice (some ⟨w.heap.size + 1, 0, none⟩) 1 1) (.int .i64 0) ((w.alloc (.cells #[.int .i64 0, .int .i64 0] 27)).alloc (.cells #[.int .u8 0, .string ⟨#[]⟩, .int .i64 0, .slice none 0 0, .int .i64 0] 38))) :=
    ⟨0, [], r0, w.heap.size + 1, 1, fun _ => 1, by omega, by decide, rfl, rfl, HS0.out, fun j hj => by simp at hj, FrameOk.new _ _ _ _ _ _, rfl, fun _ _ => rfl, fun f hf => by simp at hf, Nat.le_refl 0, rfl, HR0.out, HG0.out, HB0.out⟩
  go_enter Try.func9, Try.ntmps9
  go_wp2
  go_loopw [4, 6, 7, 8, 14] (fun ov _ _ _ iv wr => RdInv w l P n ov iv wr) (fun _ _ _ _ iv _ => n - (intOf iv).toNat)
  case atStart => exact HI0.out
  case round =>
    obtain ⟨i, gs, f, g, d, role, hi, hf25, rfl, rfl, HST0, HFI0, HFL0, HRG, HRN0, HKG, hfl, HBT, HR, HGF0, HW⟩ := hrel
    have hne0 : w.heap.size ≠ g := fun e => by have := HST0.out.1; omega
    have HTOP := Lib.hid (fun j => tcs_top gs f j)
    have HCUT := Lib.hid (tcs_cut gs f)
    have hrun := HR.out
    have hel : (er gs.reverse).length = gs.length := by rw [er_length, List.length_reverse]
    generalize hm : gs.length = m at *
    have HM := Lib.hid hm; clear hm
    by_cases hlt : i < n
    · obtain ⟨b, o, rfl, hbl, hc⟩ := HA.out.at (k := i) (by rw [HN.out]; exact hlt)
      obtain ⟨hc0, hc1, hc2⟩ := hc i (by rw [HN.out]; exact hlt)
      replace hc0 := (HW.out.cell (p := ⟨b, o + i * 3, none⟩) hbl).trans hc0
      replace hc1 := (HW.out.cell (p := ⟨b, o + i * 3 + 1, none⟩) hbl).trans hc1
      replace hc2 := (HW.out.cell (p := ⟨b, o + i * 3 + 2, none⟩) hbl).trans hc2
      rw [HDR.out i hlt] at hrun
      clear hc
      generalize (l.getD i t0) = t at *
      have hts : ∀ s, mstep (er1 f :: er gs.reverse) t = s → (match s with | some st' => mrun (l.drop (i + 1)) st' = P | none => P = .error t.p) := fun s hs => by
        cases s with
        | some st' => rw [mrun_some hs] at hrun; exact hrun
        | none => rw [mrun_none hs] at hrun; exact hrun.symm
      clear hrun
      obtain ⟨k, s, p⟩ := t
      have hz1 : IntKind.i64.wrap ((m : Int) + 1 - 1) = (m : Int) := by rw [IntKind.wrap_i64] <;> omega
      go_upto_region 7 with fail
      have r8 : RowAt ((wr.alloc (.cells #[.int .u8 (k : Int), .string s, .int .i64 p] 36)).alloc (.cells #[.int .u8 (k : Int), .string s, .int .i64 p, .slice none 0 0, .int .i64 p] 38)) (wr.heap.size + 1) 38 #[.int .u8 (k : Int), .string s, .int .i64 p, .slice none 0 0, .int .i64 p] := by
        have h := RowAt.new (wr.alloc (.cells #[.int .u8 (k : Int), .string s, .int .i64 p] 36)) 38 #[.int .u8 (k : Int), .string s, .int .i64 p, .slice none 0 0, .int .i64 p]
        rw [show (wr.alloc (.cells #[.int .u8 (k : Int), .string s, .int .i64 p] 36)).heap.size = wr.heap.size + 1 by simp] at h
        exact h
      have R6 : Hid (RowAt ((wr.alloc (.cells #[.int .u8 (k : Int), .string s, .int .i64 p] 36)).alloc (.cells #[.int .u8 (k : Int), .string s, .int .i64 p, .slice none 0 0, .int .i64 p] 38)) wr.heap.size 36 #[.int .u8 (k : Int), .string s, .int .i64 p]) := (RowAt.new _ _ _).alloc _
      have hba : Below wr.heap.size wr ((wr.alloc (.cells #[.int .u8 (k : Int), .string s, .int .i64 p] 36)).alloc (.cells #[.int .u8 (k : Int), .string s, .int .i64 p, .slice none 0 0, .int .i64 p] 38)) := ((Below.refl _ _).alloc (Nat.le_refl _) _).alloc (by simp) _
      have HR8 : Hid (role (wr.heap.size + 1) = 1) := HRN0.out _ (by omega)
      have HG8 : Hid (wr.heap.size + 1 ≠ g) := by have := HST0.out.lt; show _ ≠ _; omega
      have HG08 : Hid (w.heap.size + 1 ≤ wr.heap.size) := HGF0.out.lt
      have HST := Lib.hid (HST0.out.below hba)
      have HFI := Lib.hid (HFI0.out.below hba)
      have HFL := Lib.hid (HFL0.out.below hba)
      have HRN : Hid (∀ b, ((wr.alloc (.cells #[.int .u8 (k : Int), .string s, .int .i64 p] 36)).alloc (.cells #[.int .u8 (k : Int), .string s, .int .i64 p, .slice none 0 0, .int .i64 p] 38)).heap.size ≤ b → role b = 1) := fun b hb => HRN0.out b (Nat.le_trans hba.size hb)
      have HWV := Lib.hid (HW.out.trans (hba.mono HW.out.size))
      have HGF := Lib.hid (HGF0.out.below hba HGF0.out.lt)
      clear hba hc0 hc1 hc2 HW HST0 HFI0 HFL0 HRN0 HGF0 HR
      have HBY := Lib.hid r8
      clear r8
      generalize (wr.alloc (.cells #[.int .u8 (k : Int), .string s, .int .i64 p] 36)).alloc (.cells #[.int .u8 (k : Int), .string s, .int .i64 p, .slice none 0 0, .int .i64 p] 38) = v at *
      have HG68 : Hid (wr.heap.size < wr.heap.size + 1) := Nat.lt_succ_self _
      generalize wr.heap.size + 1 = g8 at *
      generalize wr.heap.size = g6 at *
      have b60 := (R6.out.cell 0).trans rfl
      have b61 := (R6.out.cell 1).trans rfl
      have b62 := (R6.out.cell 2).trans rfl
      by_cases h0 : cl k = 0
      · cases hcz : cls k
        · have HRUN : Hid (mrun (l.drop (i + 1)) (push (er1 f) (er1 (.mk ⟨k, s, p⟩ none 0 [] p)) :: er gs.reverse) = P) := hts (some _) (by simp [mstep, h0, hcz, er1, Tr.t, Tr.ks, Tr.e, er])
          have HX1 : Hid (SlC v (fun b => w.heap.size + 1 ≤ b ∧ role b = 0) (Tr.mk ⟨k, s, p⟩ none 0 [] p).A (tcs (Tr.mk ⟨k, s, p⟩ none 0 [] p).ks)) := SlC.nil _ _ _
          have HX3 : Hid ((Tr.mk ⟨k, s, p⟩ none 0 [] p).ks.length ≤ (Tr.mk ⟨k, s, p⟩ none 0 [] p).c) := Nat.le_refl 0
          have HX2 : Hid (Deep v (fun b => w.heap.size + 1 ≤ b ∧ role b = 0) (Tr.mk ⟨k, s, p⟩ none 0 [] p).ks) := Deep.nil _ _
          have HBX : Hid (RowAt v g8 38 (trv (Tr.mk ⟨k, s, p⟩ none 0 [] p))) := HBY.out
          have hcc := cl_cases k
          have hcs := cls_cases k
          have e40 : ((k : Int) == 40) = false := by rw [beq_eq_false_iff_ne]; omega
          have e123 : ((k : Int) == 123) = false := by rw [beq_eq_false_iff_ne]; omega
          have e91 : ((k : Int) == 91) = false := by rw [beq_eq_false_iff_ne]; omega
          have e41 : ((k : Int) == 41) = false := by rw [beq_eq_false_iff_ne]; rcases hcs with ⟨_, h⟩ | ⟨_, h⟩ | ⟨_, h⟩ | ⟨h1, h2, h3, _⟩ <;> first | (rw [hcz] at h; cases h) | omega
          have e125 : ((k : Int) == 125) = false := by rw [beq_eq_false_iff_ne]; rcases hcs with ⟨_, h⟩ | ⟨_, h⟩ | ⟨_, h⟩ | ⟨h1, h2, h3, _⟩ <;> first | (rw [hcz] at h; cases h) | omega
          have e93 : ((k : Int) == 93) = false := by rw [beq_eq_false_iff_ne]; rcases hcs with ⟨_, h⟩ | ⟨_, h⟩ | ⟨_, h⟩ | ⟨h1, h2, h3, _⟩ <;> first | (rw [hcz] at h; cases h) | omega
          clear hts h0 hcz hcc hcs HBY
          generalize Tr.mk ⟨k, s, p⟩ none 0 [] p = x at *
          go_upto_region 23 with fail
          clear b60 b61 b62 e40 e123 e91 e41 e125 e93
          obtain ⟨S, HS, HKK, HSB⟩ := ex_box g8 38 (trv x) v HBX.out
          have C0 : ∀ w', S w' → w'.cell? ⟨g8, 0, none⟩ = some (.int .u8 (x.t.k : Int)) := fun w' h => ((HKK.out w' h).cell 0).trans rfl
          have C1 : ∀ w', S w' → w'.cell? ⟨g8, 1, none⟩ = some (.string x.t.s) := fun w' h => ((HKK.out w' h).cell 1).trans rfl
          have C2 : ∀ w', S w' → w'.cell? ⟨g8, 2, none⟩ = some (.int .i64 x.t.p) := fun w' h => ((HKK.out w' h).cell 2).trans rfl
          have C3 : ∀ w', S w' → w'.cell? ⟨g8, 3, none⟩ = some (.slice x.A x.ks.length x.c) := fun w' h => ((HKK.out w' h).cell 3).trans rfl
          have C4 : ∀ w', S w' → w'.cell? ⟨g8, 4, none⟩ = some (.int .i64 x.e) := fun w' h => ((HKK.out w' h).cell 4).trans rfl
          have hk3 : v.cell? ⟨g, m * 5 + 3, none⟩ = some (.slice f.A f.ks.length f.c) := HST.out.cell (by rw [HTOP.out]; rfl)
          have HLG := Lib.hid HST.out.lt
          have HWG : Hid (w.heap.size + 1 ≤ g) := HST.out.1
          have HFIV : Hid (∀ W, Below v.heap.size v W → Frames W (w.heap.size + 1) role gs) := fun W hb => HFI.out.below hb
          have HFLV : Hid (∀ W, Below v.heap.size v W → FrameOk W (w.heap.size + 1) role m f) := fun W hb => HFL.out.below hb
          have HX1V : Hid (∀ W, Below v.heap.size v W → SlC W (fun b => w.heap.size + 1 ≤ b ∧ role b = 0) x.A (tcs x.ks)) := fun W hb => HX1.out.keep hb.size (fun b hlt _ => hb.block b hlt) (fun _ _ h => h)
          have HX2V : Hid (∀ W, Below v.heap.size v W → Deep W (fun b => w.heap.size + 1 ≤ b ∧ role b = 0) x.ks) := fun W hb => HX2.out.below hb
          have HGFV : Hid (∀ W, Below v.heap.size v W → RowAt W w.heap.size 27 #[.int .i64 0, .int .i64 0]) := fun W hb => HGF.out.below hb HGF.out.lt
          have hlm : (m : Int) < (m : Int) + 1 := by omega
          have hlq : (f.ks.length : Int) < (f.ks.length : Int) + 1 := by omega
          refine wp_region_ot S (.take 0 (.take 1 (.take 2 (.take 3 (.take 5 (.two 4 (.take 6 (.solo 7 (.solo 8 (.take 9 (.take 11 (.take 12 (.two 10 (.solo 13 .nil) 13 (.solo 10 .nil)))))))) 7 (.solo 4 (.take 6 (.solo 8 (.take 9 (.take 11 (.take 12 (.two 10 (.solo 13 .nil) 13 (.solo 10 .nil)))))))))))))) (by kernel_rfl) (by kernel_rfl) rfl (by kernel_rfl) HS.out ?_
          iterate 5
            (refine wpOT_step (o := ?_) ?_ ?_; rotate_left 1; (simp only [List.getElem?_toArray, List.getElem?_cons_succ, List.getElem?_cons_zero]; with_reducible rfl))
            (first
                | (refine wpOT_skip (by rfl) ?_)
                | (refine wpOT_take (v := ?_) (by rfl) ?_ ?_; rotate_left 1; (intro wx hSx; have hc_0 := C0 wx hSx; have hc_1 := C1 wx hSx; have hc_2 := C2 wx hSx; have hc_3 := C3 wx hSx; have hc_4 := C4 wx hSx; go_simp; try with_reducible rfl)))
            (try simp only [Act.put, List.setIfInBounds_toArray, List.set_cons_zero, List.set_cons_succ])
          clear C0 C1 C2 C3 C4
          refine wpOT_two ?_ ?_
          · (refine wpOT_solo (o := ?_) ?_ ?_; rotate_left 1; (simp only [List.getElem?_toArray, List.getElem?_cons_succ, List.getElem?_cons_zero]; with_reducible rfl))
            intro K hK
            go_simp
            refine hK.out _ _ HS.out ?_
            clear hK K
            (try simp only [Act.put, List.setIfInBounds_toArray, List.set_cons_zero, List.set_cons_succ])
            iterate 1
              (refine wpOT_step (o := ?_) ?_ ?_; rotate_left 1; (simp only [List.getElem?_toArray, List.getElem?_cons_succ, List.getElem?_cons_zero]; with_reducible rfl))
              (first
                  | (refine wpOT_skip (by rfl) ?_)
                  | (refine wpOT_take (v := ?_) (by rfl) ?_ ?_; rotate_left 1; (intro wx hSx; go_simp; try with_reducible rfl)))
              (try simp only [Act.put, List.setIfInBounds_toArray, List.set_cons_zero, List.set_cons_succ])
            (refine wpOT_solo (o := ?_) ?_ ?_; rotate_left 1; (simp only [List.getElem?_toArray, List.getElem?_cons_succ, List.getElem?_cons_zero]; with_reducible rfl))
            intro K hK
            go_simp
            have hS : S (v.alloc (.cells #[.int .u8 0, .string ⟨#[]⟩, .int .i64 0, .slice none 0 0, .int .i64 0] 38)).drew := HSB.out v.drew _ HS.out (heap_alloc_old v _ HBX.out.lt)
            have HN1 : Hid (Sl (v.alloc (.cells #[.int .u8 0, .string ⟨#[]⟩, .int .i64 0, .slice none 0 0, .int .i64 0] 38)).drew (v.heap.size + 1) (some ⟨v.heap.size, 0, none⟩) [.int .u8 0, .string ⟨#[]⟩, .int .i64 0, .slice none 0 0, .int .i64 0]) := Sl.new v 38 [.int .u8 0, .string ⟨#[]⟩, .int .i64 0, .slice none 0 0, .int .i64 0]
            have HV1 : Hid (Below v.heap.size v (v.alloc (.cells #[.int .u8 0, .string ⟨#[]⟩, .int .i64 0, .slice none 0 0, .int .i64 0] 38)).drew) := ((Below.refl _ _).alloc (Nat.le_refl _) _).drew
            clear HS
            have HS := Lib.hid hS; clear hS
            refine hK.out _ _ HS.out ?_
            clear hK K
            (try simp only [Act.put, List.setIfInBounds_toArray, List.set_cons_zero, List.set_cons_succ])
            generalize (v.alloc (.cells #[.int .u8 0, .string ⟨#[]⟩, .int .i64 0, .slice none 0 0, .int .i64 0] 38)).drew = v1 at *
            generalize hgv : v.heap.size = g1 at *
            have HGV := Lib.hid hgv; clear hgv
            have HST1 := Lib.hid (HST.out.same (HV1.out.block g HLG.out))
            have HFI1 := Lib.hid (HFIV.out _ HV1.out)
            have HFL1 := Lib.hid (HFLV.out _ HV1.out)
            have HX11 := Lib.hid (HX1V.out _ HV1.out)
            have HX21 := Lib.hid (HX2V.out _ HV1.out)
            have HWV1 : Hid (Below w.heap.size w v1) := HWV.out.trans (HV1.out.mono (by have := HLG.out; have := HWG.out; omega))
            have k3 : v1.cell? ⟨g, m * 5 + 3, none⟩ = some (.slice f.A f.ks.length f.c) := HST1.out.cell (by rw [HTOP.out]; rfl)
            have HRN1 : Hid (∀ b, v1.heap.size ≤ b → role b = 1) := fun b hb => HRN.out b (by have h1 := HV1.out.size; have h2 := HGV.out; omega)
            (refine wpOT_solo (o := ?_) ?_ ?_; rotate_left 1; (simp only [List.getElem?_toArray, List.getElem?_cons_succ, List.getElem?_cons_zero]; with_reducible rfl))
            intro K hK
            rw [if_pos (by rfl)]
            refine wp_catAt _ _ 25 rfl 38 (.agg #[.int .u8 0, .string ⟨#[]⟩, .int .i64 0, .slice none 0 0, .int .i64 0]) 5 64 Try.underlying25 infoTree rfl (by decide) (by decide) (w.heap.size + 1) f.A f.ks.length f.c (tcs f.ks) rfl HFL1.out.1 _ (some ⟨g1, 0, none⟩) 1 1 [.int .u8 0, .string ⟨#[]⟩, .int .i64 0, .slice none 0 0, .int .i64 0] rfl rfl (by decide) HN1.out (by simp [Value.oneCell']) (by omega) (by have := HST1.out.lt; have := HWG.out; omega) ?_
            intro A4 d4 w4 hown4 hb4 hg4 hat4
            obtain ⟨g4, rfl, hg4B, hg4lt, hg4f, _⟩ := own_at hown4 (by intro e; have := congrArg List.length e; rw [List.length_append] at this; simp at this)
            have hrole4 : role g4 = m + 2 ∨ v1.heap.size ≤ g4 := by
              rcases hat4 with e | e
              · exact .inl (HFL1.out.2.1 g4 e.symm)
              · have e2 : some g4 = some v1.heap.size := e
                injection e2 with e2; exact .inr (by omega)
            have hch4 : ∀ b, b < v1.heap.size → role b ≠ m + 2 → w4.heap[b]? = v1.heap[b]? := fun b hb hr => hg4.block b hb (fun e => hr (HFL1.out.2.1 b e.symm))
            have hgg4 : g ≠ g4 := fun e => by
              subst e
              have h1 := HRG.out
              have h2 := HST1.out.lt
              rcases hrole4 with e | e <;> omega
            have hg84 : g8 ≠ g4 := fun e => by
              subst e
              have h1 := HR8.out
              have h2 := (HKK.out _ HS.out).lt
              rcases hrole4 with e | e <;> omega
            have hS4 : S w4 := HSB.out v1 w4 HS.out (hch4 g8 (HKK.out _ HS.out).lt (by rw [HR8.out]; omega))
            have HST4 := Lib.hid (HST1.out.same (hch4 g HST1.out.lt (by rw [HRG.out]; omega)))
            have HCH4 := Lib.hid hch4
            have HSZ4 := Lib.hid hg4.size
            have HOWN4 := Lib.hid hown4
            have HB4 := Lib.hid hb4
            have HG4LT := Lib.hid hg4lt
            clear HS hown4 hb4 hg4 hat4 hch4 hg4lt
            have HS := Lib.hid hS4; clear hS4
            refine hK.out _ _ HS.out ?_
            clear hK K
            (try simp only [Act.put, List.setIfInBounds_toArray, List.set_cons_zero, List.set_cons_succ])
            iterate 3
              (refine wpOT_step (o := ?_) ?_ ?_; rotate_left 1; (simp only [List.getElem?_toArray, List.getElem?_cons_succ, List.getElem?_cons_zero]; with_reducible rfl))
              (first
                  | (refine wpOT_skip (by rfl) ?_)
                  | (refine wpOT_take (v := ?_) (by rfl) ?_ ?_; rotate_left 1; (intro wx hSx; go_simp; try with_reducible rfl)))
              (try simp only [Act.put, List.setIfInBounds_toArray, List.set_cons_zero, List.set_cons_succ])
            obtain ⟨own5, there5⟩ := own_fill HOWN4.out (tcs_length f.ks) (ys := (trv x).toList) rfl
            refine wpOT_two ?_ ?_
            · (refine wpOT_solo (o := ?_) ?_ ?_; rotate_left 1; (simp only [List.getElem?_toArray, List.getElem?_cons_succ, List.getElem?_cons_zero]; with_reducible rfl))
              intro K hK
              rw [if_pos (by rfl)]
              refine wp_store_mid 38 _ _ rfl g4 (f.ks.length * 5) (trv x) rfl rfl there5 (tree_size _ _ _ _ _) (by simp [trv, Value.oneCell']) ?_
              have hS5 : S (w4.setCells g4 (f.ks.length * 5) (trv x).toList) := HSB.out w4 _ HS.out (setCells_other _ _ _ _ _ hg84)
              have HST5 := Lib.hid (HST4.out.same (setCells_other w4 g4 (f.ks.length * 5) (trv x).toList g hgg4))
              have HOWN5 := Lib.hid own5
              have HCH5 : Hid (∀ b, b < v1.heap.size → role b ≠ m + 2 → role b ≠ 1 → (w4.setCells g4 (f.ks.length * 5) (trv x).toList).heap[b]? = v1.heap[b]?) := fun b hb h1 h2 => (setCells_other _ _ _ _ _ (fun e => by subst e; rcases hrole4 with e | e <;> omega)).trans (HCH4.out b hb h1)
              have HSZ5 : Hid (v1.heap.size ≤ (w4.setCells g4 (f.ks.length * 5) (trv x).toList).heap.size) := by rw [setCells_size]; exact HSZ4.out
              have HG4Z : Hid (g4 < (w4.setCells g4 (f.ks.length * 5) (trv x).toList).heap.size) := by rw [setCells_size]; exact HG4LT.out
              have HB5 := Lib.hid (HB4.out.trans (setCells_below hg4B (f.ks.length * 5) (trv x).toList))
              clear HS own5 there5 HST4 HOWN4 HCH4 HB4
              have HS := Lib.hid hS5; clear hS5
              refine hK.out _ _ HS.out ?_
              clear hK K
              (try simp only [Act.put])
              generalize w4.setCells g4 (f.ks.length * 5) (trv x).toList = w5 at *
              have k5 : w5.cell? ⟨g, m * 5 + 3, none⟩ = some (.slice f.A f.ks.length f.c) := HST5.out.cell (by rw [HTOP.out]; rfl)
              have f5 := HST5.out.free (m * 5 + 3)
              (refine wpOT_solo (o := ?_) ?_ ?_; rotate_left 1; (simp only [List.getElem?_toArray, List.getElem?_cons_succ, List.getElem?_cons_zero]; with_reducible rfl))
              intro K hK
              go_simp
              have hS6 : S (w5.setCell ⟨g, m * 5 + 3, none⟩ (.slice (some ⟨g4, 0, none⟩) (f.ks.length + 1) d4)) := HSB.out w5 _ HS.out ((But.setCell w5 g _ _).block g8 (HKK.out _ HS.out).lt HG8.out)
              have HSTz := Lib.hid (HST5.out.set (m * 5 + 3) (.slice (some ⟨g4, 0, none⟩) (f.ks.length + 1) d4))
              have HOWNz := Lib.hid (own_same (w' := w5.setCell ⟨g, m * 5 + 3, none⟩ (.slice (some ⟨g4, 0, none⟩) (f.ks.length + 1) d4)) HOWN5.out (fun b hb e => (But.setCell w5 g _ _).block b hb (fun e2 => by subst e2; injection e with e; exact hgg4 e.symm)))
              have HCHz : Hid (∀ b, b < v1.heap.size → role b ≠ m + 2 → role b ≠ 1 → (w5.setCell ⟨g, m * 5 + 3, none⟩ (.slice (some ⟨g4, 0, none⟩) (f.ks.length + 1) d4)).heap[b]? = v1.heap[b]?) := fun b hb h1 h2 => ((But.setCell w5 g _ _).block b (Nat.lt_of_lt_of_le hb HSZ5.out) (fun e => by subst e; exact h2 HRG.out)).trans (HCH5.out b hb h1 h2)
              have HSZ := Lib.hid (Nat.le_trans HSZ5.out (But.setCell w5 g (m * 5 + 3) (.slice (some ⟨g4, 0, none⟩) (f.ks.length + 1) d4)).size)
              have HG4Z := Lib.hid (Nat.lt_of_lt_of_le HG4Z.out (But.setCell w5 g (m * 5 + 3) (.slice (some ⟨g4, 0, none⟩) (f.ks.length + 1) d4)).size)
              have HBZ := Lib.hid (HB5.out.setCell (p := ⟨g, m * 5 + 3, none⟩) HST5.out.1 (.slice (some ⟨g4, 0, none⟩) (f.ks.length + 1) d4))
              have HGFz := Lib.hid ((HGFV.out _ HV1.out).below HBZ.out (Nat.lt_succ_self _))
              have HWz := Lib.hid (HWV1.out.trans (HBZ.out.mono (Nat.le_succ _)))
              refine hK.out _ _ hS6 ?_
              clear hK K hS6 HS k5 f5 HST5 HOWN5 HCH5 HSZ5 HB5 HBZ HSZ4 HG4LT
              (try simp only [Act.put])
              refine wpOT_done ?_
              have HZ := Lib.hid (read_close (n := n) (by omega) (by rw [HM.out]; omega) (by rw [HM.out]; exact HSTz.out) HFI1.out (by rw [HM.out]; exact HFL1.out) HRG.out HRN1.out HKG.out hfl HBT.out HRUN.out HGFz.out HWz.out HX11.out HX3.out HX21.out (by rw [HM.out]; exact hrole4) HG4Z.out hgg4 HSZ.out (by rw [HM.out]; exact HCHz.out) HOWNz.out)
              rw [HM.out] at HZ
              clear HSTz HFI1 HFL1 HX11 HX21 HOWNz HCHz HGFz HWz k3
              go_wp2
              go_roundw
              case rel => exact HZ.out
              case measure => simp [intOf]; omega
            · have k5 : w4.cell? ⟨g, m * 5 + 3, none⟩ = some (.slice f.A f.ks.length f.c) := HST4.out.cell (by rw [HTOP.out]; rfl)
              have f5 := HST4.out.free (m * 5 + 3)
              (refine wpOT_solo (o := ?_) ?_ ?_; rotate_left 1; (simp only [List.getElem?_toArray, List.getElem?_cons_succ, List.getElem?_cons_zero]; with_reducible rfl))
              intro K hK
              go_simp
              have hS5 : S (w4.setCell ⟨g, m * 5 + 3, none⟩ (.slice (some ⟨g4, 0, none⟩) (f.ks.length + 1) d4)) := HSB.out w4 _ HS.out ((But.setCell w4 g _ _).block g8 (HKK.out _ HS.out).lt HG8.out)
              have HST5 := Lib.hid (HST4.out.set (m * 5 + 3) (.slice (some ⟨g4, 0, none⟩) (f.ks.length + 1) d4))
              have HOWN5 := Lib.hid (own_same (w' := w4.setCell ⟨g, m * 5 + 3, none⟩ (.slice (some ⟨g4, 0, none⟩) (f.ks.length + 1) d4)) HOWN4.out (fun b hb e => (But.setCell w4 g _ _).block b hb (fun e2 => by subst e2; injection e with e; exact hgg4 e.symm)))
              have HCH5 : Hid (∀ b, b < v1.heap.size → role b ≠ m + 2 → role b ≠ 1 → (w4.setCell ⟨g, m * 5 + 3, none⟩ (.slice (some ⟨g4, 0, none⟩) (f.ks.length + 1) d4)).heap[b]? = v1.heap[b]?) := fun b hb h1 h2 => ((But.setCell w4 g _ _).block b (Nat.lt_of_lt_of_le hb HSZ4.out) (fun e => by subst e; exact h2 HRG.out)).trans (HCH4.out b hb h1)
              have HSZ5 := Lib.hid (Nat.le_trans HSZ4.out (But.setCell w4 g (m * 5 + 3) (.slice (some ⟨g4, 0, none⟩) (f.ks.length + 1) d4)).size)
              have HG4Z := Lib.hid (Nat.lt_of_lt_of_le HG4LT.out (But.setCell w4 g (m * 5 + 3) (.slice (some ⟨g4, 0, none⟩) (f.ks.length + 1) d4)).size)
              have HB5 := Lib.hid (HB4.out.setCell (p := ⟨g, m * 5 + 3, none⟩) HST4.out.1 (.slice (some ⟨g4, 0, none⟩) (f.ks.length + 1) d4))
              clear own5 there5 HST4 HOWN4 HCH4 HB4 HSZ4 HG4LT
              refine hK.out _ _ hS5 ?_
              clear hK K HS k5 f5
              have HS := Lib.hid hS5; clear hS5
              (try simp only [Act.put])
              generalize w4.setCell ⟨g, m * 5 + 3, none⟩ (.slice (some ⟨g4, 0, none⟩) (f.ks.length + 1) d4) = w5 at *
              obtain ⟨own6, there6⟩ := own_fill HOWN5.out (tcs_length f.ks) (ys := (trv x).toList) rfl
              (refine wpOT_solo (o := ?_) ?_ ?_; rotate_left 1; (simp only [List.getElem?_toArray, List.getElem?_cons_succ, List.getElem?_cons_zero]; with_reducible rfl))
              intro K hK
              rw [if_pos (by rfl)]
              refine wp_store_mid 38 _ _ rfl g4 (f.ks.length * 5) (trv x) rfl rfl there6 (tree_size _ _ _ _ _) (by simp [trv, Value.oneCell']) ?_
              have hS6 : S (w5.setCells g4 (f.ks.length * 5) (trv x).toList) := HSB.out w5 _ HS.out (setCells_other _ _ _ _ _ hg84)
              have HSTz := Lib.hid (HST5.out.same (setCells_other w5 g4 (f.ks.length * 5) (trv x).toList g hgg4))
              have HOWNz := Lib.hid own6
              have HCHz : Hid (∀ b, b < v1.heap.size → role b ≠ m + 2 → role b ≠ 1 → (w5.setCells g4 (f.ks.length * 5) (trv x).toList).heap[b]? = v1.heap[b]?) := fun b hb h1 h2 => (setCells_other _ _ _ _ _ (fun e => by subst e; rcases hrole4 with e | e <;> omega)).trans (HCH5.out b hb h1 h2)
              have HSZ : Hid (v1.heap.size ≤ (w5.setCells g4 (f.ks.length * 5) (trv x).toList).heap.size) := by rw [setCells_size]; exact HSZ5.out
              have HG4Z : Hid (g4 < (w5.setCells g4 (f.ks.length * 5) (trv x).toList).heap.size) := by rw [setCells_size]; exact HG4Z.out
              have HBZ := Lib.hid (HB5.out.trans (setCells_below hg4B (f.ks.length * 5) (trv x).toList))
              have HGFz := Lib.hid ((HGFV.out _ HV1.out).below HBZ.out (Nat.lt_succ_self _))
              have HWz := Lib.hid (HWV1.out.trans (HBZ.out.mono (Nat.le_succ _)))
              refine hK.out _ _ hS6 ?_
              clear hK K hS6 HS HST5 HOWN5 HCH5 HSZ5 HB5 HBZ own6 there6
              (try simp only [Act.put])
              refine wpOT_done ?_
              have HZ := Lib.hid (read_close (n := n) (by omega) (by rw [HM.out]; omega) (by rw [HM.out]; exact HSTz.out) HFI1.out (by rw [HM.out]; exact HFL1.out) HRG.out HRN1.out HKG.out hfl HBT.out HRUN.out HGFz.out HWz.out HX11.out HX3.out HX21.out (by rw [HM.out]; exact hrole4) HG4Z.out hgg4 HSZ.out (by rw [HM.out]; exact HCHz.out) HOWNz.out)
              rw [HM.out] at HZ
              clear HSTz HFI1 HFL1 HX11 HX21 HOWNz HCHz HGFz HWz k3
              go_wp2
              go_roundw
              case rel => exact HZ.out
              case measure => simp [intOf]; omega
          · (refine wpOT_solo (o := ?_) ?_ ?_; rotate_left 1; (simp only [List.getElem?_toArray, List.getElem?_cons_succ, List.getElem?_cons_zero]; with_reducible rfl))
            intro K hK
            go_simp
            have hS : S (v.alloc (.cells #[.int .u8 0, .string ⟨#[]⟩, .int .i64 0, .slice none 0 0, .int .i64 0] 38)).drew := HSB.out v.drew _ HS.out (heap_alloc_old v _ HBX.out.lt)
            have HN1 : Hid (Sl (v.alloc (.cells #[.int .u8 0, .string ⟨#[]⟩, .int .i64 0, .slice none 0 0, .int .i64 0] 38)).drew (v.heap.size + 1) (some ⟨v.heap.size, 0, none⟩) [.int .u8 0, .string ⟨#[]⟩, .int .i64 0, .slice none 0 0, .int .i64 0]) := Sl.new v 38 [.int .u8 0, .string ⟨#[]⟩, .int .i64 0, .slice none 0 0, .int .i64 0]
            have HV1 : Hid (Below v.heap.size v (v.alloc (.cells #[.int .u8 0, .string ⟨#[]⟩, .int .i64 0, .slice none 0 0, .int .i64 0] 38)).drew) := ((Below.refl _ _).alloc (Nat.le_refl _) _).drew
            clear HS
            have HS := Lib.hid hS; clear hS
            refine hK.out _ _ HS.out ?_
            clear hK K
            (try simp only [Act.put, List.setIfInBounds_toArray, List.set_cons_zero, List.set_cons_succ])
            generalize (v.alloc (.cells #[.int .u8 0, .string ⟨#[]⟩, .int .i64 0, .slice none 0 0, .int .i64 0] 38)).drew = v1 at *
            generalize hgv : v.heap.size = g1 at *
            have HGV := Lib.hid hgv; clear hgv
            have HST1 := Lib.hid (HST.out.same (HV1.out.block g HLG.out))
            have HFI1 := Lib.hid (HFIV.out _ HV1.out)
            have HFL1 := Lib.hid (HFLV.out _ HV1.out)
            have HX11 := Lib.hid (HX1V.out _ HV1.out)
            have HX21 := Lib.hid (HX2V.out _ HV1.out)
            have HWV1 : Hid (Below w.heap.size w v1) := HWV.out.trans (HV1.out.mono (by have := HLG.out; have := HWG.out; omega))
            have k3 : v1.cell? ⟨g, m * 5 + 3, none⟩ = some (.slice f.A f.ks.length f.c) := HST1.out.cell (by rw [HTOP.out]; rfl)
            have HRN1 : Hid (∀ b, v1.heap.size ≤ b → role b = 1) := fun b hb => HRN.out b (by have h1 := HV1.out.size; have h2 := HGV.out; omega)
            (refine wpOT_solo (o := ?_) ?_ ?_; rotate_left 1; (simp only [List.getElem?_toArray, List.getElem?_cons_succ, List.getElem?_cons_zero]; with_reducible rfl))
            intro K hK
            go_simp
            refine hK.out _ _ HS.out ?_
            clear hK K
            (try simp only [Act.put, List.setIfInBounds_toArray, List.set_cons_zero, List.set_cons_succ])
            iterate 1
              (refine wpOT_step (o := ?_) ?_ ?_; rotate_left 1; (simp only [List.getElem?_toArray, List.getElem?_cons_succ, List.getElem?_cons_zero]; with_reducible rfl))
              (first
                  | (refine wpOT_skip (by rfl) ?_)
                  | (refine wpOT_take (v := ?_) (by rfl) ?_ ?_; rotate_left 1; (intro wx hSx; go_simp; try with_reducible rfl)))
              (try simp only [Act.put, List.setIfInBounds_toArray, List.set_cons_zero, List.set_cons_succ])
            (refine wpOT_solo (o := ?_) ?_ ?_; rotate_left 1; (simp only [List.getElem?_toArray, List.getElem?_cons_succ, List.getElem?_cons_zero]; with_reducible rfl))
            intro K hK
            rw [if_pos (by rfl)]
            refine wp_catAt _ _ 25 rfl 38 (.agg #[.int .u8 0, .string ⟨#[]⟩, .int .i64 0, .slice none 0 0, .int .i64 0]) 5 64 Try.underlying25 infoTree rfl (by decide) (by decide) (w.heap.size + 1) f.A f.ks.length f.c (tcs f.ks) rfl HFL1.out.1 _ (some ⟨g1, 0, none⟩) 1 1 [.int .u8 0, .string ⟨#[]⟩, .int .i64 0, .slice none 0 0, .int .i64 0] rfl rfl (by decide) HN1.out (by simp [Value.oneCell']) (by omega) (by have := HST1.out.lt; have := HWG.out; omega) ?_
            intro A4 d4 w4 hown4 hb4 hg4 hat4
            obtain ⟨g4, rfl, hg4B, hg4lt, hg4f, _⟩ := own_at hown4 (by intro e; have := congrArg List.length e; rw [List.length_append] at this; simp at this)
            have hrole4 : role g4 = m + 2 ∨ v1.heap.size ≤ g4 := by
              rcases hat4 with e | e
              · exact .inl (HFL1.out.2.1 g4 e.symm)
              · have e2 : some g4 = some v1.heap.size := e
                injection e2 with e2; exact .inr (by omega)
            have hch4 : ∀ b, b < v1.heap.size → role b ≠ m + 2 → w4.heap[b]? = v1.heap[b]? := fun b hb hr => hg4.block b hb (fun e => hr (HFL1.out.2.1 b e.symm))
            have hgg4 : g ≠ g4 := fun e => by
              subst e
              have h1 := HRG.out
              have h2 := HST1.out.lt
              rcases hrole4 with e | e <;> omega
            have hg84 : g8 ≠ g4 := fun e => by
              subst e
              have h1 := HR8.out
              have h2 := (HKK.out _ HS.out).lt
              rcases hrole4 with e | e <;> omega
            have hS4 : S w4 := HSB.out v1 w4 HS.out (hch4 g8 (HKK.out _ HS.out).lt (by rw [HR8.out]; omega))
            have HST4 := Lib.hid (HST1.out.same (hch4 g HST1.out.lt (by rw [HRG.out]; omega)))
            have HCH4 := Lib.hid hch4
            have HSZ4 := Lib.hid hg4.size
            have HOWN4 := Lib.hid hown4
            have HB4 := Lib.hid hb4
            have HG4LT := Lib.hid hg4lt
            clear HS hown4 hb4 hg4 hat4 hch4 hg4lt
            have HS := Lib.hid hS4; clear hS4
            refine hK.out _ _ HS.out ?_
            clear hK K
            (try simp only [Act.put, List.setIfInBounds_toArray, List.set_cons_zero, List.set_cons_succ])
            iterate 3
              (refine wpOT_step (o := ?_) ?_ ?_; rotate_left 1; (simp only [List.getElem?_toArray, List.getElem?_cons_succ, List.getElem?_cons_zero]; with_reducible rfl))
              (first
                  | (refine wpOT_skip (by rfl) ?_)
                  | (refine wpOT_take (v := ?_) (by rfl) ?_ ?_; rotate_left 1; (intro wx hSx; go_simp; try with_reducible rfl)))
              (try simp only [Act.put, List.setIfInBounds_toArray, List.set_cons_zero, List.set_cons_succ])
            obtain ⟨own5, there5⟩ := own_fill HOWN4.out (tcs_length f.ks) (ys := (trv x).toList) rfl
            refine wpOT_two ?_ ?_
            · (refine wpOT_solo (o := ?_) ?_ ?_; rotate_left 1; (simp only [List.getElem?_toArray, List.getElem?_cons_succ, List.getElem?_cons_zero]; with_reducible rfl))
              intro K hK
              rw [if_pos (by rfl)]
              refine wp_store_mid 38 _ _ rfl g4 (f.ks.length * 5) (trv x) rfl rfl there5 (tree_size _ _ _ _ _) (by simp [trv, Value.oneCell']) ?_
              have hS5 : S (w4.setCells g4 (f.ks.length * 5) (trv x).toList) := HSB.out w4 _ HS.out (setCells_other _ _ _ _ _ hg84)
              have HST5 := Lib.hid (HST4.out.same (setCells_other w4 g4 (f.ks.length * 5) (trv x).toList g hgg4))
              have HOWN5 := Lib.hid own5
              have HCH5 : Hid (∀ b, b < v1.heap.size → role b ≠ m + 2 → role b ≠ 1 → (w4.setCells g4 (f.ks.length * 5) (trv x).toList).heap[b]? = v1.heap[b]?) := fun b hb h1 h2 => (setCells_other _ _ _ _ _ (fun e => by subst e; rcases hrole4 with e | e <;> omega)).trans (HCH4.out b hb h1)
              have HSZ5 : Hid (v1.heap.size ≤ (w4.setCells g4 (f.ks.length * 5) (trv x).toList).heap.size) := by rw [setCells_size]; exact HSZ4.out
              have HG4Z : Hid (g4 < (w4.setCells g4 (f.ks.length * 5) (trv x).toList).heap.size) := by rw [setCells_size]; exact HG4LT.out
              have HB5 := Lib.hid (HB4.out.trans (setCells_below hg4B (f.ks.length * 5) (trv x).toList))
              clear HS own5 there5 HST4 HOWN4 HCH4 HB4
              have HS := Lib.hid hS5; clear hS5
              refine hK.out _ _ HS.out ?_
              clear hK K
              (try simp only [Act.put])
              generalize w4.setCells g4 (f.ks.length * 5) (trv x).toList = w5 at *
              have k5 : w5.cell? ⟨g, m * 5 + 3, none⟩ = some (.slice f.A f.ks.length f.c) := HST5.out.cell (by rw [HTOP.out]; rfl)
              have f5 := HST5.out.free (m * 5 + 3)
              (refine wpOT_solo (o := ?_) ?_ ?_; rotate_left 1; (simp only [List.getElem?_toArray, List.getElem?_cons_succ, List.getElem?_cons_zero]; with_reducible rfl))
              intro K hK
              go_simp
              have hS6 : S (w5.setCell ⟨g, m * 5 + 3, none⟩ (.slice (some ⟨g4, 0, none⟩) (f.ks.length + 1) d4)) := HSB.out w5 _ HS.out ((But.setCell w5 g _ _).block g8 (HKK.out _ HS.out).lt HG8.out)
              have HSTz := Lib.hid (HST5.out.set (m * 5 + 3) (.slice (some ⟨g4, 0, none⟩) (f.ks.length + 1) d4))
              have HOWNz := Lib.hid (own_same (w' := w5.setCell ⟨g, m * 5 + 3, none⟩ (.slice (some ⟨g4, 0, none⟩) (f.ks.length + 1) d4)) HOWN5.out (fun b hb e => (But.setCell w5 g _ _).block b hb (fun e2 => by subst e2; injection e with e; exact hgg4 e.symm)))
              have HCHz : Hid (∀ b, b < v1.heap.size → role b ≠ m + 2 → role b ≠ 1 → (w5.setCell ⟨g, m * 5 + 3, none⟩ (.slice (some ⟨g4, 0, none⟩) (f.ks.length + 1) d4)).heap[b]? = v1.heap[b]?) := fun b hb h1 h2 => ((But.setCell w5 g _ _).block b (Nat.lt_of_lt_of_le hb HSZ5.out) (fun e => by subst e; exact h2 HRG.out)).trans (HCH5.out b hb h1 h2)
              have HSZ := Lib.hid (Nat.le_trans HSZ5.out (But.setCell w5 g (m * 5 + 3) (.slice (some ⟨g4, 0, none⟩) (f.ks.length + 1) d4)).size)
              have HG4Z := Lib.hid (Nat.lt_of_lt_of_le HG4Z.out (But.setCell w5 g (m * 5 + 3) (.slice (some ⟨g4, 0, none⟩) (f.ks.length + 1) d4)).size)
              have HBZ := Lib.hid (HB5.out.setCell (p := ⟨g, m * 5 + 3, none⟩) HST5.out.1 (.slice (some ⟨g4, 0, none⟩) (f.ks.length + 1) d4))
              have HGFz := Lib.hid ((HGFV.out _ HV1.out).below HBZ.out (Nat.lt_succ_self _))
              have HWz := Lib.hid (HWV1.out.trans (HBZ.out.mono (Nat.le_succ _)))
              refine hK.out _ _ hS6 ?_
              clear hK K hS6 HS k5 f5 HST5 HOWN5 HCH5 HSZ5 HB5 HBZ HSZ4 HG4LT
              (try simp only [Act.put])
              refine wpOT_done ?_
              have HZ := Lib.hid (read_close (n := n) (by omega) (by rw [HM.out]; omega) (by rw [HM.out]; exact HSTz.out) HFI1.out (by rw [HM.out]; exact HFL1.out) HRG.out HRN1.out HKG.out hfl HBT.out HRUN.out HGFz.out HWz.out HX11.out HX3.out HX21.out (by rw [HM.out]; exact hrole4) HG4Z.out hgg4 HSZ.out (by rw [HM.out]; exact HCHz.out) HOWNz.out)
              rw [HM.out] at HZ
              clear HSTz HFI1 HFL1 HX11 HX21 HOWNz HCHz HGFz HWz k3
              go_wp2
              go_roundw
              case rel => exact HZ.out
              case measure => simp [intOf]; omega
            · have k5 : w4.cell? ⟨g, m * 5 + 3, none⟩ = some (.slice f.A f.ks.length f.c) := HST4.out.cell (by rw [HTOP.out]; rfl)
              have f5 := HST4.out.free (m * 5 + 3)
              (refine wpOT_solo (o := ?_) ?_ ?_; rotate_left 1; (simp only [List.getElem?_toArray, List.getElem?_cons_succ, List.getElem?_cons_zero]; with_reducible rfl))
              intro K hK
              go_simp
              have hS5 : S (w4.setCell ⟨g, m * 5 + 3, none⟩ (.slice (some ⟨g4, 0, none⟩) (f.ks.length + 1) d4)) := HSB.out w4 _ HS.out ((But.setCell w4 g _ _).block g8 (HKK.out _ HS.out).lt HG8.out)
              have HST5 := Lib.hid (HST4.out.set (m * 5 + 3) (.slice (some ⟨g4, 0, none⟩) (f.ks.length + 1) d4))
              have HOWN5 := Lib.hid (own_same (w' := w4.setCell ⟨g, m * 5 + 3, none⟩ (.slice (some ⟨g4, 0, none⟩) (f.ks.length + 1) d4)) HOWN4.out (fun b hb e => (But.setCell w4 g _ _).block b hb (fun e2 => by subst e2; injection e with e; exact hgg4 e.symm)))
              have HCH5 : Hid (∀ b, b < v1.heap.size → role b ≠ m + 2 → role b ≠ 1 → (w4.setCell ⟨g, m * 5 + 3, none⟩ (.slice (some ⟨g4, 0, none⟩) (f.ks.length + 1) d4)).heap[b]? = v1.heap[b]?) := fun b hb h1 h2 => ((But.setCell w4 g _ _).block b (Nat.lt_of_lt_of_le hb HSZ4.out) (fun e => by subst e; exact h2 HRG.out)).trans (HCH4.out b hb h1)
              have HSZ5 := Lib.hid (Nat.le_trans HSZ4.out (But.setCell w4 g (m * 5 + 3) (.slice (some ⟨g4, 0, none⟩) (f.ks.length + 1) d4)).size)
              have HG4Z := Lib.hid (Nat.lt_of_lt_of_le HG4LT.out (But.setCell w4 g (m * 5 + 3) (.slice (some ⟨g4, 0, none⟩) (f.ks.length + 1) d4)).size)
              have HB5 := Lib.hid (HB4.out.setCell (p := ⟨g, m * 5 + 3, none⟩) HST4.out.1 (.slice (some ⟨g4, 0, none⟩) (f.ks.length + 1) d4))
              clear own5 there5 HST4 HOWN4 HCH4 HB4 HSZ4 HG4LT
              refine hK.out _ _ hS5 ?_
              clear hK K HS k5 f5
              have HS := Lib.hid hS5; clear hS5
              (try simp only [Act.put])
              generalize w4.setCell ⟨g, m * 5 + 3, none⟩ (.slice (some ⟨g4, 0, none⟩) (f.ks.length + 1) d4) = w5 at *
              obtain ⟨own6, there6⟩ := own_fill HOWN5.out (tcs_length f.ks) (ys := (trv x).toList) rfl
              (refine wpOT_solo (o := ?_) ?_ ?_; rotate_left 1; (simp only [List.getElem?_toArray, List.getElem?_cons_succ, List.getElem?_cons_zero]; with_reducible rfl))
              intro K hK
              rw [if_pos (by rfl)]
              refine wp_store_mid 38 _ _ rfl g4 (f.ks.length * 5) (trv x) rfl rfl there6 (tree_size _ _ _ _ _) (by simp [trv, Value.oneCell']) ?_
              have hS6 : S (w5.setCells g4 (f.ks.length * 5) (trv x).toList) := HSB.out w5 _ HS.out (setCells_other _ _ _ _ _ hg84)
              have HSTz := Lib.hid (HST5.out.same (setCells_other w5 g4 (f.ks.length * 5) (trv x).toList g hgg4))
              have HOWNz := Lib.hid own6
              have HCHz : Hid (∀ b, b < v1.heap.size → role b ≠ m + 2 → role b ≠ 1 → (w5.setCells g4 (f.ks.length * 5) (trv x).toList).heap[b]? = v1.heap[b]?) := fun b hb h1 h2 => (setCells_other _ _ _ _ _ (fun e => by subst e; rcases hrole4 with e | e <;> omega)).trans (HCH5.out b hb h1 h2)
              have HSZ : Hid (v1.heap.size ≤ (w5.setCells g4 (f.ks.length * 5) (trv x).toList).heap.size) := by rw [setCells_size]; exact HSZ5.out
              have HG4Z : Hid (g4 < (w5.setCells g4 (f.ks.length * 5) (trv x).toList).heap.size) := by rw [setCells_size]; exact HG4Z.out
              have HBZ := Lib.hid (HB5.out.trans (setCells_below hg4B (f.ks.length * 5) (trv x).toList))
              have HGFz := Lib.hid ((HGFV.out _ HV1.out).below HBZ.out (Nat.lt_succ_self _))
              have HWz := Lib.hid (HWV1.out.trans (HBZ.out.mono (Nat.le_succ _)))
              refine hK.out _ _ hS6 ?_
              clear hK K hS6 HS HST5 HOWN5 HCH5 HSZ5 HB5 HBZ own6 there6
              (try simp only [Act.put])
              refine wpOT_done ?_
              have HZ := Lib.hid (read_close (n := n) (by omega) (by rw [HM.out]; omega) (by rw [HM.out]; exact HSTz.out) HFI1.out (by rw [HM.out]; exact HFL1.out) HRG.out HRN1.out HKG.out hfl HBT.out HRUN.out HGFz.out HWz.out HX11.out HX3.out HX21.out (by rw [HM.out]; exact hrole4) HG4Z.out hgg4 HSZ.out (by rw [HM.out]; exact HCHz.out) HOWNz.out)
              rw [HM.out] at HZ
              clear HSTz HFI1 HFL1 HX11 HX21 HOWNz HCHz HGFz HWz k3
              go_wp2
              go_roundw
              case rel => exact HZ.out
              case measure => simp [intOf]; omega
        · rcases cls_cases k with ⟨rfl, _⟩ | ⟨rfl, _⟩ | ⟨rfl, _⟩ | ⟨_, _, _, h⟩
          · have s0 : v.cell? ⟨g, m * 5, none⟩ = some (.int .u8 (f.t.k : Int)) := HST.out.cell (by have := HTOP.out 0; rw [Nat.add_zero] at this; rw [this]; rfl)
            have s1 : v.cell? ⟨g, m * 5 + 1, none⟩ = some (.string f.t.s) := HST.out.cell (by rw [HTOP.out]; rfl)
            have s2 : v.cell? ⟨g, m * 5 + 2, none⟩ = some (.int .i64 f.t.p) := HST.out.cell (by rw [HTOP.out]; rfl)
            have s3 : v.cell? ⟨g, m * 5 + 3, none⟩ = some (.slice f.A f.ks.length f.c) := HST.out.cell (by rw [HTOP.out]; rfl)
            have s4 : v.cell? ⟨g, m * 5 + 4, none⟩ = some (.int .i64 f.e) := HST.out.cell (by rw [HTOP.out]; rfl)
            go_upto_region 17 with fail
            go_upto_region 18 with (first | (refine wpList_store_row (by rfl) _ _ _ rfl g8 #[.int .u8 (f.t.k : Int), .string f.t.s, .int .i64 f.t.p, .slice f.A f.ks.length f.c, .int .i64 f.e] rfl rfl _ _ HBY.out (tree_size _ _ _ _ _) rfl (by simp [Value.oneCell']) ?_))
            have hbut := But.setRow v g8 #[.int .u8 (f.t.k : Int), .string f.t.s, .int .i64 f.t.p, .slice f.A f.ks.length f.c, .int .i64 f.e]
            have r8 : RowAt (v.setRow g8 #[.int .u8 (f.t.k : Int), .string f.t.s, .int .i64 f.t.p, .slice f.A f.ks.length f.c, .int .i64 f.e]) g8 38 #[.int .u8 (f.t.k : Int), .string f.t.s, .int .i64 f.t.p, .slice f.A f.ks.length f.c, .int .i64 f.e] := HBY.out.setRow _
            have R62 : Hid (RowAt (v.setRow g8 #[.int .u8 (f.t.k : Int), .string f.t.s, .int .i64 f.t.p, .slice f.A f.ks.length f.c, .int .i64 f.e]) g6 36 #[.int .u8 41, .string s, .int .i64 p]) := (hbut.block g6 R6.out.lt (by have := HG68.out; omega)).trans R6.out
            have HST2 := Lib.hid (HST.out.same (hbut.block g HST.out.lt (fun e => HG8.out e.symm)))
            have HFI2 := Lib.hid (HFI.out.but HR8.out hbut)
            have HFL2 := Lib.hid (HFL.out.but HR8.out hbut)
            have HG0N : Hid (w.heap.size ≠ g8) := by have := HG08.out; have := HG68.out; show _ ≠ _; omega
            have HGF2 : Hid (RowAt (v.setRow g8 #[.int .u8 (f.t.k : Int), .string f.t.s, .int .i64 f.t.p, .slice f.A f.ks.length f.c, .int .i64 f.e]) w.heap.size 27 #[.int .i64 0, .int .i64 0]) := (hbut.block _ HGF.out.lt HG0N.out).trans HGF.out
            have HWV2 := Lib.hid (HWV.out.trans (below_setRow (B := w.heap.size) (w := v) (g := g8) (by have := HG08.out; have := HG68.out; omega) #[.int .u8 (f.t.k : Int), .string f.t.s, .int .i64 f.t.p, .slice f.A f.ks.length f.c, .int .i64 f.e]))
            have HRN2 : Hid (∀ b, (v.setRow g8 #[.int .u8 (f.t.k : Int), .string f.t.s, .int .i64 f.t.p, .slice f.A f.ks.length f.c, .int .i64 f.e]).heap.size ≤ b → role b = 1) := fun b hb => HRN.out b (Nat.le_trans hbut.size hb)
            have HBY2 := Lib.hid r8
            clear hbut r8 b60 b61 b62 s0 s1 s2 s3 s4 HST HFI HFL HGF HWV HRN HBY R6
            generalize v.setRow g8 #[.int .u8 (f.t.k : Int), .string f.t.s, .int .i64 f.t.p, .slice f.A f.ks.length f.c, .int .i64 f.e] = v2 at *
            have b60 := (R62.out.cell 0).trans rfl
            have b61 := (R62.out.cell 1).trans rfl
            have b62 := (R62.out.cell 2).trans rfl
            have b80 := (HBY2.out.cell 0).trans rfl
            have b84 := (HBY2.out.cell 4).trans rfl
            have f84 := HBY2.out.free 4
            by_cases heq : cl f.t.k = 41
            · have hgne : gs ≠ [] := fun e => by
                subst e
                have hb : f.t = t0 := HBT.out
                rw [hb] at heq
                exact absurd heq (by decide)
              obtain ⟨hs, g2, rfl⟩ : ∃ hs g2, gs = hs ++ [g2] := ⟨gs.dropLast, gs.getLast hgne, (List.dropLast_concat_getLast _).symm⟩
              have hrun2 := hts (some (push (er1 g2) (.mk f.t none 0 (er f.ks) p) :: er hs.reverse)) (by
                rw [er_top]
                have e1 : cl (er1 f).t.k = 41 := heq
                simp only [mstep, if_pos h0, if_pos hcz, e1, if_true]
                rfl)
              obtain ⟨m1, rfl⟩ : ∃ m1, m = m1 + 1 := ⟨hs.length, by have := HM.out; rw [List.length_append, List.length_singleton] at this; exact this.symm⟩
              have hm1 : hs.length = m1 := by have := HM.out; rw [List.length_append, List.length_singleton] at this; omega
              have hmd : m1 + 1 + 1 ≤ d := HST2.out.2.1
              have hz2 : IntKind.i64.wrap ((m1 : Int) + 1 - 1) = (m1 : Int) := by rw [IntKind.wrap_i64] <;> omega
              have hcl := fun W => closer_any f.t.k W
              rw [heq] at hcl
              have HCL := Lib.hid hcl
              clear hts hcl h0 hcz hgne
              generalize hkf : f.t.k = kf at *
              go_quiet ((go_at_call 22; exact quiet_same (HCL.out _)))
              go_upto_region 23 with fail
              have HB2 : Hid (But g8 v2 ((v2.drewN nq).setCell ⟨g8, 4, none⟩ (.int .i64 p))) := ⟨(But.setCell (v2.drewN nq) g8 4 (.int .i64 p)).size, (But.setCell (v2.drewN nq) g8 4 (.int .i64 p)).block⟩
              have HGRS := Lib.hid (HFI2.out.but HR8.out HB2.out)
              have HSH := Lib.hid (HFL2.out.but HR8.out HB2.out).shut
              have HFS := Lib.hid HGRS.out.shut
              have HST := Lib.hid ((HST2.out.same (HB2.out.block g HST2.out.lt (fun e => HG8.out e.symm))).cut (m1 + 1) (Nat.le_succ _))
              rw [HCUT.out] at HST
              have hlen : (hs ++ [g2]).length = m1 + 1 := HM.out
              rw [hlen] at HFS
              have HFI := Lib.hid HFS.out.init
              have HFL := Lib.hid HFS.out.last
              rw [hm1] at HFL
              have HMs := Lib.hid hm1
              have HRN : Hid (∀ b, ((v2.drewN nq).setCell ⟨g8, 4, none⟩ (.int .i64 p)).heap.size ≤ b → shutR role (m1 + 1) b = 1) := fun b hb => shutR_one (HRN2.out b (Nat.le_trans HB2.out.size hb))
              have HRGs : Hid (shutR role (m1 + 1) g = 1) := shutR_one HRG.out
              have HR8s : Hid (shutR role (m1 + 1) g8 = 1) := shutR_one HR8.out
              have HBX : Hid (RowAt ((v2.drewN nq).setCell ⟨g8, 4, none⟩ (.int .i64 p)) g8 38 (trv (Tr.mk f.t f.A f.c f.ks p))) := by
                have h := (HBY2.out.drewN nq).put 4 (.int .i64 p)
                rw [← hkf] at h
                exact h
              have HX1 : Hid (SlC ((v2.drewN nq).setCell ⟨g8, 4, none⟩ (.int .i64 p)) (fun b => w.heap.size + 1 ≤ b ∧ shutR role (m1 + 1) b = 0) (Tr.mk f.t f.A f.c f.ks p).A (tcs (Tr.mk f.t f.A f.c f.ks p).ks)) := HSH.out.1
              have HX3 : Hid ((Tr.mk f.t f.A f.c f.ks p).ks.length ≤ (Tr.mk f.t f.A f.c f.ks p).c) := own_cap_le HFL2.out.1
              have HX2 : Hid (Deep ((v2.drewN nq).setCell ⟨g8, 4, none⟩ (.int .i64 p)) (fun b => w.heap.size + 1 ≤ b ∧ shutR role (m1 + 1) b = 0) (Tr.mk f.t f.A f.c f.ks p).ks) := HSH.out.2
              have HGF : Hid (RowAt ((v2.drewN nq).setCell ⟨g8, 4, none⟩ (.int .i64 p)) w.heap.size 27 #[.int .i64 0, .int .i64 0]) := (HB2.out.block _ HGF2.out.lt HG0N.out).trans HGF2.out
              have HWV : Hid (Below w.heap.size w ((v2.drewN nq).setCell ⟨g8, 4, none⟩ (.int .i64 p))) := (bdrewN HWV2.out nq).setCell (p := ⟨g8, 4, none⟩) (by have := HG08.out; have := HG68.out; show w.heap.size ≤ g8; omega) _
              have HRUN : Hid (mrun (l.drop (i + 1)) (push (er1 g2) (er1 (Tr.mk f.t f.A f.c f.ks p)) :: er hs.reverse) = P) := hrun2
              have hfls : g2.ks.length ≤ i := HKG.out g2 (by simp)
              have HKGs : Hid (∀ y ∈ hs, y.ks.length ≤ i) := fun y hy => HKG.out y (by simp [hy])
              have HBTs : Hid (((hs ++ [g2]).getD 0 r0).t = t0) := by
                have h := HBT.out
                rw [getD_init _ _ (by simp)] at h
                exact h
              have HTOPs : Hid (∀ j, (tcs (hs ++ [g2]))[m1 * 5 + j]? = (rcells g2)[j]?) := fun j => by have := tcs_top hs g2 j; rw [hm1] at this; exact this
              have hi25 : m1 + 1 ≤ 25 := by omega
              clear HB2 HGRS HSH HFS HCUT hlen hrun2 HBY2 R62 hm1 HCL b60 b61 b62 b80 b84 f84 hmd hf25 HRG HR8 HM hfl HKG HBT HTOP HST2 HFI2 HFL2 HGF2 HWV2 HRN2
              have HRG := HRGs; have HR8 := HR8s; have HM := HMs; have hfl := hfls; have HKG := HKGs; have HBT := HBTs; have HTOP := HTOPs
              clear HRGs HR8s HMs hfls HKGs HBTs HTOPs
              generalize Tr.mk f.t f.A f.c f.ks p = x at *
              generalize shutR role (m1 + 1) = role1 at *
              generalize (v2.drewN nq).setCell ⟨g8, 4, none⟩ (.int .i64 p) = v4 at *
              obtain ⟨S, HS, HKK, HSB⟩ := ex_box g8 38 (trv x) v4 HBX.out
              have C0 : ∀ w', S w' → w'.cell? ⟨g8, 0, none⟩ = some (.int .u8 (x.t.k : Int)) := fun w' h => ((HKK.out w' h).cell 0).trans rfl
              have C1 : ∀ w', S w' → w'.cell? ⟨g8, 1, none⟩ = some (.string x.t.s) := fun w' h => ((HKK.out w' h).cell 1).trans rfl
              have C2 : ∀ w', S w' → w'.cell? ⟨g8, 2, none⟩ = some (.int .i64 x.t.p) := fun w' h => ((HKK.out w' h).cell 2).trans rfl
              have C3 : ∀ w', S w' → w'.cell? ⟨g8, 3, none⟩ = some (.slice x.A x.ks.length x.c) := fun w' h => ((HKK.out w' h).cell 3).trans rfl
              have C4 : ∀ w', S w' → w'.cell? ⟨g8, 4, none⟩ = some (.int .i64 x.e) := fun w' h => ((HKK.out w' h).cell 4).trans rfl
              have hk3 : v4.cell? ⟨g, m1 * 5 + 3, none⟩ = some (.slice g2.A g2.ks.length g2.c) := HST.out.cell (by rw [HTOP.out]; rfl)
              have HLG := Lib.hid HST.out.lt
              have HWG : Hid (w.heap.size + 1 ≤ g) := HST.out.1
              have HFIV : Hid (∀ W, Below v4.heap.size v4 W → Frames W (w.heap.size + 1) role1 hs) := fun W hb => HFI.out.below hb
              have HFLV : Hid (∀ W, Below v4.heap.size v4 W → FrameOk W (w.heap.size + 1) role1 m1 g2) := fun W hb => HFL.out.below hb
              have HX1V : Hid (∀ W, Below v4.heap.size v4 W → SlC W (fun b => w.heap.size + 1 ≤ b ∧ role1 b = 0) x.A (tcs x.ks)) := fun W hb => HX1.out.keep hb.size (fun b hlt _ => hb.block b hlt) (fun _ _ h => h)
              have HX2V : Hid (∀ W, Below v4.heap.size v4 W → Deep W (fun b => w.heap.size + 1 ≤ b ∧ role1 b = 0) x.ks) := fun W hb => HX2.out.below hb
              have HGFV : Hid (∀ W, Below v4.heap.size v4 W → RowAt W w.heap.size 27 #[.int .i64 0, .int .i64 0]) := fun W hb => HGF.out.below hb HGF.out.lt
              have hlm : (m1 : Int) < (m1 : Int) + 1 := by omega
              have hlq : (g2.ks.length : Int) < (g2.ks.length : Int) + 1 := by omega
              refine wp_region_ot S (.take 0 (.take 1 (.take 2 (.take 3 (.take 5 (.two 4 (.take 6 (.solo 7 (.solo 8 (.take 9 (.take 11 (.take 12 (.two 10 (.solo 13 .nil) 13 (.solo 10 .nil)))))))) 7 (.solo 4 (.take 6 (.solo 8 (.take 9 (.take 11 (.take 12 (.two 10 (.solo 13 .nil) 13 (.solo 10 .nil)))))))))))))) (by kernel_rfl) (by kernel_rfl) rfl (by kernel_rfl) HS.out ?_
              iterate 5
                (refine wpOT_step (o := ?_) ?_ ?_; rotate_left 1; (simp only [List.getElem?_toArray, List.getElem?_cons_succ, List.getElem?_cons_zero]; with_reducible rfl))
                (first
                    | (refine wpOT_skip (by rfl) ?_)
                    | (refine wpOT_take (v := ?_) (by rfl) ?_ ?_; rotate_left 1; (intro wx hSx; have hc_0 := C0 wx hSx; have hc_1 := C1 wx hSx; have hc_2 := C2 wx hSx; have hc_3 := C3 wx hSx; have hc_4 := C4 wx hSx; go_simp; try with_reducible rfl)))
                (try simp only [Act.put, List.setIfInBounds_toArray, List.set_cons_zero, List.set_cons_succ])
              clear C0 C1 C2 C3 C4
              refine wpOT_two ?_ ?_
              · (refine wpOT_solo (o := ?_) ?_ ?_; rotate_left 1; (simp only [List.getElem?_toArray, List.getElem?_cons_succ, List.getElem?_cons_zero]; with_reducible rfl))
                intro K hK
                go_simp
                refine hK.out _ _ HS.out ?_
                clear hK K
                (try simp only [Act.put, List.setIfInBounds_toArray, List.set_cons_zero, List.set_cons_succ])
                iterate 1
                  (refine wpOT_step (o := ?_) ?_ ?_; rotate_left 1; (simp only [List.getElem?_toArray, List.getElem?_cons_succ, List.getElem?_cons_zero]; with_reducible rfl))
                  (first
                      | (refine wpOT_skip (by rfl) ?_)
                      | (refine wpOT_take (v := ?_) (by rfl) ?_ ?_; rotate_left 1; (intro wx hSx; go_simp; try with_reducible rfl)))
                  (try simp only [Act.put, List.setIfInBounds_toArray, List.set_cons_zero, List.set_cons_succ])
                (refine wpOT_solo (o := ?_) ?_ ?_; rotate_left 1; (simp only [List.getElem?_toArray, List.getElem?_cons_succ, List.getElem?_cons_zero]; with_reducible rfl))
                intro K hK
                go_simp
                have hS : S (v4.alloc (.cells #[.int .u8 0, .string ⟨#[]⟩, .int .i64 0, .slice none 0 0, .int .i64 0] 38)).drew := HSB.out v4.drew _ HS.out (heap_alloc_old v4 _ HBX.out.lt)
                have HN1 : Hid (Sl (v4.alloc (.cells #[.int .u8 0, .string ⟨#[]⟩, .int .i64 0, .slice none 0 0, .int .i64 0] 38)).drew (v4.heap.size + 1) (some ⟨v4.heap.size, 0, none⟩) [.int .u8 0, .string ⟨#[]⟩, .int .i64 0, .slice none 0 0, .int .i64 0]) := Sl.new v4 38 [.int .u8 0, .string ⟨#[]⟩, .int .i64 0, .slice none 0 0, .int .i64 0]
                have HV1 : Hid (Below v4.heap.size v4 (v4.alloc (.cells #[.int .u8 0, .string ⟨#[]⟩, .int .i64 0, .slice none 0 0, .int .i64 0] 38)).drew) := ((Below.refl _ _).alloc (Nat.le_refl _) _).drew
                clear HS
                have HS := Lib.hid hS; clear hS
                refine hK.out _ _ HS.out ?_
                clear hK K
                (try simp only [Act.put, List.setIfInBounds_toArray, List.set_cons_zero, List.set_cons_succ])
                generalize (v4.alloc (.cells #[.int .u8 0, .string ⟨#[]⟩, .int .i64 0, .slice none 0 0, .int .i64 0] 38)).drew = v1 at *
                generalize hgv : v4.heap.size = g1 at *
                have HGV := Lib.hid hgv; clear hgv
                have HST1 := Lib.hid (HST.out.same (HV1.out.block g HLG.out))
                have HFI1 := Lib.hid (HFIV.out _ HV1.out)
                have HFL1 := Lib.hid (HFLV.out _ HV1.out)
                have HX11 := Lib.hid (HX1V.out _ HV1.out)
                have HX21 := Lib.hid (HX2V.out _ HV1.out)
                have HWV1 : Hid (Below w.heap.size w v1) := HWV.out.trans (HV1.out.mono (by have := HLG.out; have := HWG.out; omega))
                have k3 : v1.cell? ⟨g, m1 * 5 + 3, none⟩ = some (.slice g2.A g2.ks.length g2.c) := HST1.out.cell (by rw [HTOP.out]; rfl)
                have HRN1 : Hid (∀ b, v1.heap.size ≤ b → role1 b = 1) := fun b hb => HRN.out b (by have h1 := HV1.out.size; have h2 := HGV.out; omega)
                (refine wpOT_solo (o := ?_) ?_ ?_; rotate_left 1; (simp only [List.getElem?_toArray, List.getElem?_cons_succ, List.getElem?_cons_zero]; with_reducible rfl))
                intro K hK
                rw [if_pos (by rfl)]
                refine wp_catAt _ _ 25 rfl 38 (.agg #[.int .u8 0, .string ⟨#[]⟩, .int .i64 0, .slice none 0 0, .int .i64 0]) 5 64 Try.underlying25 infoTree rfl (by decide) (by decide) (w.heap.size + 1) g2.A g2.ks.length g2.c (tcs g2.ks) rfl HFL1.out.1 _ (some ⟨g1, 0, none⟩) 1 1 [.int .u8 0, .string ⟨#[]⟩, .int .i64 0, .slice none 0 0, .int .i64 0] rfl rfl (by decide) HN1.out (by simp [Value.oneCell']) (by omega) (by have := HST1.out.lt; have := HWG.out; omega) ?_
                intro A4 d4 w4 hown4 hb4 hg4 hat4
                obtain ⟨g4, rfl, hg4B, hg4lt, hg4f, _⟩ := own_at hown4 (by intro e; have := congrArg List.length e; rw [List.length_append] at this; simp at this)
                have hrole4 : role1 g4 = m1 + 2 ∨ v1.heap.size ≤ g4 := by
                  rcases hat4 with e | e
                  · exact .inl (HFL1.out.2.1 g4 e.symm)
                  · have e2 : some g4 = some v1.heap.size := e
                    injection e2 with e2; exact .inr (by omega)
                have hch4 : ∀ b, b < v1.heap.size → role1 b ≠ m1 + 2 → w4.heap[b]? = v1.heap[b]? := fun b hb hr => hg4.block b hb (fun e => hr (HFL1.out.2.1 b e.symm))
                have hgg4 : g ≠ g4 := fun e => by
                  subst e
                  have h1 := HRG.out
                  have h2 := HST1.out.lt
                  rcases hrole4 with e | e <;> omega
                have hg84 : g8 ≠ g4 := fun e => by
                  subst e
                  have h1 := HR8.out
                  have h2 := (HKK.out _ HS.out).lt
                  rcases hrole4 with e | e <;> omega
                have hS4 : S w4 := HSB.out v1 w4 HS.out (hch4 g8 (HKK.out _ HS.out).lt (by rw [HR8.out]; omega))
                have HST4 := Lib.hid (HST1.out.same (hch4 g HST1.out.lt (by rw [HRG.out]; omega)))
                have HCH4 := Lib.hid hch4
                have HSZ4 := Lib.hid hg4.size
                have HOWN4 := Lib.hid hown4
                have HB4 := Lib.hid hb4
                have HG4LT := Lib.hid hg4lt
                clear HS hown4 hb4 hg4 hat4 hch4 hg4lt
                have HS := Lib.hid hS4; clear hS4
                refine hK.out _ _ HS.out ?_
                clear hK K
                (try simp only [Act.put, List.setIfInBounds_toArray, List.set_cons_zero, List.set_cons_succ])
                iterate 3
                  (refine wpOT_step (o := ?_) ?_ ?_; rotate_left 1; (simp only [List.getElem?_toArray, List.getElem?_cons_succ, List.getElem?_cons_zero]; with_reducible rfl))
                  (first
                      | (refine wpOT_skip (by rfl) ?_)
                      | (refine wpOT_take (v := ?_) (by rfl) ?_ ?_; rotate_left 1; (intro wx hSx; go_simp; try with_reducible rfl)))
                  (try simp only [Act.put, List.setIfInBounds_toArray, List.set_cons_zero, List.set_cons_succ])
                obtain ⟨own5, there5⟩ := own_fill HOWN4.out (tcs_length g2.ks) (ys := (trv x).toList) rfl
                refine wpOT_two ?_ ?_
                · (refine wpOT_solo (o := ?_) ?_ ?_; rotate_left 1; (simp only [List.getElem?_toArray, List.getElem?_cons_succ, List.getElem?_cons_zero]; with_reducible rfl))
                  intro K hK
                  rw [if_pos (by rfl)]
                  refine wp_store_mid 38 _ _ rfl g4 (g2.ks.length * 5) (trv x) rfl rfl there5 (tree_size _ _ _ _ _) (by simp [trv, Value.oneCell']) ?_
                  have hS5 : S (w4.setCells g4 (g2.ks.length * 5) (trv x).toList) := HSB.out w4 _ HS.out (setCells_other _ _ _ _ _ hg84)
                  have HST5 := Lib.hid (HST4.out.same (setCells_other w4 g4 (g2.ks.length * 5) (trv x).toList g hgg4))
                  have HOWN5 := Lib.hid own5
                  have HCH5 : Hid (∀ b, b < v1.heap.size → role1 b ≠ m1 + 2 → role1 b ≠ 1 → (w4.setCells g4 (g2.ks.length * 5) (trv x).toList).heap[b]? = v1.heap[b]?) := fun b hb h1 h2 => (setCells_other _ _ _ _ _ (fun e => by subst e; rcases hrole4 with e | e <;> omega)).trans (HCH4.out b hb h1)
                  have HSZ5 : Hid (v1.heap.size ≤ (w4.setCells g4 (g2.ks.length * 5) (trv x).toList).heap.size) := by rw [setCells_size]; exact HSZ4.out
                  have HG4Z : Hid (g4 < (w4.setCells g4 (g2.ks.length * 5) (trv x).toList).heap.size) := by rw [setCells_size]; exact HG4LT.out
                  have HB5 := Lib.hid (HB4.out.trans (setCells_below hg4B (g2.ks.length * 5) (trv x).toList))
                  clear HS own5 there5 HST4 HOWN4 HCH4 HB4
                  have HS := Lib.hid hS5; clear hS5
                  refine hK.out _ _ HS.out ?_
                  clear hK K
                  (try simp only [Act.put])
                  generalize w4.setCells g4 (g2.ks.length * 5) (trv x).toList = w5 at *
                  have k5 : w5.cell? ⟨g, m1 * 5 + 3, none⟩ = some (.slice g2.A g2.ks.length g2.c) := HST5.out.cell (by rw [HTOP.out]; rfl)
                  have f5 := HST5.out.free (m1 * 5 + 3)
                  (refine wpOT_solo (o := ?_) ?_ ?_; rotate_left 1; (simp only [List.getElem?_toArray, List.getElem?_cons_succ, List.getElem?_cons_zero]; with_reducible rfl))
                  intro K hK
                  go_simp
                  have hS6 : S (w5.setCell ⟨g, m1 * 5 + 3, none⟩ (.slice (some ⟨g4, 0, none⟩) (g2.ks.length + 1) d4)) := HSB.out w5 _ HS.out ((But.setCell w5 g _ _).block g8 (HKK.out _ HS.out).lt HG8.out)
                  have HSTz := Lib.hid (HST5.out.set (m1 * 5 + 3) (.slice (some ⟨g4, 0, none⟩) (g2.ks.length + 1) d4))
                  have HOWNz := Lib.hid (own_same (w' := w5.setCell ⟨g, m1 * 5 + 3, none⟩ (.slice (some ⟨g4, 0, none⟩) (g2.ks.length + 1) d4)) HOWN5.out (fun b hb e => (But.setCell w5 g _ _).block b hb (fun e2 => by subst e2; injection e with e; exact hgg4 e.symm)))
                  have HCHz : Hid (∀ b, b < v1.heap.size → role1 b ≠ m1 + 2 → role1 b ≠ 1 → (w5.setCell ⟨g, m1 * 5 + 3, none⟩ (.slice (some ⟨g4, 0, none⟩) (g2.ks.length + 1) d4)).heap[b]? = v1.heap[b]?) := fun b hb h1 h2 => ((But.setCell w5 g _ _).block b (Nat.lt_of_lt_of_le hb HSZ5.out) (fun e => by subst e; exact h2 HRG.out)).trans (HCH5.out b hb h1 h2)
                  have HSZ := Lib.hid (Nat.le_trans HSZ5.out (But.setCell w5 g (m1 * 5 + 3) (.slice (some ⟨g4, 0, none⟩) (g2.ks.length + 1) d4)).size)
                  have HG4Z := Lib.hid (Nat.lt_of_lt_of_le HG4Z.out (But.setCell w5 g (m1 * 5 + 3) (.slice (some ⟨g4, 0, none⟩) (g2.ks.length + 1) d4)).size)
                  have HBZ := Lib.hid (HB5.out.setCell (p := ⟨g, m1 * 5 + 3, none⟩) HST5.out.1 (.slice (some ⟨g4, 0, none⟩) (g2.ks.length + 1) d4))
                  have HGFz := Lib.hid ((HGFV.out _ HV1.out).below HBZ.out (Nat.lt_succ_self _))
                  have HWz := Lib.hid (HWV1.out.trans (HBZ.out.mono (Nat.le_succ _)))
                  refine hK.out _ _ hS6 ?_
                  clear hK K hS6 HS k5 f5 HST5 HOWN5 HCH5 HSZ5 HB5 HBZ HSZ4 HG4LT
                  (try simp only [Act.put])
                  refine wpOT_done ?_
                  have HZ := Lib.hid (read_close (n := n) (by omega) (by rw [HM.out]; omega) (by rw [HM.out]; exact HSTz.out) HFI1.out (by rw [HM.out]; exact HFL1.out) HRG.out HRN1.out HKG.out hfl HBT.out HRUN.out HGFz.out HWz.out HX11.out HX3.out HX21.out (by rw [HM.out]; exact hrole4) HG4Z.out hgg4 HSZ.out (by rw [HM.out]; exact HCHz.out) HOWNz.out)
                  rw [HM.out] at HZ
                  clear HSTz HFI1 HFL1 HX11 HX21 HOWNz HCHz HGFz HWz k3
                  go_wp2
                  go_roundw
                  case rel => exact HZ.out
                  case measure => simp [intOf]; omega
                · have k5 : w4.cell? ⟨g, m1 * 5 + 3, none⟩ = some (.slice g2.A g2.ks.length g2.c) := HST4.out.cell (by rw [HTOP.out]; rfl)
                  have f5 := HST4.out.free (m1 * 5 + 3)
                  (refine wpOT_solo (o := ?_) ?_ ?_; rotate_left 1; (simp only [List.getElem?_toArray, List.getElem?_cons_succ, List.getElem?_cons_zero]; with_reducible rfl))
                  intro K hK
                  go_simp
                  have hS5 : S (w4.setCell ⟨g, m1 * 5 + 3, none⟩ (.slice (some ⟨g4, 0, none⟩) (g2.ks.length + 1) d4)) := HSB.out w4 _ HS.out ((But.setCell w4 g _ _).block g8 (HKK.out _ HS.out).lt HG8.out)
                  have HST5 := Lib.hid (HST4.out.set (m1 * 5 + 3) (.slice (some ⟨g4, 0, none⟩) (g2.ks.length + 1) d4))
                  have HOWN5 := Lib.hid (own_same (w' := w4.setCell ⟨g, m1 * 5 + 3, none⟩ (.slice (some ⟨g4, 0, none⟩) (g2.ks.length + 1) d4)) HOWN4.out (fun b hb e => (But.setCell w4 g _ _).block b hb (fun e2 => by subst e2; injection e with e; exact hgg4 e.symm)))
                  have HCH5 : Hid (∀ b, b < v1.heap.size → role1 b ≠ m1 + 2 → role1 b ≠ 1 → (w4.setCell ⟨g, m1 * 5 + 3, none⟩ (.slice (some ⟨g4, 0, none⟩) (g2.ks.length + 1) d4)).heap[b]? = v1.heap[b]?) := fun b hb h1 h2 => ((But.setCell w4 g _ _).block b (Nat.lt_of_lt_of_le hb HSZ4.out) (fun e => by subst e; exact h2 HRG.out)).trans (HCH4.out b hb h1)
                  have HSZ5 := Lib.hid (Nat.le_trans HSZ4.out (But.setCell w4 g (m1 * 5 + 3) (.slice (some ⟨g4, 0, none⟩) (g2.ks.length + 1) d4)).size)
                  have HG4Z := Lib.hid (Nat.lt_of_lt_of_le HG4LT.out (But.setCell w4 g (m1 * 5 + 3) (.slice (some ⟨g4, 0, none⟩) (g2.ks.length + 1) d4)).size)
                  have HB5 := Lib.hid (HB4.out.setCell (p := ⟨g, m1 * 5 + 3, none⟩) HST4.out.1 (.slice (some ⟨g4, 0, none⟩) (g2.ks.length + 1) d4))
                  clear own5 there5 HST4 HOWN4 HCH4 HB4 HSZ4 HG4LT
                  refine hK.out _ _ hS5 ?_
                  clear hK K HS k5 f5
                  have HS := Lib.hid hS5; clear hS5
                  (try simp only [Act.put])
                  generalize w4.setCell ⟨g, m1 * 5 + 3, none⟩ (.slice (some ⟨g4, 0, none⟩) (g2.ks.length + 1) d4) = w5 at *
                  obtain ⟨own6, there6⟩ := own_fill HOWN5.out (tcs_length g2.ks) (ys := (trv x).toList) rfl
                  (refine wpOT_solo (o := ?_) ?_ ?_; rotate_left 1; (simp only [List.getElem?_toArray, List.getElem?_cons_succ, List.getElem?_cons_zero]; with_reducible rfl))
                  intro K hK
                  rw [if_pos (by rfl)]
                  refine wp_store_mid 38 _ _ rfl g4 (g2.ks.length * 5) (trv x) rfl rfl there6 (tree_size _ _ _ _ _) (by simp [trv, Value.oneCell']) ?_
                  have hS6 : S (w5.setCells g4 (g2.ks.length * 5) (trv x).toList) := HSB.out w5 _ HS.out (setCells_other _ _ _ _ _ hg84)
                  have HSTz := Lib.hid (HST5.out.same (setCells_other w5 g4 (g2.ks.length * 5) (trv x).toList g hgg4))
                  have HOWNz := Lib.hid own6
                  have HCHz : Hid (∀ b, b < v1.heap.size → role1 b ≠ m1 + 2 → role1 b ≠ 1 → (w5.setCells g4 (g2.ks.length * 5) (trv x).toList).heap[b]? = v1.heap[b]?) := fun b hb h1 h2 => (setCells_other _ _ _ _ _ (fun e => by subst e; rcases hrole4 with e | e <;> omega)).trans (HCH5.out b hb h1 h2)
                  have HSZ : Hid (v1.heap.size ≤ (w5.setCells g4 (g2.ks.length * 5) (trv x).toList).heap.size) := by rw [setCells_size]; exact HSZ5.out
                  have HG4Z : Hid (g4 < (w5.setCells g4 (g2.ks.length * 5) (trv x).toList).heap.size) := by rw [setCells_size]; exact HG4Z.out
                  have HBZ := Lib.hid (HB5.out.trans (setCells_below hg4B (g2.ks.length * 5) (trv x).toList))
                  have HGFz := Lib.hid ((HGFV.out _ HV1.out).below HBZ.out (Nat.lt_succ_self _))
                  have HWz := Lib.hid (HWV1.out.trans (HBZ.out.mono (Nat.le_succ _)))
                  refine hK.out _ _ hS6 ?_
                  clear hK K hS6 HS HST5 HOWN5 HCH5 HSZ5 HB5 HBZ own6 there6
                  (try simp only [Act.put])
                  refine wpOT_done ?_
                  have HZ := Lib.hid (read_close (n := n) (by omega) (by rw [HM.out]; omega) (by rw [HM.out]; exact HSTz.out) HFI1.out (by rw [HM.out]; exact HFL1.out) HRG.out HRN1.out HKG.out hfl HBT.out HRUN.out HGFz.out HWz.out HX11.out HX3.out HX21.out (by rw [HM.out]; exact hrole4) HG4Z.out hgg4 HSZ.out (by rw [HM.out]; exact HCHz.out) HOWNz.out)
                  rw [HM.out] at HZ
                  clear HSTz HFI1 HFL1 HX11 HX21 HOWNz HCHz HGFz HWz k3
                  go_wp2
                  go_roundw
                  case rel => exact HZ.out
                  case measure => simp [intOf]; omega
              · (refine wpOT_solo (o := ?_) ?_ ?_; rotate_left 1; (simp only [List.getElem?_toArray, List.getElem?_cons_succ, List.getElem?_cons_zero]; with_reducible rfl))
                intro K hK
                go_simp
                have hS : S (v4.alloc (.cells #[.int .u8 0, .string ⟨#[]⟩, .int .i64 0, .slice none 0 0, .int .i64 0] 38)).drew := HSB.out v4.drew _ HS.out (heap_alloc_old v4 _ HBX.out.lt)
                have HN1 : Hid (Sl (v4.alloc (.cells #[.int .u8 0, .string ⟨#[]⟩, .int .i64 0, .slice none 0 0, .int .i64 0] 38)).drew (v4.heap.size + 1) (some ⟨v4.heap.size, 0, none⟩) [.int .u8 0, .string ⟨#[]⟩, .int .i64 0, .slice none 0 0, .int .i64 0]) := Sl.new v4 38 [.int .u8 0, .string ⟨#[]⟩, .int .i64 0, .slice none 0 0, .int .i64 0]
                have HV1 : Hid (Below v4.heap.size v4 (v4.alloc (.cells #[.int .u8 0, .string ⟨#[]⟩, .int .i64 0, .slice none 0 0, .int .i64 0] 38)).drew) := ((Below.refl _ _).alloc (Nat.le_refl _) _).drew
                clear HS
                have HS := Lib.hid hS; clear hS
                refine hK.out _ _ HS.out ?_
                clear hK K
                (try simp only [Act.put, List.setIfInBounds_toArray, List.set_cons_zero, List.set_cons_succ])
                generalize (v4.alloc (.cells #[.int .u8 0, .string ⟨#[]⟩, .int .i64 0, .slice none 0 0, .int .i64 0] 38)).drew = v1 at *
                generalize hgv : v4.heap.size = g1 at *
                have HGV := Lib.hid hgv; clear hgv
                have HST1 := Lib.hid (HST.out.same (HV1.out.block g HLG.out))
                have HFI1 := Lib.hid (HFIV.out _ HV1.out)
                have HFL1 := Lib.hid (HFLV.out _ HV1.out)
                have HX11 := Lib.hid (HX1V.out _ HV1.out)
                have HX21 := Lib.hid (HX2V.out _ HV1.out)
                have HWV1 : Hid (Below w.heap.size w v1) := HWV.out.trans (HV1.out.mono (by have := HLG.out; have := HWG.out; omega))
                have k3 : v1.cell? ⟨g, m1 * 5 + 3, none⟩ = some (.slice g2.A g2.ks.length g2.c) := HST1.out.cell (by rw [HTOP.out]; rfl)
                have HRN1 : Hid (∀ b, v1.heap.size ≤ b → role1 b = 1) := fun b hb => HRN.out b (by have h1 := HV1.out.size; have h2 := HGV.out; omega)
                (refine wpOT_solo (o := ?_) ?_ ?_; rotate_left 1; (simp only [List.getElem?_toArray, List.getElem?_cons_succ, List.getElem?_cons_zero]; with_reducible rfl))
                intro K hK
                go_simp
                refine hK.out _ _ HS.out ?_
                clear hK K
                (try simp only [Act.put, List.setIfInBounds_toArray, List.set_cons_zero, List.set_cons_succ])
                iterate 1
                  (refine wpOT_step (o := ?_) ?_ ?_; rotate_left 1; (simp only [List.getElem?_toArray, List.getElem?_cons_succ, List.getElem?_cons_zero]; with_reducible rfl))
                  (first
                      | (refine wpOT_skip (by rfl) ?_)
                      | (refine wpOT_take (v := ?_) (by rfl) ?_ ?_; rotate_left 1; (intro wx hSx; go_simp; try with_reducible rfl)))
                  (try simp only [Act.put, List.setIfInBounds_toArray, List.set_cons_zero, List.set_cons_succ])
                (refine wpOT_solo (o := ?_) ?_ ?_; rotate_left 1; (simp only [List.getElem?_toArray, List.getElem?_cons_succ, List.getElem?_cons_zero]; with_reducible rfl))
                intro K hK
                rw [if_pos (by rfl)]
                refine wp_catAt _ _ 25 rfl 38 (.agg #[.int .u8 0, .string ⟨#[]⟩, .int .i64 0, .slice none 0 0, .int .i64 0]) 5 64 Try.underlying25 infoTree rfl (by decide) (by decide) (w.heap.size + 1) g2.A g2.ks.length g2.c (tcs g2.ks) rfl HFL1.out.1 _ (some ⟨g1, 0, none⟩) 1 1 [.int .u8 0, .string ⟨#[]⟩, .int .i64 0, .slice none 0 0, .int .i64 0] rfl rfl (by decide) HN1.out (by simp [Value.oneCell']) (by omega) (by have := HST1.out.lt; have := HWG.out; omega) ?_
                intro A4 d4 w4 hown4 hb4 hg4 hat4
                obtain ⟨g4, rfl, hg4B, hg4lt, hg4f, _⟩ := own_at hown4 (by intro e; have := congrArg List.length e; rw [List.length_append] at this; simp at this)
                have hrole4 : role1 g4 = m1 + 2 ∨ v1.heap.size ≤ g4 := by
                  rcases hat4 with e | e
                  · exact .inl (HFL1.out.2.1 g4 e.symm)
                  · have e2 : some g4 = some v1.heap.size := e
                    injection e2 with e2; exact .inr (by omega)
                have hch4 : ∀ b, b < v1.heap.size → role1 b ≠ m1 + 2 → w4.heap[b]? = v1.heap[b]? := fun b hb hr => hg4.block b hb (fun e => hr (HFL1.out.2.1 b e.symm))
                have hgg4 : g ≠ g4 := fun e => by
                  subst e
                  have h1 := HRG.out
                  have h2 := HST1.out.lt
                  rcases hrole4 with e | e <;> omega
                have hg84 : g8 ≠ g4 := fun e => by
                  subst e
                  have h1 := HR8.out
                  have h2 := (HKK.out _ HS.out).lt
                  rcases hrole4 with e | e <;> omega
                have hS4 : S w4 := HSB.out v1 w4 HS.out (hch4 g8 (HKK.out _ HS.out).lt (by rw [HR8.out]; omega))
                have HST4 := Lib.hid (HST1.out.same (hch4 g HST1.out.lt (by rw [HRG.out]; omega)))
                have HCH4 := Lib.hid hch4
                have HSZ4 := Lib.hid hg4.size
                have HOWN4 := Lib.hid hown4
                have HB4 := Lib.hid hb4
                have HG4LT := Lib.hid hg4lt
                clear HS hown4 hb4 hg4 hat4 hch4 hg4lt
                have HS := Lib.hid hS4; clear hS4
                refine hK.out _ _ HS.out ?_
                clear hK K
                (try simp only [Act.put, List.setIfInBounds_toArray, List.set_cons_zero, List.set_cons_succ])
                iterate 3
                  (refine wpOT_step (o := ?_) ?_ ?_; rotate_left 1; (simp only [List.getElem?_toArray, List.getElem?_cons_succ, List.getElem?_cons_zero]; with_reducible rfl))
                  (first
                      | (refine wpOT_skip (by rfl) ?_)
                      | (refine wpOT_take (v := ?_) (by rfl) ?_ ?_; rotate_left 1; (intro wx hSx; go_simp; try with_reducible rfl)))
                  (try simp only [Act.put, List.setIfInBounds_toArray, List.set_cons_zero, List.set_cons_succ])
                obtain ⟨own5, there5⟩ := own_fill HOWN4.out (tcs_length g2.ks) (ys := (trv x).toList) rfl
                refine wpOT_two ?_ ?_
                · (refine wpOT_solo (o := ?_) ?_ ?_; rotate_left 1; (simp only [List.getElem?_toArray, List.getElem?_cons_succ, List.getElem?_cons_zero]; with_reducible rfl))
                  intro K hK
                  rw [if_pos (by rfl)]
                  refine wp_store_mid 38 _ _ rfl g4 (g2.ks.length * 5) (trv x) rfl rfl there5 (tree_size _ _ _ _ _) (by simp [trv, Value.oneCell']) ?_
                  have hS5 : S (w4.setCells g4 (g2.ks.length * 5) (trv x).toList) := HSB.out w4 _ HS.out (setCells_other _ _ _ _ _ hg84)
                  have HST5 := Lib.hid (HST4.out.same (setCells_other w4 g4 (g2.ks.length * 5) (trv x).toList g hgg4))
                  have HOWN5 := Lib.hid own5
                  have HCH5 : Hid (∀ b, b < v1.heap.size → role1 b ≠ m1 + 2 → role1 b ≠ 1 → (w4.setCells g4 (g2.ks.length * 5) (trv x).toList).heap[b]? = v1.heap[b]?) := fun b hb h1 h2 => (setCells_other _ _ _ _ _ (fun e => by subst e; rcases hrole4 with e | e <;> omega)).trans (HCH4.out b hb h1)
                  have HSZ5 : Hid (v1.heap.size ≤ (w4.setCells g4 (g2.ks.length * 5) (trv x).toList).heap.size) := by rw [setCells_size]; exact HSZ4.out
                  have HG4Z : Hid (g4 < (w4.setCells g4 (g2.ks.length * 5) (trv x).toList).heap.size) := by rw [setCells_size]; exact HG4LT.out
                  have HB5 := Lib.hid (HB4.out.trans (setCells_below hg4B (g2.ks.length * 5) (trv x).toList))
                  clear HS own5 there5 HST4 HOWN4 HCH4 HB4
                  have HS := Lib.hid hS5; clear hS5
                  refine hK.out _ _ HS.out ?_
                  clear hK K
                  (try simp only [Act.put])
                  generalize w4.setCells g4 (g2.ks.length * 5) (trv x).toList = w5 at *
                  have k5 : w5.cell? ⟨g, m1 * 5 + 3, none⟩ = some (.slice g2.A g2.ks.length g2.c) := HST5.out.cell (by rw [HTOP.out]; rfl)
                  have f5 := HST5.out.free (m1 * 5 + 3)
                  (refine wpOT_solo (o := ?_) ?_ ?_; rotate_left 1; (simp only [List.getElem?_toArray, List.getElem?_cons_succ, List.getElem?_cons_zero]; with_reducible rfl))
                  intro K hK
                  go_simp
                  have hS6 : S (w5.setCell ⟨g, m1 * 5 + 3, none⟩ (.slice (some ⟨g4, 0, none⟩) (g2.ks.length + 1) d4)) := HSB.out w5 _ HS.out ((But.setCell w5 g _ _).block g8 (HKK.out _ HS.out).lt HG8.out)
                  have HSTz := Lib.hid (HST5.out.set (m1 * 5 + 3) (.slice (some ⟨g4, 0, none⟩) (g2.ks.length + 1) d4))
                  have HOWNz := Lib.hid (own_same (w' := w5.setCell ⟨g, m1 * 5 + 3, none⟩ (.slice (some ⟨g4, 0, none⟩) (g2.ks.length + 1) d4)) HOWN5.out (fun b hb e => (But.setCell w5 g _ _).block b hb (fun e2 => by subst e2; injection e with e; exact hgg4 e.symm)))
                  have HCHz : Hid (∀ b, b < v1.heap.size → role1 b ≠ m1 + 2 → role1 b ≠ 1 → (w5.setCell ⟨g, m1 * 5 + 3, none⟩ (.slice (some ⟨g4, 0, none⟩) (g2.ks.length + 1) d4)).heap[b]? = v1.heap[b]?) := fun b hb h1 h2 => ((But.setCell w5 g _ _).block b (Nat.lt_of_lt_of_le hb HSZ5.out) (fun e => by subst e; exact h2 HRG.out)).trans (HCH5.out b hb h1 h2)
                  have HSZ := Lib.hid (Nat.le_trans HSZ5.out (But.setCell w5 g (m1 * 5 + 3) (.slice (some ⟨g4, 0, none⟩) (g2.ks.length + 1) d4)).size)
                  have HG4Z := Lib.hid (Nat.lt_of_lt_of_le HG4Z.out (But.setCell w5 g (m1 * 5 + 3) (.slice (some ⟨g4, 0, none⟩) (g2.ks.length + 1) d4)).size)
                  have HBZ := Lib.hid (HB5.out.setCell (p := ⟨g, m1 * 5 + 3, none⟩) HST5.out.1 (.slice (some ⟨g4, 0, none⟩) (g2.ks.length + 1) d4))
                  have HGFz := Lib.hid ((HGFV.out _ HV1.out).below HBZ.out (Nat.lt_succ_self _))
                  have HWz := Lib.hid (HWV1.out.trans (HBZ.out.mono (Nat.le_succ _)))
                  refine hK.out _ _ hS6 ?_
                  clear hK K hS6 HS k5 f5 HST5 HOWN5 HCH5 HSZ5 HB5 HBZ HSZ4 HG4LT
                  (try simp only [Act.put])
                  refine wpOT_done ?_
                  have HZ := Lib.hid (read_close (n := n) (by omega) (by rw [HM.out]; omega) (by rw [HM.out]; exact HSTz.out) HFI1.out (by rw [HM.out]; exact HFL1.out) HRG.out HRN1.out HKG.out hfl HBT.out HRUN.out HGFz.out HWz.out HX11.out HX3.out HX21.out (by rw [HM.out]; exact hrole4) HG4Z.out hgg4 HSZ.out (by rw [HM.out]; exact HCHz.out) HOWNz.out)
                  rw [HM.out] at HZ
                  clear HSTz HFI1 HFL1 HX11 HX21 HOWNz HCHz HGFz HWz k3
                  go_wp2
                  go_roundw
                  case rel => exact HZ.out
                  case measure => simp [intOf]; omega
                · have k5 : w4.cell? ⟨g, m1 * 5 + 3, none⟩ = some (.slice g2.A g2.ks.length g2.c) := HST4.out.cell (by rw [HTOP.out]; rfl)
                  have f5 := HST4.out.free (m1 * 5 + 3)
                  (refine wpOT_solo (o := ?_) ?_ ?_; rotate_left 1; (simp only [List.getElem?_toArray, List.getElem?_cons_succ, List.getElem?_cons_zero]; with_reducible rfl))
                  intro K hK
                  go_simp
                  have hS5 : S (w4.setCell ⟨g, m1 * 5 + 3, none⟩ (.slice (some ⟨g4, 0, none⟩) (g2.ks.length + 1) d4)) := HSB.out w4 _ HS.out ((But.setCell w4 g _ _).block g8 (HKK.out _ HS.out).lt HG8.out)
                  have HST5 := Lib.hid (HST4.out.set (m1 * 5 + 3) (.slice (some ⟨g4, 0, none⟩) (g2.ks.length + 1) d4))
                  have HOWN5 := Lib.hid (own_same (w' := w4.setCell ⟨g, m1 * 5 + 3, none⟩ (.slice (some ⟨g4, 0, none⟩) (g2.ks.length + 1) d4)) HOWN4.out (fun b hb e => (But.setCell w4 g _ _).block b hb (fun e2 => by subst e2; injection e with e; exact hgg4 e.symm)))
                  have HCH5 : Hid (∀ b, b < v1.heap.size → role1 b ≠ m1 + 2 → role1 b ≠ 1 → (w4.setCell ⟨g, m1 * 5 + 3, none⟩ (.slice (some ⟨g4, 0, none⟩) (g2.ks.length + 1) d4)).heap[b]? = v1.heap[b]?) := fun b hb h1 h2 => ((But.setCell w4 g _ _).block b (Nat.lt_of_lt_of_le hb HSZ4.out) (fun e => by subst e; exact h2 HRG.out)).trans (HCH4.out b hb h1)
                  have HSZ5 := Lib.hid (Nat.le_trans HSZ4.out (But.setCell w4 g (m1 * 5 + 3) (.slice (some ⟨g4, 0, none⟩) (g2.ks.length + 1) d4)).size)
                  have HG4Z := Lib.hid (Nat.lt_of_lt_of_le HG4LT.out (But.setCell w4 g (m1 * 5 + 3) (.slice (some ⟨g4, 0, none⟩) (g2.ks.length + 1) d4)).size)
                  have HB5 := Lib.hid (HB4.out.setCell (p := ⟨g, m1 * 5 + 3, none⟩) HST4.out.1 (.slice (some ⟨g4, 0, none⟩) (g2.ks.length + 1) d4))
                  clear own5 there5 HST4 HOWN4 HCH4 HB4 HSZ4 HG4LT
                  refine hK.out _ _ hS5 ?_
                  clear hK K HS k5 f5
                  have HS := Lib.hid hS5; clear hS5
                  (try simp only [Act.put])
                  generalize w4.setCell ⟨g, m1 * 5 + 3, none⟩ (.slice (some ⟨g4, 0, none⟩) (g2.ks.length + 1) d4) = w5 at *
                  obtain ⟨own6, there6⟩ := own_fill HOWN5.out (tcs_length g2.ks) (ys := (trv x).toList) rfl
                  (refine wpOT_solo (o := ?_) ?_ ?_; rotate_left 1; (simp only [List.getElem?_toArray, List.getElem?_cons_succ, List.getElem?_cons_zero]; with_reducible rfl))
                  intro K hK
                  rw [if_pos (by rfl)]
                  refine wp_store_mid 38 _ _ rfl g4 (g2.ks.length * 5) (trv x) rfl rfl there6 (tree_size _ _ _ _ _) (by simp [trv, Value.oneCell']) ?_
                  have hS6 : S (w5.setCells g4 (g2.ks.length * 5) (trv x).toList) := HSB.out w5 _ HS.out (setCells_other _ _ _ _ _ hg84)
                  have HSTz := Lib.hid (HST5.out.same (setCells_other w5 g4 (g2.ks.length * 5) (trv x).toList g hgg4))
                  have HOWNz := Lib.hid own6
                  have HCHz : Hid (∀ b, b < v1.heap.size → role1 b ≠ m1 + 2 → role1 b ≠ 1 → (w5.setCells g4 (g2.ks.length * 5) (trv x).toList).heap[b]? = v1.heap[b]?) := fun b hb h1 h2 => (setCells_other _ _ _ _ _ (fun e => by subst e; rcases hrole4 with e | e <;> omega)).trans (HCH5.out b hb h1 h2)
                  have HSZ : Hid (v1.heap.size ≤ (w5.setCells g4 (g2.ks.length * 5) (trv x).toList).heap.size) := by rw [setCells_size]; exact HSZ5.out
                  have HG4Z : Hid (g4 < (w5.setCells g4 (g2.ks.length * 5) (trv x).toList).heap.size) := by rw [setCells_size]; exact HG4Z.out
                  have HBZ := Lib.hid (HB5.out.trans (setCells_below hg4B (g2.ks.length * 5) (trv x).toList))
                  have HGFz := Lib.hid ((HGFV.out _ HV1.out).below HBZ.out (Nat.lt_succ_self _))
                  have HWz := Lib.hid (HWV1.out.trans (HBZ.out.mono (Nat.le_succ _)))
                  refine hK.out _ _ hS6 ?_
                  clear hK K hS6 HS HST5 HOWN5 HCH5 HSZ5 HB5 HBZ own6 there6
                  (try simp only [Act.put])
                  refine wpOT_done ?_
                  have HZ := Lib.hid (read_close (n := n) (by omega) (by rw [HM.out]; omega) (by rw [HM.out]; exact HSTz.out) HFI1.out (by rw [HM.out]; exact HFL1.out) HRG.out HRN1.out HKG.out hfl HBT.out HRUN.out HGFz.out HWz.out HX11.out HX3.out HX21.out (by rw [HM.out]; exact hrole4) HG4Z.out hgg4 HSZ.out (by rw [HM.out]; exact HCHz.out) HOWNz.out)
                  rw [HM.out] at HZ
                  clear HSTz HFI1 HFL1 HX11 HX21 HOWNz HCHz HGFz HWz k3
                  go_wp2
                  go_roundw
                  case rel => exact HZ.out
                  case measure => simp [intOf]; omega
            · have hE : P = .error p := hts none (by
                have e1 : ¬ cl (er1 f).t.k = 41 := heq
                cases er gs.reverse with
                | nil => simp only [mstep, if_pos h0, if_pos hcz]
                | cons y r => simp only [mstep, if_pos h0, if_pos hcz, if_neg e1])
              subst hE
              have hcl := fun W => closer_any f.t.k W
              have hqn : (((cl f.t.k : Nat) : Int) != 41) = true := by simp; omega
              generalize cl f.t.k = q at *
              have HCL := Lib.hid hcl
              clear hts hcl h0 hcz heq HRN2 HBY2 HFI2 HFL2
              generalize f.t.k = kf at *
              go_quiet ((go_at_call 22; exact quiet_same (HCL.out _)))
              go_wp2_with fail
              refine (show Calls Try.prog 21 #[.agg #[.int .u8 41, .string s, .int .i64 p]] (v2.drewN nq) _ from fault9_any ⟨41, s, p⟩ (v2.drewN nq)).mono ?_
              rintro e wf ⟨rfl, hbf⟩
              have hgf := RowAt.below (w := (v2.drewN nq)) (w' := wf) HGF2.out hbf HGF2.out.lt
              have c0 := (hgf.cell 0).trans rfl
              have c1 := (hgf.cell 1).trans rfl
              have x0 := hgf.free 0
              have x1 := hgf.free 1
              have HBF : Hid (Below w.heap.size w wf) := ((bdrewN HWV2.out nq)).trans (hbf.mono ((bdrewN HWV2.out nq)).size)
              have HGFF := Lib.hid hgf
              clear hbf hgf
              go_wp2
              have hgf := (HGFF.out.put 0 (.int .i64 2)).put 1 (.int .i64 p)
              exact bodyPost_ret (ret_slot_cell rfl _ _ _ w.heap.size _ _ (0, 0) _ rfl rfl hgf Try.underlying27 rfl (fault_info _ _)) rfl ⟨(HBF.out.setCell (p := ⟨w.heap.size, 0, none⟩) (Nat.le_refl _) _).setCell (p := ⟨w.heap.size, 1, none⟩) (Nat.le_refl _) _, rfl⟩
          · have s0 : v.cell? ⟨g, m * 5, none⟩ = some (.int .u8 (f.t.k : Int)) := HST.out.cell (by have := HTOP.out 0; rw [Nat.add_zero] at this; rw [this]; rfl)
            have s1 : v.cell? ⟨g, m * 5 + 1, none⟩ = some (.string f.t.s) := HST.out.cell (by rw [HTOP.out]; rfl)
            have s2 : v.cell? ⟨g, m * 5 + 2, none⟩ = some (.int .i64 f.t.p) := HST.out.cell (by rw [HTOP.out]; rfl)
            have s3 : v.cell? ⟨g, m * 5 + 3, none⟩ = some (.slice f.A f.ks.length f.c) := HST.out.cell (by rw [HTOP.out]; rfl)
            have s4 : v.cell? ⟨g, m * 5 + 4, none⟩ = some (.int .i64 f.e) := HST.out.cell (by rw [HTOP.out]; rfl)
            go_upto_region 17 with fail
            go_upto_region 18 with (first | (refine wpList_store_row (by rfl) _ _ _ rfl g8 #[.int .u8 (f.t.k : Int), .string f.t.s, .int .i64 f.t.p, .slice f.A f.ks.length f.c, .int .i64 f.e] rfl rfl _ _ HBY.out (tree_size _ _ _ _ _) rfl (by simp [Value.oneCell']) ?_))
            have hbut := But.setRow v g8 #[.int .u8 (f.t.k : Int), .string f.t.s, .int .i64 f.t.p, .slice f.A f.ks.length f.c, .int .i64 f.e]
            have r8 : RowAt (v.setRow g8 #[.int .u8 (f.t.k : Int), .string f.t.s, .int .i64 f.t.p, .slice f.A f.ks.length f.c, .int .i64 f.e]) g8 38 #[.int .u8 (f.t.k : Int), .string f.t.s, .int .i64 f.t.p, .slice f.A f.ks.length f.c, .int .i64 f.e] := HBY.out.setRow _
            have R62 : Hid (RowAt (v.setRow g8 #[.int .u8 (f.t.k : Int), .string f.t.s, .int .i64 f.t.p, .slice f.A f.ks.length f.c, .int .i64 f.e]) g6 36 #[.int .u8 125, .string s, .int .i64 p]) := (hbut.block g6 R6.out.lt (by have := HG68.out; omega)).trans R6.out
            have HST2 := Lib.hid (HST.out.same (hbut.block g HST.out.lt (fun e => HG8.out e.symm)))
            have HFI2 := Lib.hid (HFI.out.but HR8.out hbut)
            have HFL2 := Lib.hid (HFL.out.but HR8.out hbut)
            have HG0N : Hid (w.heap.size ≠ g8) := by have := HG08.out; have := HG68.out; show _ ≠ _; omega
            have HGF2 : Hid (RowAt (v.setRow g8 #[.int .u8 (f.t.k : Int), .string f.t.s, .int .i64 f.t.p, .slice f.A f.ks.length f.c, .int .i64 f.e]) w.heap.size 27 #[.int .i64 0, .int .i64 0]) := (hbut.block _ HGF.out.lt HG0N.out).trans HGF.out
            have HWV2 := Lib.hid (HWV.out.trans (below_setRow (B := w.heap.size) (w := v) (g := g8) (by have := HG08.out; have := HG68.out; omega) #[.int .u8 (f.t.k : Int), .string f.t.s, .int .i64 f.t.p, .slice f.A f.ks.length f.c, .int .i64 f.e]))
            have HRN2 : Hid (∀ b, (v.setRow g8 #[.int .u8 (f.t.k : Int), .string f.t.s, .int .i64 f.t.p, .slice f.A f.ks.length f.c, .int .i64 f.e]).heap.size ≤ b → role b = 1) := fun b hb => HRN.out b (Nat.le_trans hbut.size hb)
            have HBY2 := Lib.hid r8
            clear hbut r8 b60 b61 b62 s0 s1 s2 s3 s4 HST HFI HFL HGF HWV HRN HBY R6
            generalize v.setRow g8 #[.int .u8 (f.t.k : Int), .string f.t.s, .int .i64 f.t.p, .slice f.A f.ks.length f.c, .int .i64 f.e] = v2 at *
            have b60 := (R62.out.cell 0).trans rfl
            have b61 := (R62.out.cell 1).trans rfl
            have b62 := (R62.out.cell 2).trans rfl
            have b80 := (HBY2.out.cell 0).trans rfl
            have b84 := (HBY2.out.cell 4).trans rfl
            have f84 := HBY2.out.free 4
            by_cases heq : cl f.t.k = 125
            · have hgne : gs ≠ [] := fun e => by
                subst e
                have hb : f.t = t0 := HBT.out
                rw [hb] at heq
                exact absurd heq (by decide)
              obtain ⟨hs, g2, rfl⟩ : ∃ hs g2, gs = hs ++ [g2] := ⟨gs.dropLast, gs.getLast hgne, (List.dropLast_concat_getLast _).symm⟩
              have hrun2 := hts (some (push (er1 g2) (.mk f.t none 0 (er f.ks) p) :: er hs.reverse)) (by
                rw [er_top]
                have e1 : cl (er1 f).t.k = 125 := heq
                simp only [mstep, if_pos h0, if_pos hcz, e1, if_true]
                rfl)
              obtain ⟨m1, rfl⟩ : ∃ m1, m = m1 + 1 := ⟨hs.length, by have := HM.out; rw [List.length_append, List.length_singleton] at this; exact this.symm⟩
              have hm1 : hs.length = m1 := by have := HM.out; rw [List.length_append, List.length_singleton] at this; omega
              have hmd : m1 + 1 + 1 ≤ d := HST2.out.2.1
              have hz2 : IntKind.i64.wrap ((m1 : Int) + 1 - 1) = (m1 : Int) := by rw [IntKind.wrap_i64] <;> omega
              have hcl := fun W => closer_any f.t.k W
              rw [heq] at hcl
              have HCL := Lib.hid hcl
              clear hts hcl h0 hcz hgne
              generalize hkf : f.t.k = kf at *
              go_quiet ((go_at_call 22; exact quiet_same (HCL.out _)))
              go_upto_region 23 with fail
              have HB2 : Hid (But g8 v2 ((v2.drewN nq).setCell ⟨g8, 4, none⟩ (.int .i64 p))) := ⟨(But.setCell (v2.drewN nq) g8 4 (.int .i64 p)).size, (But.setCell (v2.drewN nq) g8 4 (.int .i64 p)).block⟩
              have HGRS := Lib.hid (HFI2.out.but HR8.out HB2.out)
              have HSH := Lib.hid (HFL2.out.but HR8.out HB2.out).shut
              have HFS := Lib.hid HGRS.out.shut
              have HST := Lib.hid ((HST2.out.same (HB2.out.block g HST2.out.lt (fun e => HG8.out e.symm))).cut (m1 + 1) (Nat.le_succ _))
              rw [HCUT.out] at HST
              have hlen : (hs ++ [g2]).length = m1 + 1 := HM.out
              rw [hlen] at HFS
              have HFI := Lib.hid HFS.out.init
              have HFL := Lib.hid HFS.out.last
              rw [hm1] at HFL
              have HMs := Lib.hid hm1
              have HRN : Hid (∀ b, ((v2.drewN nq).setCell ⟨g8, 4, none⟩ (.int .i64 p)).heap.size ≤ b → shutR role (m1 + 1) b = 1) := fun b hb => shutR_one (HRN2.out b (Nat.le_trans HB2.out.size hb))
              have HRGs : Hid (shutR role (m1 + 1) g = 1) := shutR_one HRG.out
              have HR8s : Hid (shutR role (m1 + 1) g8 = 1) := shutR_one HR8.out
              have HBX : Hid (RowAt ((v2.drewN nq).setCell ⟨g8, 4, none⟩ (.int .i64 p)) g8 38 (trv (Tr.mk f.t f.A f.c f.ks p))) := by
                have h := (HBY2.out.drewN nq).put 4 (.int .i64 p)
                rw [← hkf] at h
                exact h
              have HX1 : Hid (SlC ((v2.drewN nq).setCell ⟨g8, 4, none⟩ (.int .i64 p)) (fun b => w.heap.size + 1 ≤ b ∧ shutR role (m1 + 1) b = 0) (Tr.mk f.t f.A f.c f.ks p).A (tcs (Tr.mk f.t f.A f.c f.ks p).ks)) := HSH.out.1
              have HX3 : Hid ((Tr.mk f.t f.A f.c f.ks p).ks.length ≤ (Tr.mk f.t f.A f.c f.ks p).c) := own_cap_le HFL2.out.1
              have HX2 : Hid (Deep ((v2.drewN nq).setCell ⟨g8, 4, none⟩ (.int .i64 p)) (fun b => w.heap.size + 1 ≤ b ∧ shutR role (m1 + 1) b = 0) (Tr.mk f.t f.A f.c f.ks p).ks) := HSH.out.2
              have HGF : Hid (RowAt ((v2.drewN nq).setCell ⟨g8, 4, none⟩ (.int .i64 p)) w.heap.size 27 #[.int .i64 0, .int .i64 0]) := (HB2.out.block _ HGF2.out.lt HG0N.out).trans HGF2.out
              have HWV : Hid (Below w.heap.size w ((v2.drewN nq).setCell ⟨g8, 4, none⟩ (.int .i64 p))) := (bdrewN HWV2.out nq).setCell (p := ⟨g8, 4, none⟩) (by have := HG08.out; have := HG68.out; show w.heap.size ≤ g8; omega) _
              have HRUN : Hid (mrun (l.drop (i + 1)) (push (er1 g2) (er1 (Tr.mk f.t f.A f.c f.ks p)) :: er hs.reverse) = P) := hrun2
              have hfls : g2.ks.length ≤ i := HKG.out g2 (by simp)
              have HKGs : Hid (∀ y ∈ hs, y.ks.length ≤ i) := fun y hy => HKG.out y (by simp [hy])
              have HBTs : Hid (((hs ++ [g2]).getD 0 r0).t = t0) := by
                have h := HBT.out
                rw [getD_init _ _ (by simp)] at h
                exact h
              have HTOPs : Hid (∀ j, (tcs (hs ++ [g2]))[m1 * 5 + j]? = (rcells g2)[j]?) := fun j => by have := tcs_top hs g2 j; rw [hm1] at this; exact this
              have hi25 : m1 + 1 ≤ 25 := by omega
              clear HB2 HGRS HSH HFS HCUT hlen hrun2 HBY2 R62 hm1 HCL b60 b61 b62 b80 b84 f84 hmd hf25 HRG HR8 HM hfl HKG HBT HTOP HST2 HFI2 HFL2 HGF2 HWV2 HRN2
              have HRG := HRGs; have HR8 := HR8s; have HM := HMs; have hfl := hfls; have HKG := HKGs; have HBT := HBTs; have HTOP := HTOPs
              clear HRGs HR8s HMs hfls HKGs HBTs HTOPs
              generalize Tr.mk f.t f.A f.c f.ks p = x at *
              generalize shutR role (m1 + 1) = role1 at *
              generalize (v2.drewN nq).setCell ⟨g8, 4, none⟩ (.int .i64 p) = v4 at *
              obtain ⟨S, HS, HKK, HSB⟩ := ex_box g8 38 (trv x) v4 HBX.out
              have C0 : ∀ w', S w' → w'.cell? ⟨g8, 0, none⟩ = some (.int .u8 (x.t.k : Int)) := fun w' h => ((HKK.out w' h).cell 0).trans rfl
              have C1 : ∀ w', S w' → w'.cell? ⟨g8, 1, none⟩ = some (.string x.t.s) := fun w' h => ((HKK.out w' h).cell 1).trans rfl
              have C2 : ∀ w', S w' → w'.cell? ⟨g8, 2, none⟩ = some (.int .i64 x.t.p) := fun w' h => ((HKK.out w' h).cell 2).trans rfl
              have C3 : ∀ w', S w' → w'.cell? ⟨g8, 3, none⟩ = some (.slice x.A x.ks.length x.c) := fun w' h => ((HKK.out w' h).cell 3).trans rfl
              have C4 : ∀ w', S w' → w'.cell? ⟨g8, 4, none⟩ = some (.int .i64 x.e) := fun w' h => ((HKK.out w' h).cell 4).trans rfl
              have hk3 : v4.cell? ⟨g, m1 * 5 + 3, none⟩ = some (.slice g2.A g2.ks.length g2.c) := HST.out.cell (by rw [HTOP.out]; rfl)
              have HLG := Lib.hid HST.out.lt
              have HWG : Hid (w.heap.size + 1 ≤ g) := HST.out.1
              have HFIV : Hid (∀ W, Below v4.heap.size v4 W → Frames W (w.heap.size + 1) role1 hs) := fun W hb => HFI.out.below hb
              have HFLV : Hid (∀ W, Below v4.heap.size v4 W → FrameOk W (w.heap.size + 1) role1 m1 g2) := fun W hb => HFL.out.below hb
              have HX1V : Hid (∀ W, Below v4.heap.size v4 W → SlC W (fun b => w.heap.size + 1 ≤ b ∧ role1 b = 0) x.A (tcs x.ks)) := fun W hb => HX1.out.keep hb.size (fun b hlt _ => hb.block b hlt) (fun _ _ h => h)
              have HX2V : Hid (∀ W, Below v4.heap.size v4 W → Deep W (fun b => w.heap.size + 1 ≤ b ∧ role1 b = 0) x.ks) := fun W hb => HX2.out.below hb
              have HGFV : Hid (∀ W, Below v4.heap.size v4 W → RowAt W w.heap.size 27 #[.int .i64 0, .int .i64 0]) := fun W hb => HGF.out.below hb HGF.out.lt
              have hlm : (m1 : Int) < (m1 : Int) + 1 := by omega
              have hlq : (g2.ks.length : Int) < (g2.ks.length : Int) + 1 := by omega
              refine wp_region_ot S (.take 0 (.take 1 (.take 2 (.take 3 (.take 5 (.two 4 (.take 6 (.solo 7 (.solo 8 (.take 9 (.take 11 (.take 12 (.two 10 (.solo 13 .nil) 13 (.solo 10 .nil)))))))) 7 (.solo 4 (.take 6 (.solo 8 (.take 9 (.take 11 (.take 12 (.two 10 (.solo 13 .nil) 13 (.solo 10 .nil)))))))))))))) (by kernel_rfl) (by kernel_rfl) rfl (by kernel_rfl) HS.out ?_
              iterate 5
                (refine wpOT_step (o := ?_) ?_ ?_; rotate_left 1; (simp only [List.getElem?_toArray, List.getElem?_cons_succ, List.getElem?_cons_zero]; with_reducible rfl))
                (first
                    | (refine wpOT_skip (by rfl) ?_)
                    | (refine wpOT_take (v := ?_) (by rfl) ?_ ?_; rotate_left 1; (intro wx hSx; have hc_0 := C0 wx hSx; have hc_1 := C1 wx hSx; have hc_2 := C2 wx hSx; have hc_3 := C3 wx hSx; have hc_4 := C4 wx hSx; go_simp; try with_reducible rfl)))
                (try simp only [Act.put, List.setIfInBounds_toArray, List.set_cons_zero, List.set_cons_succ])
              clear C0 C1 C2 C3 C4
              refine wpOT_two ?_ ?_
              · (refine wpOT_solo (o := ?_) ?_ ?_; rotate_left 1; (simp only [List.getElem?_toArray, List.getElem?_cons_succ, List.getElem?_cons_zero]; with_reducible rfl))
                intro K hK
                go_simp
                refine hK.out _ _ HS.out ?_
                clear hK K
                (try simp only [Act.put, List.setIfInBounds_toArray, List.set_cons_zero, List.set_cons_succ])
                iterate 1
                  (refine wpOT_step (o := ?_) ?_ ?_; rotate_left 1; (simp only [List.getElem?_toArray, List.getElem?_cons_succ, List.getElem?_cons_zero]; with_reducible rfl))
                  (first
                      | (refine wpOT_skip (by rfl) ?_)
                      | (refine wpOT_take (v := ?_) (by rfl) ?_ ?_; rotate_left 1; (intro wx hSx; go_simp; try with_reducible rfl)))
                  (try simp only [Act.put, List.setIfInBounds_toArray, List.set_cons_zero, List.set_cons_succ])
                (refine wpOT_solo (o := ?_) ?_ ?_; rotate_left 1; (simp only [List.getElem?_toArray, List.getElem?_cons_succ, List.getElem?_cons_zero]; with_reducible rfl))
                intro K hK
                go_simp
                have hS : S (v4.alloc (.cells #[.int .u8 0, .string ⟨#[]⟩, .int .i64 0, .slice none 0 0, .int .i64 0] 38)).drew := HSB.out v4.drew _ HS.out (heap_alloc_old v4 _ HBX.out.lt)
                have HN1 : Hid (Sl (v4.alloc (.cells #[.int .u8 0, .string ⟨#[]⟩, .int .i64 0, .slice none 0 0, .int .i64 0] 38)).drew (v4.heap.size + 1) (some ⟨v4.heap.size, 0, none⟩) [.int .u8 0, .string ⟨#[]⟩, .int .i64 0, .slice none 0 0, .int .i64 0]) := Sl.new v4 38 [.int .u8 0, .string ⟨#[]⟩, .int .i64 0, .slice none 0 0, .int .i64 0]
                have HV1 : Hid (Below v4.heap.size v4 (v4.alloc (.cells #[.int .u8 0, .string ⟨#[]⟩, .int .i64 0, .slice none 0 0, .int .i64 0] 38)).drew) := ((Below.refl _ _).alloc (Nat.le_refl _) _).drew
                clear HS
                have HS := Lib.hid hS; clear hS
                refine hK.out _ _ HS.out ?_
                clear hK K
                (try simp only [Act.put, List.setIfInBounds_toArray, List.set_cons_zero, List.set_cons_succ])
                generalize (v4.alloc (.cells #[.int .u8 0, .string ⟨#[]⟩, .int .i64 0, .slice none 0 0, .int .i64 0] 38)).drew = v1 at *
                generalize hgv : v4.heap.size = g1 at *
                have HGV := Lib.hid hgv; clear hgv
                have HST1 := Lib.hid (HST.out.same (HV1.out.block g HLG.out))
                have HFI1 := Lib.hid (HFIV.out _ HV1.out)
                have HFL1 := Lib.hid (HFLV.out _ HV1.out)
                have HX11 := Lib.hid (HX1V.out _ HV1.out)
                have HX21 := Lib.hid (HX2V.out _ HV1.out)
                have HWV1 : Hid (Below w.heap.size w v1) := HWV.out.trans (HV1.out.mono (by have := HLG.out; have := HWG.out; omega))
                have k3 : v1.cell? ⟨g, m1 * 5 + 3, none⟩ = some (.slice g2.A g2.ks.length g2.c) := HST1.out.cell (by rw [HTOP.out]; rfl)
                have HRN1 : Hid (∀ b, v1.heap.size ≤ b → role1 b = 1) := fun b hb => HRN.out b (by have h1 := HV1.out.size; have h2 := HGV.out; omega)
                (refine wpOT_solo (o := ?_) ?_ ?_; rotate_left 1; (simp only [List.getElem?_toArray, List.getElem?_cons_succ, List.getElem?_cons_zero]; with_reducible rfl))
                intro K hK
                rw [if_pos (by rfl)]
                refine wp_catAt _ _ 25 rfl 38 (.agg #[.int .u8 0, .string ⟨#[]⟩, .int .i64 0, .slice none 0 0, .int .i64 0]) 5 64 Try.underlying25 infoTree rfl (by decide) (by decide) (w.heap.size + 1) g2.A g2.ks.length g2.c (tcs g2.ks) rfl HFL1.out.1 _ (some ⟨g1, 0, none⟩) 1 1 [.int .u8 0, .string ⟨#[]⟩, .int .i64 0, .slice none 0 0, .int .i64 0] rfl rfl (by decide) HN1.out (by simp [Value.oneCell']) (by omega) (by have := HST1.out.lt; have := HWG.out; omega) ?_
                intro A4 d4 w4 hown4 hb4 hg4 hat4
                obtain ⟨g4, rfl, hg4B, hg4lt, hg4f, _⟩ := own_at hown4 (by intro e; have := congrArg List.length e; rw [List.length_append] at this; simp at this)
                have hrole4 : role1 g4 = m1 + 2 ∨ v1.heap.size ≤ g4 := by
                  rcases hat4 with e | e
                  · exact .inl (HFL1.out.2.1 g4 e.symm)
                  · have e2 : some g4 = some v1.heap.size := e
                    injection e2 with e2; exact .inr (by omega)
                have hch4 : ∀ b, b < v1.heap.size → role1 b ≠ m1 + 2 → w4.heap[b]? = v1.heap[b]? := fun b hb hr => hg4.block b hb (fun e => hr (HFL1.out.2.1 b e.symm))
                have hgg4 : g ≠ g4 := fun e => by
                  subst e
                  have h1 := HRG.out
                  have h2 := HST1.out.lt
                  rcases hrole4 with e | e <;> omega
                have hg84 : g8 ≠ g4 := fun e => by
                  subst e
                  have h1 := HR8.out
                  have h2 := (HKK.out _ HS.out).lt
                  rcases hrole4 with e | e <;> omega
                have hS4 : S w4 := HSB.out v1 w4 HS.out (hch4 g8 (HKK.out _ HS.out).lt (by rw [HR8.out]; omega))
                have HST4 := Lib.hid (HST1.out.same (hch4 g HST1.out.lt (by rw [HRG.out]; omega)))
                have HCH4 := Lib.hid hch4
                have HSZ4 := Lib.hid hg4.size
                have HOWN4 := Lib.hid hown4
                have HB4 := Lib.hid hb4
                have HG4LT := Lib.hid hg4lt
                clear HS hown4 hb4 hg4 hat4 hch4 hg4lt
                have HS := Lib.hid hS4; clear hS4
                refine hK.out _ _ HS.out ?_
                clear hK K
                (try simp only [Act.put, List.setIfInBounds_toArray, List.set_cons_zero, List.set_cons_succ])
                iterate 3
                  (refine wpOT_step (o := ?_) ?_ ?_; rotate_left 1; (simp only [List.getElem?_toArray, List.getElem?_cons_succ, List.getElem?_cons_zero]; with_reducible rfl))
                  (first
                      | (refine wpOT_skip (by rfl) ?_)
                      | (refine wpOT_take (v := ?_) (by rfl) ?_ ?_; rotate_left 1; (intro wx hSx; go_simp; try with_reducible rfl)))
                  (try simp only [Act.put, List.setIfInBounds_toArray, List.set_cons_zero, List.set_cons_succ])
                obtain ⟨own5, there5⟩ := own_fill HOWN4.out (tcs_length g2.ks) (ys := (trv x).toList) rfl
                refine wpOT_two ?_ ?_
                · (refine wpOT_solo (o := ?_) ?_ ?_; rotate_left 1; (simp only [List.getElem?_toArray, List.getElem?_cons_succ, List.getElem?_cons_zero]; with_reducible rfl))
                  intro K hK
                  rw [if_pos (by rfl)]
                  refine wp_store_mid 38 _ _ rfl g4 (g2.ks.length * 5) (trv x) rfl rfl there5 (tree_size _ _ _ _ _) (by simp [trv, Value.oneCell']) ?_
                  have hS5 : S (w4.setCells g4 (g2.ks.length * 5) (trv x).toList) := HSB.out w4 _ HS.out (setCells_other _ _ _ _ _ hg84)
                  have HST5 := Lib.hid (HST4.out.same (setCells_other w4 g4 (g2.ks.length * 5) (trv x).toList g hgg4))
                  have HOWN5 := Lib.hid own5
                  have HCH5 : Hid (∀ b, b < v1.heap.size → role1 b ≠ m1 + 2 → role1 b ≠ 1 → (w4.setCells g4 (g2.ks.length * 5) (trv x).toList).heap[b]? = v1.heap[b]?) := fun b hb h1 h2 => (setCells_other _ _ _ _ _ (fun e => by subst e; rcases hrole4 with e | e <;> omega)).trans (HCH4.out b hb h1)
                  have HSZ5 : Hid (v1.heap.size ≤ (w4.setCells g4 (g2.ks.length * 5) (trv x).toList).heap.size) := by rw [setCells_size]; exact HSZ4.out
                  have HG4Z : Hid (g4 < (w4.setCells g4 (g2.ks.length * 5) (trv x).toList).heap.size) := by rw [setCells_size]; exact HG4LT.out
                  have HB5 := Lib.hid (HB4.out.trans (setCells_below hg4B (g2.ks.length * 5) (trv x).toList))
                  clear HS own5 there5 HST4 HOWN4 HCH4 HB4
                  have HS := Lib.hid hS5; clear hS5
                  refine hK.out _ _ HS.out ?_
                  clear hK K
                  (try simp only [Act.put])
                  generalize w4.setCells g4 (g2.ks.length * 5) (trv x).toList = w5 at *
                  have k5 : w5.cell? ⟨g, m1 * 5 + 3, none⟩ = some (.slice g2.A g2.ks.length g2.c) := HST5.out.cell (by rw [HTOP.out]; rfl)
                  have f5 := HST5.out.free (m1 * 5 + 3)
                  (refine wpOT_solo (o := ?_) ?_ ?_; rotate_left 1; (simp only [List.getElem?_toArray, List.getElem?_cons_succ, List.getElem?_cons_zero]; with_reducible rfl))
                  intro K hK
                  go_simp
                  have hS6 : S (w5.setCell ⟨g, m1 * 5 + 3, none⟩ (.slice (some ⟨g4, 0, none⟩) (g2.ks.length + 1) d4)) := HSB.out w5 _ HS.out ((But.setCell w5 g _ _).block g8 (HKK.out _ HS.out).lt HG8.out)
                  have HSTz := Lib.hid (HST5.out.set (m1 * 5 + 3) (.slice (some ⟨g4, 0, none⟩) (g2.ks.length + 1) d4))
                  have HOWNz := Lib.hid (own_same (w' := w5.setCell ⟨g, m1 * 5 + 3, none⟩ (.slice (some ⟨g4, 0, none⟩) (g2.ks.length + 1) d4)) HOWN5.out (fun b hb e => (But.setCell w5 g _ _).block b hb (fun e2 => by subst e2; injection e with e; exact hgg4 e.symm)))
                  have HCHz : Hid (∀ b, b < v1.heap.size → role1 b ≠ m1 + 2 → role1 b ≠ 1 → (w5.setCell ⟨g, m1 * 5 + 3, none⟩ (.slice (some ⟨g4, 0, none⟩) (g2.ks.length + 1) d4)).heap[b]? = v1.heap[b]?) := fun b hb h1 h2 => ((But.setCell w5 g _ _).block b (Nat.lt_of_lt_of_le hb HSZ5.out) (fun e => by subst e; exact h2 HRG.out)).trans (HCH5.out b hb h1 h2)
                  have HSZ := Lib.hid (Nat.le_trans HSZ5.out (But.setCell w5 g (m1 * 5 + 3) (.slice (some ⟨g4, 0, none⟩) (g2.ks.length + 1) d4)).size)
                  have HG4Z := Lib.hid (Nat.lt_of_lt_of_le HG4Z.out (But.setCell w5 g (m1 * 5 + 3) (.slice (some ⟨g4, 0, none⟩) (g2.ks.length + 1) d4)).size)
                  have HBZ := Lib.hid (HB5.out.setCell (p := ⟨g, m1 * 5 + 3, none⟩) HST5.out.1 (.slice (some ⟨g4, 0, none⟩) (g2.ks.length + 1) d4))
                  have HGFz := Lib.hid ((HGFV.out _ HV1.out).below HBZ.out (Nat.lt_succ_self _))
                  have HWz := Lib.hid (HWV1.out.trans (HBZ.out.mono (Nat.le_succ _)))
                  refine hK.out _ _ hS6 ?_
                  clear hK K hS6 HS k5 f5 HST5 HOWN5 HCH5 HSZ5 HB5 HBZ HSZ4 HG4LT
                  (try simp only [Act.put])
                  refine wpOT_done ?_
                  have HZ := Lib.hid (read_close (n := n) (by omega) (by rw [HM.out]; omega) (by rw [HM.out]; exact HSTz.out) HFI1.out (by rw [HM.out]; exact HFL1.out) HRG.out HRN1.out HKG.out hfl HBT.out HRUN.out HGFz.out HWz.out HX11.out HX3.out HX21.out (by rw [HM.out]; exact hrole4) HG4Z.out hgg4 HSZ.out (by rw [HM.out]; exact HCHz.out) HOWNz.out)
                  rw [HM.out] at HZ
                  clear HSTz HFI1 HFL1 HX11 HX21 HOWNz HCHz HGFz HWz k3
                  go_wp2
                  go_roundw
                  case rel => exact HZ.out
                  case measure => simp [intOf]; omega
                · have k5 : w4.cell? ⟨g, m1 * 5 + 3, none⟩ = some (.slice g2.A g2.ks.length g2.c) := HST4.out.cell (by rw [HTOP.out]; rfl)
                  have f5 := HST4.out.free (m1 * 5 + 3)
                  (refine wpOT_solo (o := ?_) ?_ ?_; rotate_left 1; (simp only [List.getElem?_toArray, List.getElem?_cons_succ, List.getElem?_cons_zero]; with_reducible rfl))
                  intro K hK
                  go_simp
                  have hS5 : S (w4.setCell ⟨g, m1 * 5 + 3, none⟩ (.slice (some ⟨g4, 0, none⟩) (g2.ks.length + 1) d4)) := HSB.out w4 _ HS.out ((But.setCell w4 g _ _).block g8 (HKK.out _ HS.out).lt HG8.out)
                  have HST5 := Lib.hid (HST4.out.set (m1 * 5 + 3) (.slice (some ⟨g4, 0, none⟩) (g2.ks.length + 1) d4))
                  have HOWN5 := Lib.hid (own_same (w' := w4.setCell ⟨g, m1 * 5 + 3, none⟩ (.slice (some ⟨g4, 0, none⟩) (g2.ks.length + 1) d4)) HOWN4.out (fun b hb e => (But.setCell w4 g _ _).block b hb (fun e2 => by subst e2; injection e with e; exact hgg4 e.symm)))
                  have HCH5 : Hid (∀ b, b < v1.heap.size → role1 b ≠ m1 + 2 → role1 b ≠ 1 → (w4.setCell ⟨g, m1 * 5 + 3, none⟩ (.slice (some ⟨g4, 0, none⟩) (g2.ks.length + 1) d4)).heap[b]? = v1.heap[b]?) := fun b hb h1 h2 => ((But.setCell w4 g _ _).block b (Nat.lt_of_lt_of_le hb HSZ4.out) (fun e => by subst e; exact h2 HRG.out)).trans (HCH4.out b hb h1)
                  have HSZ5 := Lib.hid (Nat.le_trans HSZ4.out (But.setCell w4 g (m1 * 5 + 3) (.slice (some ⟨g4, 0, none⟩) (g2.ks.length + 1) d4)).size)
                  have HG4Z := Lib.hid (Nat.lt_of_lt_of_le HG4LT.out (But.setCell w4 g (m1 * 5 + 3) (.slice (some ⟨g4, 0, none⟩) (g2.ks.length + 1) d4)).size)
                  have HB5 := Lib.hid (HB4.out.setCell (p := ⟨g, m1 * 5 + 3, none⟩) HST4.out.1 (.slice (some ⟨g4, 0, none⟩) (g2.ks.length + 1) d4))
                  clear own5 there5 HST4 HOWN4 HCH4 HB4 HSZ4 HG4LT
                  refine hK.out _ _ hS5 ?_
                  clear hK K HS k5 f5
                  have HS := Lib.hid hS5; clear hS5
                  (try simp only [Act.put])
                  generalize w4.setCell ⟨g, m1 * 5 + 3, none⟩ (.slice (some ⟨g4, 0, none⟩) (g2.ks.length + 1) d4) = w5 at *
                  obtain ⟨own6, there6⟩ := own_fill HOWN5.out (tcs_length g2.ks) (ys := (trv x).toList) rfl
                  (refine wpOT_solo (o := ?_) ?_ ?_; rotate_left 1; (simp only [List.getElem?_toArray, List.getElem?_cons_succ, List.getElem?_cons_zero]; with_reducible rfl))
                  intro K hK
                  rw [if_pos (by rfl)]
                  refine wp_store_mid 38 _ _ rfl g4 (g2.ks.length * 5) (trv x) rfl rfl there6 (tree_size _ _ _ _ _) (by simp [trv, Value.oneCell']) ?_
                  have hS6 : S (w5.setCells g4 (g2.ks.length * 5) (trv x).toList) := HSB.out w5 _ HS.out (setCells_other _ _ _ _ _ hg84)
                  have HSTz := Lib.hid (HST5.out.same (setCells_other w5 g4 (g2.ks.length * 5) (trv x).toList g hgg4))
                  have HOWNz := Lib.hid own6
                  have HCHz : Hid (∀ b, b < v1.heap.size → role1 b ≠ m1 + 2 → role1 b ≠ 1 → (w5.setCells g4 (g2.ks.length * 5) (trv x).toList).heap[b]? = v1.heap[b]?) := fun b hb h1 h2 => (setCells_other _ _ _ _ _ (fun e => by subst e; rcases hrole4 with e | e <;> omega)).trans (HCH5.out b hb h1 h2)
                  have HSZ : Hid (v1.heap.size ≤ (w5.setCells g4 (g2.ks.length * 5) (trv x).toList).heap.size) := by rw [setCells_size]; exact HSZ5.out
                  have HG4Z : Hid (g4 < (w5.setCells g4 (g2.ks.length * 5) (trv x).toList).heap.size) := by rw [setCells_size]; exact HG4Z.out
                  have HBZ := Lib.hid (HB5.out.trans (setCells_below hg4B (g2.ks.length * 5) (trv x).toList))
                  have HGFz := Lib.hid ((HGFV.out _ HV1.out).below HBZ.out (Nat.lt_succ_self _))
                  have HWz := Lib.hid (HWV1.out.trans (HBZ.out.mono (Nat.le_succ _)))
                  refine hK.out _ _ hS6 ?_
                  clear hK K hS6 HS HST5 HOWN5 HCH5 HSZ5 HB5 HBZ own6 there6
                  (try simp only [Act.put])
                  refine wpOT_done ?_
                  have HZ := Lib.hid (read_close (n := n) (by omega) (by rw [HM.out]; omega) (by rw [HM.out]; exact HSTz.out) HFI1.out (by rw [HM.out]; exact HFL1.out) HRG.out HRN1.out HKG.out hfl HBT.out HRUN.out HGFz.out HWz.out HX11.out HX3.out HX21.out (by rw [HM.out]; exact hrole4) HG4Z.out hgg4 HSZ.out (by rw [HM.out]; exact HCHz.out) HOWNz.out)
                  rw [HM.out] at HZ
                  clear HSTz HFI1 HFL1 HX11 HX21 HOWNz HCHz HGFz HWz k3
                  go_wp2
                  go_roundw
                  case rel => exact HZ.out
                  case measure => simp [intOf]; omega
              · (refine wpOT_solo (o := ?_) ?_ ?_; rotate_left 1; (simp only [List.getElem?_toArray, List.getElem?_cons_succ, List.getElem?_cons_zero]; with_reducible rfl))
                intro K hK
                go_simp
                have hS : S (v4.alloc (.cells #[.int .u8 0, .string ⟨#[]⟩, .int .i64 0, .slice none 0 0, .int .i64 0] 38)).drew := HSB.out v4.drew _ HS.out (heap_alloc_old v4 _ HBX.out.lt)
                have HN1 : Hid (Sl (v4.alloc (.cells #[.int .u8 0, .string ⟨#[]⟩, .int .i64 0, .slice none 0 0, .int .i64 0] 38)).drew (v4.heap.size + 1) (some ⟨v4.heap.size, 0, none⟩) [.int .u8 0, .string ⟨#[]⟩, .int .i64 0, .slice none 0 0, .int .i64 0]) := Sl.new v4 38 [.int .u8 0, .string ⟨#[]⟩, .int .i64 0, .slice none 0 0, .int .i64 0]
                have HV1 : Hid (Below v4.heap.size v4 (v4.alloc (.cells #[.int .u8 0, .string ⟨#[]⟩, .int .i64 0, .slice none 0 0, .int .i64 0] 38)).drew) := ((Below.refl _ _).alloc (Nat.le_refl _) _).drew
                clear HS
                have HS := Lib.hid hS; clear hS
                refine hK.out _ _ HS.out ?_
                clear hK K
                (try simp only [Act.put, List.setIfInBounds_toArray, List.set_cons_zero, List.set_cons_succ])
                generalize (v4.alloc (.cells #[.int .u8 0, .string ⟨#[]⟩, .int .i64 0, .slice none 0 0, .int .i64 0] 38)).drew = v1 at *
                generalize hgv : v4.heap.size = g1 at *
                have HGV := Lib.hid hgv; clear hgv
                have HST1 := Lib.hid (HST.out.same (HV1.out.block g HLG.out))
                have HFI1 := Lib.hid (HFIV.out _ HV1.out)
                have HFL1 := Lib.hid (HFLV.out _ HV1.out)
                have HX11 := Lib.hid (HX1V.out _ HV1.out)
                have HX21 := Lib.hid (HX2V.out _ HV1.out)
                have HWV1 : Hid (Below w.heap.size w v1) := HWV.out.trans (HV1.out.mono (by have := HLG.out; have := HWG.out; omega))
                have k3 : v1.cell? ⟨g, m1 * 5 + 3, none⟩ = some (.slice g2.A g2.ks.length g2.c) := HST1.out.cell (by rw [HTOP.out]; rfl)
                have HRN1 : Hid (∀ b, v1.heap.size ≤ b → role1 b = 1) := fun b hb => HRN.out b (by have h1 := HV1.out.size; have h2 := HGV.out; omega)
                (refine wpOT_solo (o := ?_) ?_ ?_; rotate_left 1; (simp only [List.getElem?_toArray, List.getElem?_cons_succ, List.getElem?_cons_zero]; with_reducible rfl))
                intro K hK
                go_simp
                refine hK.out _ _ HS.out ?_
                clear hK K
                (try simp only [Act.put, List.setIfInBounds_toArray, List.set_cons_zero, List.set_cons_succ])
                iterate 1
                  (refine wpOT_step (o := ?_) ?_ ?_; rotate_left 1; (simp only [List.getElem?_toArray, List.getElem?_cons_succ, List.getElem?_cons_zero]; with_reducible rfl))
                  (first
                      | (refine wpOT_skip (by rfl) ?_)
                      | (refine wpOT_take (v := ?_) (by rfl) ?_ ?_; rotate_left 1; (intro wx hSx; go_simp; try with_reducible rfl)))
                  (try simp only [Act.put, List.setIfInBounds_toArray, List.set_cons_zero, List.set_cons_succ])
                (refine wpOT_solo (o := ?_) ?_ ?_; rotate_left 1; (simp only [List.getElem?_toArray, List.getElem?_cons_succ, List.getElem?_cons_zero]; with_reducible rfl))
                intro K hK
                rw [if_pos (by rfl)]
                refine wp_catAt _ _ 25 rfl 38 (.agg #[.int .u8 0, .string ⟨#[]⟩, .int .i64 0, .slice none 0 0, .int .i64 0]) 5 64 Try.underlying25 infoTree rfl (by decide) (by decide) (w.heap.size + 1) g2.A g2.ks.length g2.c (tcs g2.ks) rfl HFL1.out.1 _ (some ⟨g1, 0, none⟩) 1 1 [.int .u8 0, .string ⟨#[]⟩, .int .i64 0, .slice none 0 0, .int .i64 0] rfl rfl (by decide) HN1.out (by simp [Value.oneCell']) (by omega) (by have := HST1.out.lt; have := HWG.out; omega) ?_
                intro A4 d4 w4 hown4 hb4 hg4 hat4
                obtain ⟨g4, rfl, hg4B, hg4lt, hg4f, _⟩ := own_at hown4 (by intro e; have := congrArg List.length e; rw [List.length_append] at this; simp at this)
                have hrole4 : role1 g4 = m1 + 2 ∨ v1.heap.size ≤ g4 := by
                  rcases hat4 with e | e
                  · exact .inl (HFL1.out.2.1 g4 e.symm)
                  · have e2 : some g4 = some v1.heap.size := e
                    injection e2 with e2; exact .inr (by omega)
                have hch4 : ∀ b, b < v1.heap.size → role1 b ≠ m1 + 2 → w4.heap[b]? = v1.heap[b]? := fun b hb hr => hg4.block b hb (fun e => hr (HFL1.out.2.1 b e.symm))
                have hgg4 : g ≠ g4 := fun e => by
                  subst e
                  have h1 := HRG.out
                  have h2 := HST1.out.lt
                  rcases hrole4 with e | e <;> omega
                have hg84 : g8 ≠ g4 := fun e => by
                  subst e
                  have h1 := HR8.out
                  have h2 := (HKK.out _ HS.out).lt
                  rcases hrole4 with e | e <;> omega
                have hS4 : S w4 := HSB.out v1 w4 HS.out (hch4 g8 (HKK.out _ HS.out).lt (by rw [HR8.out]; omega))
                have HST4 := Lib.hid (HST1.out.same (hch4 g HST1.out.lt (by rw [HRG.out]; omega)))
                have HCH4 := Lib.hid hch4
                have HSZ4 := Lib.hid hg4.size
                have HOWN4 := Lib.hid hown4
                have HB4 := Lib.hid hb4
                have HG4LT := Lib.hid hg4lt
                clear HS hown4 hb4 hg4 hat4 hch4 hg4lt
                have HS := Lib.hid hS4; clear hS4
                refine hK.out _ _ HS.out ?_
                clear hK K
                (try simp only [Act.put, List.setIfInBounds_toArray, List.set_cons_zero, List.set_cons_succ])
                iterate 3
                  (refine wpOT_step (o := ?_) ?_ ?_; rotate_left 1; (simp only [List.getElem?_toArray, List.getElem?_cons_succ, List.getElem?_cons_zero]; with_reducible rfl))
                  (first
                      | (refine wpOT_skip (by rfl) ?_)
                      | (refine wpOT_take (v := ?_) (by rfl) ?_ ?_; rotate_left 1; (intro wx hSx; go_simp; try with_reducible rfl)))
                  (try simp only [Act.put, List.setIfInBounds_toArray, List.set_cons_zero, List.set_cons_succ])
                obtain ⟨own5, there5⟩ := own_fill HOWN4.out (tcs_length g2.ks) (ys := (trv x).toList) rfl
                refine wpOT_two ?_ ?_
                · (refine wpOT_solo (o := ?_) ?_ ?_; rotate_left 1; (simp only [List.getElem?_toArray, List.getElem?_cons_succ, List.getElem?_cons_zero]; with_reducible rfl))
                  intro K hK
                  rw [if_pos (by rfl)]
                  refine wp_store_mid 38 _ _ rfl g4 (g2.ks.length * 5) (trv x) rfl rfl there5 (tree_size _ _ _ _ _) (by simp [trv, Value.oneCell']) ?_
                  have hS5 : S (w4.setCells g4 (g2.ks.length * 5) (trv x).toList) := HSB.out w4 _ HS.out (setCells_other _ _ _ _ _ hg84)
                  have HST5 := Lib.hid (HST4.out.same (setCells_other w4 g4 (g2.ks.length * 5) (trv x).toList g hgg4))
                  have HOWN5 := Lib.hid own5
                  have HCH5 : Hid (∀ b, b < v1.heap.size → role1 b ≠ m1 + 2 → role1 b ≠ 1 → (w4.setCells g4 (g2.ks.length * 5) (trv x).toList).heap[b]? = v1.heap[b]?) := fun b hb h1 h2 => (setCells_other _ _ _ _ _ (fun e => by subst e; rcases hrole4 with e | e <;> omega)).trans (HCH4.out b hb h1)
                  have HSZ5 : Hid (v1.heap.size ≤ (w4.setCells g4 (g2.ks.length * 5) (trv x).toList).heap.size) := by rw [setCells_size]; exact HSZ4.out
                  have HG4Z : Hid (g4 < (w4.setCells g4 (g2.ks.length * 5) (trv x).toList).heap.size) := by rw [setCells_size]; exact HG4LT.out
                  have HB5 := Lib.hid (HB4.out.trans (setCells_below hg4B (g2.ks.length * 5) (trv x).toList))
                  clear HS own5 there5 HST4 HOWN4 HCH4 HB4
                  have HS := Lib.hid hS5; clear hS5
                  refine hK.out _ _ HS.out ?_
                  clear hK K
                  (try simp only [Act.put])
                  generalize w4.setCells g4 (g2.ks.length * 5) (trv x).toList = w5 at *
                  have k5 : w5.cell? ⟨g, m1 * 5 + 3, none⟩ = some (.slice g2.A g2.ks.length g2.c) := HST5.out.cell (by rw [HTOP.out]; rfl)
                  have f5 := HST5.out.free (m1 * 5 + 3)
                  (refine wpOT_solo (o := ?_) ?_ ?_; rotate_left 1; (simp only [List.getElem?_toArray, List.getElem?_cons_succ, List.getElem?_cons_zero]; with_reducible rfl))
                  intro K hK
                  go_simp
                  have hS6 : S (w5.setCell ⟨g, m1 * 5 + 3, none⟩ (.slice (some ⟨g4, 0, none⟩) (g2.ks.length + 1) d4)) := HSB.out w5 _ HS.out ((But.setCell w5 g _ _).block g8 (HKK.out _ HS.out).lt HG8.out)
                  have HSTz := Lib.hid (HST5.out.set (m1 * 5 + 3) (.slice (some ⟨g4, 0, none⟩) (g2.ks.length + 1) d4))
                  have HOWNz := Lib.hid (own_same (w' := w5.setCell ⟨g, m1 * 5 + 3, none⟩ (.slice (some ⟨g4, 0, none⟩) (g2.ks.length + 1) d4)) HOWN5.out (fun b hb e => (But.setCell w5 g _ _).block b hb (fun e2 => by subst e2; injection e with e; exact hgg4 e.symm)))
                  have HCHz : Hid (∀ b, b < v1.heap.size → role1 b ≠ m1 + 2 → role1 b ≠ 1 → (w5.setCell ⟨g, m1 * 5 + 3, none⟩ (.slice (some ⟨g4, 0, none⟩) (g2.ks.length + 1) d4)).heap[b]? = v1.heap[b]?) := fun b hb h1 h2 => ((But.setCell w5 g _ _).block b (Nat.lt_of_lt_of_le hb HSZ5.out) (fun e => by subst e; exact h2 HRG.out)).trans (HCH5.out b hb h1 h2)
                  have HSZ := Lib.hid (Nat.le_trans HSZ5.out (But.setCell w5 g (m1 * 5 + 3) (.slice (some ⟨g4, 0, none⟩) (g2.ks.length + 1) d4)).size)
                  have HG4Z := Lib.hid (Nat.lt_of_lt_of_le HG4Z.out (But.setCell w5 g (m1 * 5 + 3) (.slice (some ⟨g4, 0, none⟩) (g2.ks.length + 1) d4)).size)
                  have HBZ := Lib.hid (HB5.out.setCell (p := ⟨g, m1 * 5 + 3, none⟩) HST5.out.1 (.slice (some ⟨g4, 0, none⟩) (g2.ks.length + 1) d4))
                  have HGFz := Lib.hid ((HGFV.out _ HV1.out).below HBZ.out (Nat.lt_succ_self _))
                  have HWz := Lib.hid (HWV1.out.trans (HBZ.out.mono (Nat.le_succ _)))
                  refine hK.out _ _ hS6 ?_
                  clear hK K hS6 HS k5 f5 HST5 HOWN5 HCH5 HSZ5 HB5 HBZ HSZ4 HG4LT
                  (try simp only [Act.put])
                  refine wpOT_done ?_
                  have HZ := Lib.hid (read_close (n := n) (by omega) (by rw [HM.out]; omega) (by rw [HM.out]; exact HSTz.out) HFI1.out (by rw [HM.out]; exact HFL1.out) HRG.out HRN1.out HKG.out hfl HBT.out HRUN.out HGFz.out HWz.out HX11.out HX3.out HX21.out (by rw [HM.out]; exact hrole4) HG4Z.out hgg4 HSZ.out (by rw [HM.out]; exact HCHz.out) HOWNz.out)
                  rw [HM.out] at HZ
                  clear HSTz HFI1 HFL1 HX11 HX21 HOWNz HCHz HGFz HWz k3
                  go_wp2
                  go_roundw
                  case rel => exact HZ.out
                  case measure => simp [intOf]; omega
                · have k5 : w4.cell? ⟨g, m1 * 5 + 3, none⟩ = some (.slice g2.A g2.ks.length g2.c) := HST4.out.cell (by rw [HTOP.out]; rfl)
                  have f5 := HST4.out.free (m1 * 5 + 3)
                  (refine wpOT_solo (o := ?_) ?_ ?_; rotate_left 1; (simp only [List.getElem?_toArray, List.getElem?_cons_succ, List.getElem?_cons_zero]; with_reducible rfl))
                  intro K hK
                  go_simp
                  have hS5 : S (w4.setCell ⟨g, m1 * 5 + 3, none⟩ (.slice (some ⟨g4, 0, none⟩) (g2.ks.length + 1) d4)) := HSB.out w4 _ HS.out ((But.setCell w4 g _ _).block g8 (HKK.out _ HS.out).lt HG8.out)
                  have HST5 := Lib.hid (HST4.out.set (m1 * 5 + 3) (.slice (some ⟨g4, 0, none⟩) (g2.ks.length + 1) d4))
                  have HOWN5 := Lib.hid (own_same (w' := w4.setCell ⟨g, m1 * 5 + 3, none⟩ (.slice (some ⟨g4, 0, none⟩) (g2.ks.length + 1) d4)) HOWN4.out (fun b hb e => (But.setCell w4 g _ _).block b hb (fun e2 => by subst e2; injection e with e; exact hgg4 e.symm)))
                  have HCH5 : Hid (∀ b, b < v1.heap.size → role1 b ≠ m1 + 2 → role1 b ≠ 1 → (w4.setCell ⟨g, m1 * 5 + 3, none⟩ (.slice (some ⟨g4, 0, none⟩) (g2.ks.length + 1) d4)).heap[b]? = v1.heap[b]?) := fun b hb h1 h2 => ((But.setCell w4 g _ _).block b (Nat.lt_of_lt_of_le hb HSZ4.out) (fun e => by subst e; exact h2 HRG.out)).trans (HCH4.out b hb h1)
                  have HSZ5 := Lib.hid (Nat.le_trans HSZ4.out (But.setCell w4 g (m1 * 5 + 3) (.slice (some ⟨g4, 0, none⟩) (g2.ks.length + 1) d4)).size)
                  have HG4Z := Lib.hid (Nat.lt_of_lt_of_le HG4LT.out (But.setCell w4 g (m1 * 5 + 3) (.slice (some ⟨g4, 0, none⟩) (g2.ks.length + 1) d4)).size)
                  have HB5 := Lib.hid (HB4.out.setCell (p := ⟨g, m1 * 5 + 3, none⟩) HST4.out.1 (.slice (some ⟨g4, 0, none⟩) (g2.ks.length + 1) d4))
                  clear own5 there5 HST4 HOWN4 HCH4 HB4 HSZ4 HG4LT
                  refine hK.out _ _ hS5 ?_
                  clear hK K HS k5 f5
                  have HS := Lib.hid hS5; clear hS5
                  (try simp only [Act.put])
                  generalize w4.setCell ⟨g, m1 * 5 + 3, none⟩ (.slice (some ⟨g4, 0, none⟩) (g2.ks.length + 1) d4) = w5 at *
                  obtain ⟨own6, there6⟩ := own_fill HOWN5.out (tcs_length g2.ks) (ys := (trv x).toList) rfl
                  (refine wpOT_solo (o := ?_) ?_ ?_; rotate_left 1; (simp only [List.getElem?_toArray, List.getElem?_cons_succ, List.getElem?_cons_zero]; with_reducible rfl))
                  intro K hK
                  rw [if_pos (by rfl)]
                  refine wp_store_mid 38 _ _ rfl g4 (g2.ks.length * 5) (trv x) rfl rfl there6 (tree_size _ _ _ _ _) (by simp [trv, Value.oneCell']) ?_
                  have hS6 : S (w5.setCells g4 (g2.ks.length * 5) (trv x).toList) := HSB.out w5 _ HS.out (setCells_other _ _ _ _ _ hg84)
                  have HSTz := Lib.hid (HST5.out.same (setCells_other w5 g4 (g2.ks.length * 5) (trv x).toList g hgg4))
                  have HOWNz := Lib.hid own6
                  have HCHz : Hid (∀ b, b < v1.heap.size → role1 b ≠ m1 + 2 → role1 b ≠ 1 → (w5.setCells g4 (g2.ks.length * 5) (trv x).toList).heap[b]? = v1.heap[b]?) := fun b hb h1 h2 => (setCells_other _ _ _ _ _ (fun e => by subst e; rcases hrole4 with e | e <;> omega)).trans (HCH5.out b hb h1 h2)
                  have HSZ : Hid (v1.heap.size ≤ (w5.setCells g4 (g2.ks.length * 5) (trv x).toList).heap.size) := by rw [setCells_size]; exact HSZ5.out
                  have HG4Z : Hid (g4 < (w5.setCells g4 (g2.ks.length * 5) (trv x).toList).heap.size) := by rw [setCells_size]; exact HG4Z.out
                  have HBZ := Lib.hid (HB5.out.trans (setCells_below hg4B (g2.ks.length * 5) (trv x).toList))
                  have HGFz := Lib.hid ((HGFV.out _ HV1.out).below HBZ.out (Nat.lt_succ_self _))
                  have HWz := Lib.hid (HWV1.out.trans (HBZ.out.mono (Nat.le_succ _)))
                  refine hK.out _ _ hS6 ?_
                  clear hK K hS6 HS HST5 HOWN5 HCH5 HSZ5 HB5 HBZ own6 there6
                  (try simp only [Act.put])
                  refine wpOT_done ?_
                  have HZ := Lib.hid (read_close (n := n) (by omega) (by rw [HM.out]; omega) (by rw [HM.out]; exact HSTz.out) HFI1.out (by rw [HM.out]; exact HFL1.out) HRG.out HRN1.out HKG.out hfl HBT.out HRUN.out HGFz.out HWz.out HX11.out HX3.out HX21.out (by rw [HM.out]; exact hrole4) HG4Z.out hgg4 HSZ.out (by rw [HM.out]; exact HCHz.out) HOWNz.out)
                  rw [HM.out] at HZ
                  clear HSTz HFI1 HFL1 HX11 HX21 HOWNz HCHz HGFz HWz k3
                  go_wp2
                  go_roundw
                  case rel => exact HZ.out
                  case measure => simp [intOf]; omega
            · have hE : P = .error p := hts none (by
                have e1 : ¬ cl (er1 f).t.k = 125 := heq
                cases er gs.reverse with
                | nil => simp only [mstep, if_pos h0, if_pos hcz]
                | cons y r => simp only [mstep, if_pos h0, if_pos hcz, if_neg e1])
              subst hE
              have hcl := fun W => closer_any f.t.k W
              have hqn : (((cl f.t.k : Nat) : Int) != 125) = true := by simp; omega
              generalize cl f.t.k = q at *
              have HCL := Lib.hid hcl
              clear hts hcl h0 hcz heq HRN2 HBY2 HFI2 HFL2
              generalize f.t.k = kf at *
              go_quiet ((go_at_call 22; exact quiet_same (HCL.out _)))
              go_wp2_with fail
              refine (show Calls Try.prog 21 #[.agg #[.int .u8 125, .string s, .int .i64 p]] (v2.drewN nq) _ from fault9_any ⟨125, s, p⟩ (v2.drewN nq)).mono ?_
              rintro e wf ⟨rfl, hbf⟩
              have hgf := RowAt.below (w := (v2.drewN nq)) (w' := wf) HGF2.out hbf HGF2.out.lt
              have c0 := (hgf.cell 0).trans rfl
              have c1 := (hgf.cell 1).trans rfl
              have x0 := hgf.free 0
              have x1 := hgf.free 1
              have HBF : Hid (Below w.heap.size w wf) := ((bdrewN HWV2.out nq)).trans (hbf.mono ((bdrewN HWV2.out nq)).size)
              have HGFF := Lib.hid hgf
              clear hbf hgf
              go_wp2
              have hgf := (HGFF.out.put 0 (.int .i64 2)).put 1 (.int .i64 p)
              exact bodyPost_ret (ret_slot_cell rfl _ _ _ w.heap.size _ _ (0, 0) _ rfl rfl hgf Try.underlying27 rfl (fault_info _ _)) rfl ⟨(HBF.out.setCell (p := ⟨w.heap.size, 0, none⟩) (Nat.le_refl _) _).setCell (p := ⟨w.heap.size, 1, none⟩) (Nat.le_refl _) _, rfl⟩
          · have s0 : v.cell? ⟨g, m * 5, none⟩ = some (.int .u8 (f.t.k : Int)) := HST.out.cell (by have := HTOP.out 0; rw [Nat.add_zero] at this; rw [this]; rfl)
            have s1 : v.cell? ⟨g, m * 5 + 1, none⟩ = some (.string f.t.s) := HST.out.cell (by rw [HTOP.out]; rfl)
            have s2 : v.cell? ⟨g, m * 5 + 2, none⟩ = some (.int .i64 f.t.p) := HST.out.cell (by rw [HTOP.out]; rfl)
            have s3 : v.cell? ⟨g, m * 5 + 3, none⟩ = some (.slice f.A f.ks.length f.c) := HST.out.cell (by rw [HTOP.out]; rfl)
            have s4 : v.cell? ⟨g, m * 5 + 4, none⟩ = some (.int .i64 f.e) := HST.out.cell (by rw [HTOP.out]; rfl)
            go_upto_region 17 with fail
            go_upto_region 18 with (first | (refine wpList_store_row (by rfl) _ _ _ rfl g8 #[.int .u8 (f.t.k : Int), .string f.t.s, .int .i64 f.t.p, .slice f.A f.ks.length f.c, .int .i64 f.e] rfl rfl _ _ HBY.out (tree_size _ _ _ _ _) rfl (by simp [Value.oneCell']) ?_))
            have hbut := But.setRow v g8 #[.int .u8 (f.t.k : Int), .string f.t.s, .int .i64 f.t.p, .slice f.A f.ks.length f.c, .int .i64 f.e]
            have r8 : RowAt (v.setRow g8 #[.int .u8 (f.t.k : Int), .string f.t.s, .int .i64 f.t.p, .slice f.A f.ks.length f.c, .int .i64 f.e]) g8 38 #[.int .u8 (f.t.k : Int), .string f.t.s, .int .i64 f.t.p, .slice f.A f.ks.length f.c, .int .i64 f.e] := HBY.out.setRow _
            have R62 : Hid (RowAt (v.setRow g8 #[.int .u8 (f.t.k : Int), .string f.t.s, .int .i64 f.t.p, .slice f.A f.ks.length f.c, .int .i64 f.e]) g6 36 #[.int .u8 93, .string s, .int .i64 p]) := (hbut.block g6 R6.out.lt (by have := HG68.out; omega)).trans R6.out
            have HST2 := Lib.hid (HST.out.same (hbut.block g HST.out.lt (fun e => HG8.out e.symm)))
            have HFI2 := Lib.hid (HFI.out.but HR8.out hbut)
            have HFL2 := Lib.hid (HFL.out.but HR8.out hbut)
            have HG0N : Hid (w.heap.size ≠ g8) := by have := HG08.out; have := HG68.out; show _ ≠ _; omega
            have HGF2 : Hid (RowAt (v.setRow g8 #[.int .u8 (f.t.k : Int), .string f.t.s, .int .i64 f.t.p, .slice f.A f.ks.length f.c, .int .i64 f.e]) w.heap.size 27 #[.int .i64 0, .int .i64 0]) := (hbut.block _ HGF.out.lt HG0N.out).trans HGF.out
            have HWV2 := Lib.hid (HWV.out.trans (below_setRow (B := w.heap.size) (w := v) (g := g8) (by have := HG08.out; have := HG68.out; omega) #[.int .u8 (f.t.k : Int), .string f.t.s, .int .i64 f.t.p, .slice f.A f.ks.length f.c, .int .i64 f.e]))
            have HRN2 : Hid (∀ b, (v.setRow g8 #[.int .u8 (f.t.k : Int), .string f.t.s, .int .i64 f.t.p, .slice f.A f.ks.length f.c, .int .i64 f.e]).heap.size ≤ b → role b = 1) := fun b hb => HRN.out b (Nat.le_trans hbut.size hb)
            have HBY2 := Lib.hid r8
            clear hbut r8 b60 b61 b62 s0 s1 s2 s3 s4 HST HFI HFL HGF HWV HRN HBY R6
            generalize v.setRow g8 #[.int .u8 (f.t.k : Int), .string f.t.s, .int .i64 f.t.p, .slice f.A f.ks.length f.c, .int .i64 f.e] = v2 at *
            have b60 := (R62.out.cell 0).trans rfl
            have b61 := (R62.out.cell 1).trans rfl
            have b62 := (R62.out.cell 2).trans rfl
            have b80 := (HBY2.out.cell 0).trans rfl
            have b84 := (HBY2.out.cell 4).trans rfl
            have f84 := HBY2.out.free 4
            by_cases heq : cl f.t.k = 93
            · have hgne : gs ≠ [] := fun e => by
                subst e
                have hb : f.t = t0 := HBT.out
                rw [hb] at heq
                exact absurd heq (by decide)
              obtain ⟨hs, g2, rfl⟩ : ∃ hs g2, gs = hs ++ [g2] := ⟨gs.dropLast, gs.getLast hgne, (List.dropLast_concat_getLast _).symm⟩
              have hrun2 := hts (some (push (er1 g2) (.mk f.t none 0 (er f.ks) p) :: er hs.reverse)) (by
                rw [er_top]
                have e1 : cl (er1 f).t.k = 93 := heq
                simp only [mstep, if_pos h0, if_pos hcz, e1, if_true]
                rfl)
              obtain ⟨m1, rfl⟩ : ∃ m1, m = m1 + 1 := ⟨hs.length, by have := HM.out; rw [List.length_append, List.length_singleton] at this; exact this.symm⟩
              have hm1 : hs.length = m1 := by have := HM.out; rw [List.length_append, List.length_singleton] at this; omega
              have hmd : m1 + 1 + 1 ≤ d := HST2.out.2.1
              have hz2 : IntKind.i64.wrap ((m1 : Int) + 1 - 1) = (m1 : Int) := by rw [IntKind.wrap_i64] <;> omega
              have hcl := fun W => closer_any f.t.k W
              rw [heq] at hcl
              have HCL := Lib.hid hcl
              clear hts hcl h0 hcz hgne
              generalize hkf : f.t.k = kf at *
              go_quiet ((go_at_call 22; exact quiet_same (HCL.out _)))
              go_upto_region 23 with fail
              have HB2 : Hid (But g8 v2 ((v2.drewN nq).setCell ⟨g8, 4, none⟩ (.int .i64 p))) := ⟨(But.setCell (v2.drewN nq) g8 4 (.int .i64 p)).size, (But.setCell (v2.drewN nq) g8 4 (.int .i64 p)).block⟩
              have HGRS := Lib.hid (HFI2.out.but HR8.out HB2.out)
              have HSH := Lib.hid (HFL2.out.but HR8.out HB2.out).shut
              have HFS := Lib.hid HGRS.out.shut
              have HST := Lib.hid ((HST2.out.same (HB2.out.block g HST2.out.lt (fun e => HG8.out e.symm))).cut (m1 + 1) (Nat.le_succ _))
              rw [HCUT.out] at HST
              have hlen : (hs ++ [g2]).length = m1 + 1 := HM.out
              rw [hlen] at HFS
              have HFI := Lib.hid HFS.out.init
              have HFL := Lib.hid HFS.out.last
              rw [hm1] at HFL
              have HMs := Lib.hid hm1
              have HRN : Hid (∀ b, ((v2.drewN nq).setCell ⟨g8, 4, none⟩ (.int .i64 p)).heap.size ≤ b → shutR role (m1 + 1) b = 1) := fun b hb => shutR_one (HRN2.out b (Nat.le_trans HB2.out.size hb))
              have HRGs : Hid (shutR role (m1 + 1) g = 1) := shutR_one HRG.out
              have HR8s : Hid (shutR role (m1 + 1) g8 = 1) := shutR_one HR8.out
              have HBX : Hid (RowAt ((v2.drewN nq).setCell ⟨g8, 4, none⟩ (.int .i64 p)) g8 38 (trv (Tr.mk f.t f.A f.c f.ks p))) := by
                have h := (HBY2.out.drewN nq).put 4 (.int .i64 p)
                rw [← hkf] at h
                exact h
              have HX1 : Hid (SlC ((v2.drewN nq).setCell ⟨g8, 4, none⟩ (.int .i64 p)) (fun b => w.heap.size + 1 ≤ b ∧ shutR role (m1 + 1) b = 0) (Tr.mk f.t f.A f.c f.ks p).A (tcs (Tr.mk f.t f.A f.c f.ks p).ks)) := HSH.out.1
              have HX3 : Hid ((Tr.mk f.t f.A f.c f.ks p).ks.length ≤ (Tr.mk f.t f.A f.c f.ks p).c) := own_cap_le HFL2.out.1
              have HX2 : Hid (Deep ((v2.drewN nq).setCell ⟨g8, 4, none⟩ (.int .i64 p)) (fun b => w.heap.size + 1 ≤ b ∧ shutR role (m1 + 1) b = 0) (Tr.mk f.t f.A f.c f.ks p).ks) := HSH.out.2
              have HGF : Hid (RowAt ((v2.drewN nq).setCell ⟨g8, 4, none⟩ (.int .i64 p)) w.heap.size 27 #[.int .i64 0, .int .i64 0]) := (HB2.out.block _ HGF2.out.lt HG0N.out).trans HGF2.out
              have HWV : Hid (Below w.heap.size w ((v2.drewN nq).setCell ⟨g8, 4, none⟩ (.int .i64 p))) := (bdrewN HWV2.out nq).setCell (p := ⟨g8, 4, none⟩) (by have := HG08.out; have := HG68.out; show w.heap.size ≤ g8; omega) _
              have HRUN : Hid (mrun (l.drop (i + 1)) (push (er1 g2) (er1 (Tr.mk f.t f.A f.c f.ks p)) :: er hs.reverse) = P) := hrun2
              have hfls : g2.ks.length ≤ i := HKG.out g2 (by simp)
              have HKGs : Hid (∀ y ∈ hs, y.ks.length ≤ i) := fun y hy => HKG.out y (by simp [hy])
              have HBTs : Hid (((hs ++ [g2]).getD 0 r0).t = t0) := by
                have h := HBT.out
                rw [getD_init _ _ (by simp)] at h
                exact h
              have HTOPs : Hid (∀ j, (tcs (hs ++ [g2]))[m1 * 5 + j]? = (rcells g2)[j]?) := fun j => by have := tcs_top hs g2 j; rw [hm1] at this; exact this
              have hi25 : m1 + 1 ≤ 25 := by omega
              clear HB2 HGRS HSH HFS HCUT hlen hrun2 HBY2 R62 hm1 HCL b60 b61 b62 b80 b84 f84 hmd hf25 HRG HR8 HM hfl HKG HBT HTOP HST2 HFI2 HFL2 HGF2 HWV2 HRN2
              have HRG := HRGs; have HR8 := HR8s; have HM := HMs; have hfl := hfls; have HKG := HKGs; have HBT := HBTs; have HTOP := HTOPs
              clear HRGs HR8s HMs hfls HKGs HBTs HTOPs
              generalize Tr.mk f.t f.A f.c f.ks p = x at *
              generalize shutR role (m1 + 1) = role1 at *
              generalize (v2.drewN nq).setCell ⟨g8, 4, none⟩ (.int .i64 p) = v4 at *
              obtain ⟨S, HS, HKK, HSB⟩ := ex_box g8 38 (trv x) v4 HBX.out
              have C0 : ∀ w', S w' → w'.cell? ⟨g8, 0, none⟩ = some (.int .u8 (x.t.k : Int)) := fun w' h => ((HKK.out w' h).cell 0).trans rfl
              have C1 : ∀ w', S w' → w'.cell? ⟨g8, 1, none⟩ = some (.string x.t.s) := fun w' h => ((HKK.out w' h).cell 1).trans rfl
              have C2 : ∀ w', S w' → w'.cell? ⟨g8, 2, none⟩ = some (.int .i64 x.t.p) := fun w' h => ((HKK.out w' h).cell 2).trans rfl
              have C3 : ∀ w', S w' → w'.cell? ⟨g8, 3, none⟩ = some (.slice x.A x.ks.length x.c) := fun w' h => ((HKK.out w' h).cell 3).trans rfl
              have C4 : ∀ w', S w' → w'.cell? ⟨g8, 4, none⟩ = some (.int .i64 x.e) := fun w' h => ((HKK.out w' h).cell 4).trans rfl
              have hk3 : v4.cell? ⟨g, m1 * 5 + 3, none⟩ = some (.slice g2.A g2.ks.length g2.c) := HST.out.cell (by rw [HTOP.out]; rfl)
              have HLG := Lib.hid HST.out.lt
              have HWG : Hid (w.heap.size + 1 ≤ g) := HST.out.1
              have HFIV : Hid (∀ W, Below v4.heap.size v4 W → Frames W (w.heap.size + 1) role1 hs) := fun W hb => HFI.out.below hb
              have HFLV : Hid (∀ W, Below v4.heap.size v4 W → FrameOk W (w.heap.size + 1) role1 m1 g2) := fun W hb => HFL.out.below hb
              have HX1V : Hid (∀ W, Below v4.heap.size v4 W → SlC W (fun b => w.heap.size + 1 ≤ b ∧ role1 b = 0) x.A (tcs x.ks)) := fun W hb => HX1.out.keep hb.size (fun b hlt _ => hb.block b hlt) (fun _ _ h => h)
              have HX2V : Hid (∀ W, Below v4.heap.size v4 W → Deep W (fun b => w.heap.size + 1 ≤ b ∧ role1 b = 0) x.ks) := fun W hb => HX2.out.below hb
              have HGFV : Hid (∀ W, Below v4.heap.size v4 W → RowAt W w.heap.size 27 #[.int .i64 0, .int .i64 0]) := fun W hb => HGF.out.below hb HGF.out.lt
              have hlm : (m1 : Int) < (m1 : Int) + 1 := by omega
              have hlq : (g2.ks.length : Int) < (g2.ks.length : Int) + 1 := by omega
              refine wp_region_ot S (.take 0 (.take 1 (.take 2 (.take 3 (.take 5 (.two 4 (.take 6 (.solo 7 (.solo 8 (.take 9 (.take 11 (.take 12 (.two 10 (.solo 13 .nil) 13 (.solo 10 .nil)))))))) 7 (.solo 4 (.take 6 (.solo 8 (.take 9 (.take 11 (.take 12 (.two 10 (.solo 13 .nil) 13 (.solo 10 .nil)))))))))))))) (by kernel_rfl) (by kernel_rfl) rfl (by kernel_rfl) HS.out ?_
              iterate 5
                (refine wpOT_step (o := ?_) ?_ ?_; rotate_left 1; (simp only [List.getElem?_toArray, List.getElem?_cons_succ, List.getElem?_cons_zero]; with_reducible rfl))
                (first
                    | (refine wpOT_skip (by rfl) ?_)
                    | (refine wpOT_take (v := ?_) (by rfl) ?_ ?_; rotate_left 1; (intro wx hSx; have hc_0 := C0 wx hSx; have hc_1 := C1 wx hSx; have hc_2 := C2 wx hSx; have hc_3 := C3 wx hSx; have hc_4 := C4 wx hSx; go_simp; try with_reducible rfl)))
                (try simp only [Act.put, List.setIfInBounds_toArray, List.set_cons_zero, List.set_cons_succ])
              clear C0 C1 C2 C3 C4
              refine wpOT_two ?_ ?_
              · (refine wpOT_solo (o := ?_) ?_ ?_; rotate_left 1; (simp only [List.getElem?_toArray, List.getElem?_cons_succ, List.getElem?_cons_zero]; with_reducible rfl))
                intro K hK
                go_simp
                refine hK.out _ _ HS.out ?_
                clear hK K
                (try simp only [Act.put, List.setIfInBounds_toArray, List.set_cons_zero, List.set_cons_succ])
                iterate 1
                  (refine wpOT_step (o := ?_) ?_ ?_; rotate_left 1; (simp only [List.getElem?_toArray, List.getElem?_cons_succ, List.getElem?_cons_zero]; with_reducible rfl))
                  (first
                      | (refine wpOT_skip (by rfl) ?_)
                      | (refine wpOT_take (v := ?_) (by rfl) ?_ ?_; rotate_left 1; (intro wx hSx; go_simp; try with_reducible rfl)))
                  (try simp only [Act.put, List.setIfInBounds_toArray, List.set_cons_zero, List.set_cons_succ])
                (refine wpOT_solo (o := ?_) ?_ ?_; rotate_left 1; (simp only [List.getElem?_toArray, List.getElem?_cons_succ, List.getElem?_cons_zero]; with_reducible rfl))
                intro K hK
                go_simp
                have hS : S (v4.alloc (.cells #[.int .u8 0, .string ⟨#[]⟩, .int .i64 0, .slice none 0 0, .int .i64 0] 38)).drew := HSB.out v4.drew _ HS.out (heap_alloc_old v4 _ HBX.out.lt)
                have HN1 : Hid (Sl (v4.alloc (.cells #[.int .u8 0, .string ⟨#[]⟩, .int .i64 0, .slice none 0 0, .int .i64 0] 38)).drew (v4.heap.size + 1) (some ⟨v4.heap.size, 0, none⟩) [.int .u8 0, .string ⟨#[]⟩, .int .i64 0, .slice none 0 0, .int .i64 0]) := Sl.new v4 38 [.int .u8 0, .string ⟨#[]⟩, .int .i64 0, .slice none 0 0, .int .i64 0]
                have HV1 : Hid (Below v4.heap.size v4 (v4.alloc (.cells #[.int .u8 0, .string ⟨#[]⟩, .int .i64 0, .slice none 0 0, .int .i64 0] 38)).drew) := ((Below.refl _ _).alloc (Nat.le_refl _) _).drew
                clear HS
                have HS := Lib.hid hS; clear hS
                refine hK.out _ _ HS.out ?_
                clear hK K
                (try simp only [Act.put, List.setIfInBounds_toArray, List.set_cons_zero, List.set_cons_succ])
                generalize (v4.alloc (.cells #[.int .u8 0, .string ⟨#[]⟩, .int .i64 0, .slice none 0 0, .int .i64 0] 38)).drew = v1 at *
                generalize hgv : v4.heap.size = g1 at *
                have HGV := Lib.hid hgv; clear hgv
                have HST1 := Lib.hid (HST.out.same (HV1.out.block g HLG.out))
                have HFI1 := Lib.hid (HFIV.out _ HV1.out)
                have HFL1 := Lib.hid (HFLV.out _ HV1.out)
                have HX11 := Lib.hid (HX1V.out _ HV1.out)
                have HX21 := Lib.hid (HX2V.out _ HV1.out)
                have HWV1 : Hid (Below w.heap.size w v1) := HWV.out.trans (HV1.out.mono (by have := HLG.out; have := HWG.out; omega))
                have k3 : v1.cell? ⟨g, m1 * 5 + 3, none⟩ = some (.slice g2.A g2.ks.length g2.c) := HST1.out.cell (by rw [HTOP.out]; rfl)
                have HRN1 : Hid (∀ b, v1.heap.size ≤ b → role1 b = 1) := fun b hb => HRN.out b (by have h1 := HV1.out.size; have h2 := HGV.out; omega)
                (refine wpOT_solo (o := ?_) ?_ ?_; rotate_left 1; (simp only [List.getElem?_toArray, List.getElem?_cons_succ, List.getElem?_cons_zero]; with_reducible rfl))
                intro K hK
                rw [if_pos (by rfl)]
                refine wp_catAt _ _ 25 rfl 38 (.agg #[.int .u8 0, .string ⟨#[]⟩, .int .i64 0, .slice none 0 0, .int .i64 0]) 5 64 Try.underlying25 infoTree rfl (by decide) (by decide) (w.heap.size + 1) g2.A g2.ks.length g2.c (tcs g2.ks) rfl HFL1.out.1 _ (some ⟨g1, 0, none⟩) 1 1 [.int .u8 0, .string ⟨#[]⟩, .int .i64 0, .slice none 0 0, .int .i64 0] rfl rfl (by decide) HN1.out (by simp [Value.oneCell']) (by omega) (by have := HST1.out.lt; have := HWG.out; omega) ?_
                intro A4 d4 w4 hown4 hb4 hg4 hat4
                obtain ⟨g4, rfl, hg4B, hg4lt, hg4f, _⟩ := own_at hown4 (by intro e; have := congrArg List.length e; rw [List.length_append] at this; simp at this)
                have hrole4 : role1 g4 = m1 + 2 ∨ v1.heap.size ≤ g4 := by
                  rcases hat4 with e | e
                  · exact .inl (HFL1.out.2.1 g4 e.symm)
                  · have e2 : some g4 = some v1.heap.size := e
                    injection e2 with e2; exact .inr (by omega)
                have hch4 : ∀ b, b < v1.heap.size → role1 b ≠ m1 + 2 → w4.heap[b]? = v1.heap[b]? := fun b hb hr => hg4.block b hb (fun e => hr (HFL1.out.2.1 b e.symm))
                have hgg4 : g ≠ g4 := fun e => by
                  subst e
                  have h1 := HRG.out
                  have h2 := HST1.out.lt
                  rcases hrole4 with e | e <;> omega
                have hg84 : g8 ≠ g4 := fun e => by
                  subst e
                  have h1 := HR8.out
                  have h2 := (HKK.out _ HS.out).lt
                  rcases hrole4 with e | e <;> omega
                have hS4 : S w4 := HSB.out v1 w4 HS.out (hch4 g8 (HKK.out _ HS.out).lt (by rw [HR8.out]; omega))
                have HST4 := Lib.hid (HST1.out.same (hch4 g HST1.out.lt (by rw [HRG.out]; omega)))
                have HCH4 := Lib.hid hch4
                have HSZ4 := Lib.hid hg4.size
                have HOWN4 := Lib.hid hown4
                have HB4 := Lib.hid hb4
                have HG4LT := Lib.hid hg4lt
                clear HS hown4 hb4 hg4 hat4 hch4 hg4lt
                have HS := Lib.hid hS4; clear hS4
                refine hK.out _ _ HS.out ?_
                clear hK K
                (try simp only [Act.put, List.setIfInBounds_toArray, List.set_cons_zero, List.set_cons_succ])
                iterate 3
                  (refine wpOT_step (o := ?_) ?_ ?_; rotate_left 1; (simp only [List.getElem?_toArray, List.getElem?_cons_succ, List.getElem?_cons_zero]; with_reducible rfl))
                  (first
                      | (refine wpOT_skip (by rfl) ?_)
                      | (refine wpOT_take (v := ?_) (by rfl) ?_ ?_; rotate_left 1; (intro wx hSx; go_simp; try with_reducible rfl)))
                  (try simp only [Act.put, List.setIfInBounds_toArray, List.set_cons_zero, List.set_cons_succ])
                obtain ⟨own5, there5⟩ := own_fill HOWN4.out (tcs_length g2.ks) (ys := (trv x).toList) rfl
                refine wpOT_two ?_ ?_
                · (refine wpOT_solo (o := ?_) ?_ ?_; rotate_left 1; (simp only [List.getElem?_toArray, List.getElem?_cons_succ, List.getElem?_cons_zero]; with_reducible rfl))
                  intro K hK
                  rw [if_pos (by rfl)]
                  refine wp_store_mid 38 _ _ rfl g4 (g2.ks.length * 5) (trv x) rfl rfl there5 (tree_size _ _ _ _ _) (by simp [trv, Value.oneCell']) ?_
                  have hS5 : S (w4.setCells g4 (g2.ks.length * 5) (trv x).toList) := HSB.out w4 _ HS.out (setCells_other _ _ _ _ _ hg84)
                  have HST5 := Lib.hid (HST4.out.same (setCells_other w4 g4 (g2.ks.length * 5) (trv x).toList g hgg4))
                  have HOWN5 := Lib.hid own5
                  have HCH5 : Hid (∀ b, b < v1.heap.size → role1 b ≠ m1 + 2 → role1 b ≠ 1 → (w4.setCells g4 (g2.ks.length * 5) (trv x).toList).heap[b]? = v1.heap[b]?) := fun b hb h1 h2 => (setCells_other _ _ _ _ _ (fun e => by subst e; rcases hrole4 with e | e <;> omega)).trans (HCH4.out b hb h1)
                  have HSZ5 : Hid (v1.heap.size ≤ (w4.setCells g4 (g2.ks.length * 5) (trv x).toList).heap.size) := by rw [setCells_size]; exact HSZ4.out
                  have HG4Z : Hid (g4 < (w4.setCells g4 (g2.ks.length * 5) (trv x).toList).heap.size) := by rw [setCells_size]; exact HG4LT.out
                  have HB5 := Lib.hid (HB4.out.trans (setCells_below hg4B (g2.ks.length * 5) (trv x).toList))
                  clear HS own5 there5 HST4 HOWN4 HCH4 HB4
                  have HS := Lib.hid hS5; clear hS5
                  refine hK.out _ _ HS.out ?_
                  clear hK K
                  (try simp only [Act.put])
                  generalize w4.setCells g4 (g2.ks.length * 5) (trv x).toList = w5 at *
                  have k5 : w5.cell? ⟨g, m1 * 5 + 3, none⟩ = some (.slice g2.A g2.ks.length g2.c) := HST5.out.cell (by rw [HTOP.out]; rfl)
                  have f5 := HST5.out.free (m1 * 5 + 3)
                  (refine wpOT_solo (o := ?_) ?_ ?_; rotate_left 1; (simp only [List.getElem?_toArray, List.getElem?_cons_succ, List.getElem?_cons_zero]; with_reducible rfl))
                  intro K hK
                  go_simp
                  have hS6 : S (w5.setCell ⟨g, m1 * 5 + 3, none⟩ (.slice (some ⟨g4, 0, none⟩) (g2.ks.length + 1) d4)) := HSB.out w5 _ HS.out ((But.setCell w5 g _ _).block g8 (HKK.out _ HS.out).lt HG8.out)
                  have HSTz := Lib.hid (HST5.out.set (m1 * 5 + 3) (.slice (some ⟨g4, 0, none⟩) (g2.ks.length + 1) d4))
                  have HOWNz := Lib.hid (own_same (w' := w5.setCell ⟨g, m1 * 5 + 3, none⟩ (.slice (some ⟨g4, 0, none⟩) (g2.ks.length + 1) d4)) HOWN5.out (fun b hb e => (But.setCell w5 g _ _).block b hb (fun e2 => by subst e2; injection e with e; exact hgg4 e.symm)))
                  have HCHz : Hid (∀ b, b < v1.heap.size → role1 b ≠ m1 + 2 → role1 b ≠ 1 → (w5.setCell ⟨g, m1 * 5 + 3, none⟩ (.slice (some ⟨g4, 0, none⟩) (g2.ks.length + 1) d4)).heap[b]? = v1.heap[b]?) := fun b hb h1 h2 => ((But.setCell w5 g _ _).block b (Nat.lt_of_lt_of_le hb HSZ5.out) (fun e => by subst e; exact h2 HRG.out)).trans (HCH5.out b hb h1 h2)
                  have HSZ := Lib.hid (Nat.le_trans HSZ5.out (But.setCell w5 g (m1 * 5 + 3) (.slice (some ⟨g4, 0, none⟩) (g2.ks.length + 1) d4)).size)
                  have HG4Z := Lib.hid (Nat.lt_of_lt_of_le HG4Z.out (But.setCell w5 g (m1 * 5 + 3) (.slice (some ⟨g4, 0, none⟩) (g2.ks.length + 1) d4)).size)
                  have HBZ := Lib.hid (HB5.out.setCell (p := ⟨g, m1 * 5 + 3, none⟩) HST5.out.1 (.slice (some ⟨g4, 0, none⟩) (g2.ks.length + 1) d4))
                  have HGFz := Lib.hid ((HGFV.out _ HV1.out).below HBZ.out (Nat.lt_succ_self _))
                  have HWz := Lib.hid (HWV1.out.trans (HBZ.out.mono (Nat.le_succ _)))
                  refine hK.out _ _ hS6 ?_
                  clear hK K hS6 HS k5 f5 HST5 HOWN5 HCH5 HSZ5 HB5 HBZ HSZ4 HG4LT
                  (try simp only [Act.put])
                  refine wpOT_done ?_
                  have HZ := Lib.hid (read_close (n := n) (by omega) (by rw [HM.out]; omega) (by rw [HM.out]; exact HSTz.out) HFI1.out (by rw [HM.out]; exact HFL1.out) HRG.out HRN1.out HKG.out hfl HBT.out HRUN.out HGFz.out HWz.out HX11.out HX3.out HX21.out (by rw [HM.out]; exact hrole4) HG4Z.out hgg4 HSZ.out (by rw [HM.out]; exact HCHz.out) HOWNz.out)
                  rw [HM.out] at HZ
                  clear HSTz HFI1 HFL1 HX11 HX21 HOWNz HCHz HGFz HWz k3
                  go_wp2
                  go_roundw
                  case rel => exact HZ.out
                  case measure => simp [intOf]; omega
                · have k5 : w4.cell? ⟨g, m1 * 5 + 3, none⟩ = some (.slice g2.A g2.ks.length g2.c) := HST4.out.cell (by rw [HTOP.out]; rfl)
                  have f5 := HST4.out.free (m1 * 5 + 3)
                  (refine wpOT_solo (o := ?_) ?_ ?_; rotate_left 1; (simp only [List.getElem?_toArray, List.getElem?_cons_succ, List.getElem?_cons_zero]; with_reducible rfl))
                  intro K hK
                  go_simp
                  have hS5 : S (w4.setCell ⟨g, m1 * 5 + 3, none⟩ (.slice (some ⟨g4, 0, none⟩) (g2.ks.length + 1) d4)) := HSB.out w4 _ HS.out ((But.setCell w4 g _ _).block g8 (HKK.out _ HS.out).lt HG8.out)
                  have HST5 := Lib.hid (HST4.out.set (m1 * 5 + 3) (.slice (some ⟨g4, 0, none⟩) (g2.ks.length + 1) d4))
                  have HOWN5 := Lib.hid (own_same (w' := w4.setCell ⟨g, m1 * 5 + 3, none⟩ (.slice (some ⟨g4, 0, none⟩) (g2.ks.length + 1) d4)) HOWN4.out (fun b hb e => (But.setCell w4 g _ _).block b hb (fun e2 => by subst e2; injection e with e; exact hgg4 e.symm)))
                  have HCH5 : Hid (∀ b, b < v1.heap.size → role1 b ≠ m1 + 2 → role1 b ≠ 1 → (w4.setCell ⟨g, m1 * 5 + 3, none⟩ (.slice (some ⟨g4, 0, none⟩) (g2.ks.length + 1) d4)).heap[b]? = v1.heap[b]?) := fun b hb h1 h2 => ((But.setCell w4 g _ _).block b (Nat.lt_of_lt_of_le hb HSZ4.out) (fun e => by subst e; exact h2 HRG.out)).trans (HCH4.out b hb h1)
                  have HSZ5 := Lib.hid (Nat.le_trans HSZ4.out (But.setCell w4 g (m1 * 5 + 3) (.slice (some ⟨g4, 0, none⟩) (g2.ks.length + 1) d4)).size)
                  have HG4Z := Lib.hid (Nat.lt_of_lt_of_le HG4LT.out (But.setCell w4 g (m1 * 5 + 3) (.slice (some ⟨g4, 0, none⟩) (g2.ks.length + 1) d4)).size)
                  have HB5 := Lib.hid (HB4.out.setCell (p := ⟨g, m1 * 5 + 3, none⟩) HST4.out.1 (.slice (some ⟨g4, 0, none⟩) (g2.ks.length + 1) d4))
                  clear own5 there5 HST4 HOWN4 HCH4 HB4 HSZ4 HG4LT
                  refine hK.out _ _ hS5 ?_
                  clear hK K HS k5 f5
                  have HS := Lib.hid hS5; clear hS5
                  (try simp only [Act.put])
                  generalize w4.setCell ⟨g, m1 * 5 + 3, none⟩ (.slice (some ⟨g4, 0, none⟩) (g2.ks.length + 1) d4) = w5 at *
                  obtain ⟨own6, there6⟩ := own_fill HOWN5.out (tcs_length g2.ks) (ys := (trv x).toList) rfl
                  (refine wpOT_solo (o := ?_) ?_ ?_; rotate_left 1; (simp only [List.getElem?_toArray, List.getElem?_cons_succ, List.getElem?_cons_zero]; with_reducible rfl))
                  intro K hK
                  rw [if_pos (by rfl)]
                  refine wp_store_mid 38 _ _ rfl g4 (g2.ks.length * 5) (trv x) rfl rfl there6 (tree_size _ _ _ _ _) (by simp [trv, Value.oneCell']) ?_
                  have hS6 : S (w5.setCells g4 (g2.ks.length * 5) (trv x).toList) := HSB.out w5 _ HS.out (setCells_other _ _ _ _ _ hg84)
                  have HSTz := Lib.hid (HST5.out.same (setCells_other w5 g4 (g2.ks.length * 5) (trv x).toList g hgg4))
                  have HOWNz := Lib.hid own6
                  have HCHz : Hid (∀ b, b < v1.heap.size → role1 b ≠ m1 + 2 → role1 b ≠ 1 → (w5.setCells g4 (g2.ks.length * 5) (trv x).toList).heap[b]? = v1.heap[b]?) := fun b hb h1 h2 => (setCells_other _ _ _ _ _ (fun e => by subst e; rcases hrole4 with e | e <;> omega)).trans (HCH5.out b hb h1 h2)
                  have HSZ : Hid (v1.heap.size ≤ (w5.setCells g4 (g2.ks.length * 5) (trv x).toList).heap.size) := by rw [setCells_size]; exact HSZ5.out
                  have HG4Z : Hid (g4 < (w5.setCells g4 (g2.ks.length * 5) (trv x).toList).heap.size) := by rw [setCells_size]; exact HG4Z.out
                  have HBZ := Lib.hid (HB5.out.trans (setCells_below hg4B (g2.ks.length * 5) (trv x).toList))
                  have HGFz := Lib.hid ((HGFV.out _ HV1.out).below HBZ.out (Nat.lt_succ_self _))
                  have HWz := Lib.hid (HWV1.out.trans (HBZ.out.mono (Nat.le_succ _)))
                  refine hK.out _ _ hS6 ?_
                  clear hK K hS6 HS HST5 HOWN5 HCH5 HSZ5 HB5 HBZ own6 there6
                  (try simp only [Act.put])
                  refine wpOT_done ?_
                  have HZ := Lib.hid (read_close (n := n) (by omega) (by rw [HM.out]; omega) (by rw [HM.out]; exact HSTz.out) HFI1.out (by rw [HM.out]; exact HFL1.out) HRG.out HRN1.out HKG.out hfl HBT.out HRUN.out HGFz.out HWz.out HX11.out HX3.out HX21.out (by rw [HM.out]; exact hrole4) HG4Z.out hgg4 HSZ.out (by rw [HM.out]; exact HCHz.out) HOWNz.out)
                  rw [HM.out] at HZ
                  clear HSTz HFI1 HFL1 HX11 HX21 HOWNz HCHz HGFz HWz k3
                  go_wp2
                  go_roundw
                  case rel => exact HZ.out
                  case measure => simp [intOf]; omega
              · (refine wpOT_solo (o := ?_) ?_ ?_; rotate_left 1; (simp only [List.getElem?_toArray, List.getElem?_cons_succ, List.getElem?_cons_zero]; with_reducible rfl))
                intro K hK
                go_simp
                have hS : S (v4.alloc (.cells #[.int .u8 0, .string ⟨#[]⟩, .int .i64 0, .slice none 0 0, .int .i64 0] 38)).drew := HSB.out v4.drew _ HS.out (heap_alloc_old v4 _ HBX.out.lt)
                have HN1 : Hid (Sl (v4.alloc (.cells #[.int .u8 0, .string ⟨#[]⟩, .int .i64 0, .slice none 0 0, .int .i64 0] 38)).drew (v4.heap.size + 1) (some ⟨v4.heap.size, 0, none⟩) [.int .u8 0, .string ⟨#[]⟩, .int .i64 0, .slice none 0 0, .int .i64 0]) := Sl.new v4 38 [.int .u8 0, .string ⟨#[]⟩, .int .i64 0, .slice none 0 0, .int .i64 0]
                have HV1 : Hid (Below v4.heap.size v4 (v4.alloc (.cells #[.int .u8 0, .string ⟨#[]⟩, .int .i64 0, .slice none 0 0, .int .i64 0] 38)).drew) := ((Below.refl _ _).alloc (Nat.le_refl _) _).drew
                clear HS
                have HS := Lib.hid hS; clear hS
                refine hK.out _ _ HS.out ?_
                clear hK K
                (try simp only [Act.put, List.setIfInBounds_toArray, List.set_cons_zero, List.set_cons_succ])
                generalize (v4.alloc (.cells #[.int .u8 0, .string ⟨#[]⟩, .int .i64 0, .slice none 0 0, .int .i64 0] 38)).drew = v1 at *
                generalize hgv : v4.heap.size = g1 at *
                have HGV := Lib.hid hgv; clear hgv
                have HST1 := Lib.hid (HST.out.same (HV1.out.block g HLG.out))
                have HFI1 := Lib.hid (HFIV.out _ HV1.out)
                have HFL1 := Lib.hid (HFLV.out _ HV1.out)
                have HX11 := Lib.hid (HX1V.out _ HV1.out)
                have HX21 := Lib.hid (HX2V.out _ HV1.out)
                have HWV1 : Hid (Below w.heap.size w v1) := HWV.out.trans (HV1.out.mono (by have := HLG.out; have := HWG.out; omega))
                have k3 : v1.cell? ⟨g, m1 * 5 + 3, none⟩ = some (.slice g2.A g2.ks.length g2.c) := HST1.out.cell (by rw [HTOP.out]; rfl)
                have HRN1 : Hid (∀ b, v1.heap.size ≤ b → role1 b = 1) := fun b hb => HRN.out b (by have h1 := HV1.out.size; have h2 := HGV.out; omega)
                (refine wpOT_solo (o := ?_) ?_ ?_; rotate_left 1; (simp only [List.getElem?_toArray, List.getElem?_cons_succ, List.getElem?_cons_zero]; with_reducible rfl))
                intro K hK
                go_simp
                refine hK.out _ _ HS.out ?_
                clear hK K
                (try simp only [Act.put, List.setIfInBounds_toArray, List.set_cons_zero, List.set_cons_succ])
                iterate 1
                  (refine wpOT_step (o := ?_) ?_ ?_; rotate_left 1; (simp only [List.getElem?_toArray, List.getElem?_cons_succ, List.getElem?_cons_zero]; with_reducible rfl))
                  (first
                      | (refine wpOT_skip (by rfl) ?_)
                      | (refine wpOT_take (v := ?_) (by rfl) ?_ ?_; rotate_left 1; (intro wx hSx; go_simp; try with_reducible rfl)))
                  (try simp only [Act.put, List.setIfInBounds_toArray, List.set_cons_zero, List.set_cons_succ])
                (refine wpOT_solo (o := ?_) ?_ ?_; rotate_left 1; (simp only [List.getElem?_toArray, List.getElem?_cons_succ, List.getElem?_cons_zero]; with_reducible rfl))
                intro K hK
                rw [if_pos (by rfl)]
                refine wp_catAt _ _ 25 rfl 38 (.agg #[.int .u8 0, .string ⟨#[]⟩, .int .i64 0, .slice none 0 0, .int .i64 0]) 5 64 Try.underlying25 infoTree rfl (by decide) (by decide) (w.heap.size + 1) g2.A g2.ks.length g2.c (tcs g2.ks) rfl HFL1.out.1 _ (some ⟨g1, 0, none⟩) 1 1 [.int .u8 0, .string ⟨#[]⟩, .int .i64 0, .slice none 0 0, .int .i64 0] rfl rfl (by decide) HN1.out (by simp [Value.oneCell']) (by omega) (by have := HST1.out.lt; have := HWG.out; omega) ?_
                intro A4 d4 w4 hown4 hb4 hg4 hat4
                obtain ⟨g4, rfl, hg4B, hg4lt, hg4f, _⟩ := own_at hown4 (by intro e; have := congrArg List.length e; rw [List.length_append] at this; simp at this)
                have hrole4 : role1 g4 = m1 + 2 ∨ v1.heap.size ≤ g4 := by
                  rcases hat4 with e | e
                  · exact .inl (HFL1.out.2.1 g4 e.symm)
                  · have e2 : some g4 = some v1.heap.size := e
                    injection e2 with e2; exact .inr (by omega)
                have hch4 : ∀ b, b < v1.heap.size → role1 b ≠ m1 + 2 → w4.heap[b]? = v1.heap[b]? := fun b hb hr => hg4.block b hb (fun e => hr (HFL1.out.2.1 b e.symm))
                have hgg4 : g ≠ g4 := fun e => by
                  subst e
                  have h1 := HRG.out
                  have h2 := HST1.out.lt
                  rcases hrole4 with e | e <;> omega
                have hg84 : g8 ≠ g4 := fun e => by
                  subst e
                  have h1 := HR8.out
                  have h2 := (HKK.out _ HS.out).lt
                  rcases hrole4 with e | e <;> omega
                have hS4 : S w4 := HSB.out v1 w4 HS.out (hch4 g8 (HKK.out _ HS.out).lt (by rw [HR8.out]; omega))
                have HST4 := Lib.hid (HST1.out.same (hch4 g HST1.out.lt (by rw [HRG.out]; omega)))
                have HCH4 := Lib.hid hch4
                have HSZ4 := Lib.hid hg4.size
                have HOWN4 := Lib.hid hown4
                have HB4 := Lib.hid hb4
                have HG4LT := Lib.hid hg4lt
                clear HS hown4 hb4 hg4 hat4 hch4 hg4lt
                have HS := Lib.hid hS4; clear hS4
                refine hK.out _ _ HS.out ?_
                clear hK K
                (try simp only [Act.put, List.setIfInBounds_toArray, List.set_cons_zero, List.set_cons_succ])
                iterate 3
                  (refine wpOT_step (o := ?_) ?_ ?_; rotate_left 1; (simp only [List.getElem?_toArray, List.getElem?_cons_succ, List.getElem?_cons_zero]; with_reducible rfl))
                  (first
                      | (refine wpOT_skip (by rfl) ?_)
                      | (refine wpOT_take (v := ?_) (by rfl) ?_ ?_; rotate_left 1; (intro wx hSx; go_simp; try with_reducible rfl)))
                  (try simp only [Act.put, List.setIfInBounds_toArray, List.set_cons_zero, List.set_cons_succ])
                obtain ⟨own5, there5⟩ := own_fill HOWN4.out (tcs_length g2.ks) (ys := (trv x).toList) rfl
                refine wpOT_two ?_ ?_
                · (refine wpOT_solo (o := ?_) ?_ ?_; rotate_left 1; (simp only [List.getElem?_toArray, List.getElem?_cons_succ, List.getElem?_cons_zero]; with_reducible rfl))
                  intro K hK
                  rw [if_pos (by rfl)]
                  refine wp_store_mid 38 _ _ rfl g4 (g2.ks.length * 5) (trv x) rfl rfl there5 (tree_size _ _ _ _ _) (by simp [trv, Value.oneCell']) ?_
                  have hS5 : S (w4.setCells g4 (g2.ks.length * 5) (trv x).toList) := HSB.out w4 _ HS.out (setCells_other _ _ _ _ _ hg84)
                  have HST5 := Lib.hid (HST4.out.same (setCells_other w4 g4 (g2.ks.length * 5) (trv x).toList g hgg4))
                  have HOWN5 := Lib.hid own5
                  have HCH5 : Hid (∀ b, b < v1.heap.size → role1 b ≠ m1 + 2 → role1 b ≠ 1 → (w4.setCells g4 (g2.ks.length * 5) (trv x).toList).heap[b]? = v1.heap[b]?) := fun b hb h1 h2 => (setCells_other _ _ _ _ _ (fun e => by subst e; rcases hrole4 with e | e <;> omega)).trans (HCH4.out b hb h1)
                  have HSZ5 : Hid (v1.heap.size ≤ (w4.setCells g4 (g2.ks.length * 5) (trv x).toList).heap.size) := by rw [setCells_size]; exact HSZ4.out
                  have HG4Z : Hid (g4 < (w4.setCells g4 (g2.ks.length * 5) (trv x).toList).heap.size) := by rw [setCells_size]; exact HG4LT.out
                  have HB5 := Lib.hid (HB4.out.trans (setCells_below hg4B (g2.ks.length * 5) (trv x).toList))
                  clear HS own5 there5 HST4 HOWN4 HCH4 HB4
                  have HS := Lib.hid hS5; clear hS5
                  refine hK.out _ _ HS.out ?_
                  clear hK K
                  (try simp only [Act.put])
                  generalize w4.setCells g4 (g2.ks.length * 5) (trv x).toList = w5 at *
                  have k5 : w5.cell? ⟨g, m1 * 5 + 3, none⟩ = some (.slice g2.A g2.ks.length g2.c) := HST5.out.cell (by rw [HTOP.out]; rfl)
                  have f5 := HST5.out.free (m1 * 5 + 3)
                  (refine wpOT_solo (o := ?_) ?_ ?_; rotate_left 1; (simp only [List.getElem?_toArray, List.getElem?_cons_succ, List.getElem?_cons_zero]; with_reducible rfl))
                  intro K hK
                  go_simp
                  have hS6 : S (w5.setCell ⟨g, m1 * 5 + 3, none⟩ (.slice (some ⟨g4, 0, none⟩) (g2.ks.length + 1) d4)) := HSB.out w5 _ HS.out ((But.setCell w5 g _ _).block g8 (HKK.out _ HS.out).lt HG8.out)
                  have HSTz := Lib.hid (HST5.out.set (m1 * 5 + 3) (.slice (some ⟨g4, 0, none⟩) (g2.ks.length + 1) d4))
                  have HOWNz := Lib.hid (own_same (w' := w5.setCell ⟨g, m1 * 5 + 3, none⟩ (.slice (some ⟨g4, 0, none⟩) (g2.ks.length + 1) d4)) HOWN5.out (fun b hb e => (But.setCell w5 g _ _).block b hb (fun e2 => by subst e2; injection e with e; exact hgg4 e.symm)))
                  have HCHz : Hid (∀ b, b < v1.heap.size → role1 b ≠ m1 + 2 → role1 b ≠ 1 → (w5.setCell ⟨g, m1 * 5 + 3, none⟩ (.slice (some ⟨g4, 0, none⟩) (g2.ks.length + 1) d4)).heap[b]? = v1.heap[b]?) := fun b hb h1 h2 => ((But.setCell w5 g _ _).block b (Nat.lt_of_lt_of_le hb HSZ5.out) (fun e => by subst e; exact h2 HRG.out)).trans (HCH5.out b hb h1 h2)
                  have HSZ := Lib.hid (Nat.le_trans HSZ5.out (But.setCell w5 g (m1 * 5 + 3) (.slice (some ⟨g4, 0, none⟩) (g2.ks.length + 1) d4)).size)
                  have HG4Z := Lib.hid (Nat.lt_of_lt_of_le HG4Z.out (But.setCell w5 g (m1 * 5 + 3) (.slice (some ⟨g4, 0, none⟩) (g2.ks.length + 1) d4)).size)
                  have HBZ := Lib.hid (HB5.out.setCell (p := ⟨g, m1 * 5 + 3, none⟩) HST5.out.1 (.slice (some ⟨g4, 0, none⟩) (g2.ks.length + 1) d4))
                  have HGFz := Lib.hid ((HGFV.out _ HV1.out).below HBZ.out (Nat.lt_succ_self _))
                  have HWz := Lib.hid (HWV1.out.trans (HBZ.out.mono (Nat.le_succ _)))
                  refine hK.out _ _ hS6 ?_
                  clear hK K hS6 HS k5 f5 HST5 HOWN5 HCH5 HSZ5 HB5 HBZ HSZ4 HG4LT
                  (try simp only [Act.put])
                  refine wpOT_done ?_
                  have HZ := Lib.hid (read_close (n := n) (by omega) (by rw [HM.out]; omega) (by rw [HM.out]; exact HSTz.out) HFI1.out (by rw [HM.out]; exact HFL1.out) HRG.out HRN1.out HKG.out hfl HBT.out HRUN.out HGFz.out HWz.out HX11.out HX3.out HX21.out (by rw [HM.out]; exact hrole4) HG4Z.out hgg4 HSZ.out (by rw [HM.out]; exact HCHz.out) HOWNz.out)
                  rw [HM.out] at HZ
                  clear HSTz HFI1 HFL1 HX11 HX21 HOWNz HCHz HGFz HWz k3
                  go_wp2
                  go_roundw
                  case rel => exact HZ.out
                  case measure => simp [intOf]; omega
                · have k5 : w4.cell? ⟨g, m1 * 5 + 3, none⟩ = some (.slice g2.A g2.ks.length g2.c) := HST4.out.cell (by rw [HTOP.out]; rfl)
                  have f5 := HST4.out.free (m1 * 5 + 3)
                  (refine wpOT_solo (o := ?_) ?_ ?_; rotate_left 1; (simp only [List.getElem?_toArray, List.getElem?_cons_succ, List.getElem?_cons_zero]; with_reducible rfl))
                  intro K hK
                  go_simp
                  have hS5 : S (w4.setCell ⟨g, m1 * 5 + 3, none⟩ (.slice (some ⟨g4, 0, none⟩) (g2.ks.length + 1) d4)) := HSB.out w4 _ HS.out ((But.setCell w4 g _ _).block g8 (HKK.out _ HS.out).lt HG8.out)
                  have HST5 := Lib.hid (HST4.out.set (m1 * 5 + 3) (.slice (some ⟨g4, 0, none⟩) (g2.ks.length + 1) d4))
                  have HOWN5 := Lib.hid (own_same (w' := w4.setCell ⟨g, m1 * 5 + 3, none⟩ (.slice (some ⟨g4, 0, none⟩) (g2.ks.length + 1) d4)) HOWN4.out (fun b hb e => (But.setCell w4 g _ _).block b hb (fun e2 => by subst e2; injection e with e; exact hgg4 e.symm)))
                  have HCH5 : Hid (∀ b, b < v1.heap.size → role1 b ≠ m1 + 2 → role1 b ≠ 1 → (w4.setCell ⟨g, m1 * 5 + 3, none⟩ (.slice (some ⟨g4, 0, none⟩) (g2.ks.length + 1) d4)).heap[b]? = v1.heap[b]?) := fun b hb h1 h2 => ((But.setCell w4 g _ _).block b (Nat.lt_of_lt_of_le hb HSZ4.out) (fun e => by subst e; exact h2 HRG.out)).trans (HCH4.out b hb h1)
                  have HSZ5 := Lib.hid (Nat.le_trans HSZ4.out (But.setCell w4 g (m1 * 5 + 3) (.slice (some ⟨g4, 0, none⟩) (g2.ks.length + 1) d4)).size)
                  have HG4Z := Lib.hid (Nat.lt_of_lt_of_le HG4LT.out (But.setCell w4 g (m1 * 5 + 3) (.slice (some ⟨g4, 0, none⟩) (g2.ks.length + 1) d4)).size)
                  have HB5 := Lib.hid (HB4.out.setCell (p := ⟨g, m1 * 5 + 3, none⟩) HST4.out.1 (.slice (some ⟨g4, 0, none⟩) (g2.ks.length + 1) d4))
                  clear own5 there5 HST4 HOWN4 HCH4 HB4 HSZ4 HG4LT
                  refine hK.out _ _ hS5 ?_
                  clear hK K HS k5 f5
                  have HS := Lib.hid hS5; clear hS5
                  (try simp only [Act.put])
                  generalize w4.setCell ⟨g, m1 * 5 + 3, none⟩ (.slice (some ⟨g4, 0, none⟩) (g2.ks.length + 1) d4) = w5 at *
                  obtain ⟨own6, there6⟩ := own_fill HOWN5.out (tcs_length g2.ks) (ys := (trv x).toList) rfl
                  (refine wpOT_solo (o := ?_) ?_ ?_; rotate_left 1; (simp only [List.getElem?_toArray, List.getElem?_cons_succ, List.getElem?_cons_zero]; with_reducible rfl))
                  intro K hK
                  rw [if_pos (by rfl)]
                  refine wp_store_mid 38 _ _ rfl g4 (g2.ks.length * 5) (trv x) rfl rfl there6 (tree_size _ _ _ _ _) (by simp [trv, Value.oneCell']) ?_
                  have hS6 : S (w5.setCells g4 (g2.ks.length * 5) (trv x).toList) := HSB.out w5 _ HS.out (setCells_other _ _ _ _ _ hg84)
                  have HSTz := Lib.hid (HST5.out.same (setCells_other w5 g4 (g2.ks.length * 5) (trv x).toList g hgg4))
                  have HOWNz := Lib.hid own6
                  have HCHz : Hid (∀ b, b < v1.heap.size → role1 b ≠ m1 + 2 → role1 b ≠ 1 → (w5.setCells g4 (g2.ks.length * 5) (trv x).toList).heap[b]? = v1.heap[b]?) := fun b hb h1 h2 => (setCells_other _ _ _ _ _ (fun e => by subst e; rcases hrole4 with e | e <;> omega)).trans (HCH5.out b hb h1 h2)
                  have HSZ : Hid (v1.heap.size ≤ (w5.setCells g4 (g2.ks.length * 5) (trv x).toList).heap.size) := by rw [setCells_size]; exact HSZ5.out
                  have HG4Z : Hid (g4 < (w5.setCells g4 (g2.ks.length * 5) (trv x).toList).heap.size) := by rw [setCells_size]; exact HG4Z.out
                  have HBZ := Lib.hid (HB5.out.trans (setCells_below hg4B (g2.ks.length * 5) (trv x).toList))
                  have HGFz := Lib.hid ((HGFV.out _ HV1.out).below HBZ.out (Nat.lt_succ_self _))
                  have HWz := Lib.hid (HWV1.out.trans (HBZ.out.mono (Nat.le_succ _)))
                  refine hK.out _ _ hS6 ?_
                  clear hK K hS6 HS HST5 HOWN5 HCH5 HSZ5 HB5 HBZ own6 there6
                  (try simp only [Act.put])
                  refine wpOT_done ?_
                  have HZ := Lib.hid (read_close (n := n) (by omega) (by rw [HM.out]; omega) (by rw [HM.out]; exact HSTz.out) HFI1.out (by rw [HM.out]; exact HFL1.out) HRG.out HRN1.out HKG.out hfl HBT.out HRUN.out HGFz.out HWz.out HX11.out HX3.out HX21.out (by rw [HM.out]; exact hrole4) HG4Z.out hgg4 HSZ.out (by rw [HM.out]; exact HCHz.out) HOWNz.out)
                  rw [HM.out] at HZ
                  clear HSTz HFI1 HFL1 HX11 HX21 HOWNz HCHz HGFz HWz k3
                  go_wp2
                  go_roundw
                  case rel => exact HZ.out
                  case measure => simp [intOf]; omega
            · have hE : P = .error p := hts none (by
                have e1 : ¬ cl (er1 f).t.k = 93 := heq
                cases er gs.reverse with
                | nil => simp only [mstep, if_pos h0, if_pos hcz]
                | cons y r => simp only [mstep, if_pos h0, if_pos hcz, if_neg e1])
              subst hE
              have hcl := fun W => closer_any f.t.k W
              have hqn : (((cl f.t.k : Nat) : Int) != 93) = true := by simp; omega
              generalize cl f.t.k = q at *
              have HCL := Lib.hid hcl
              clear hts hcl h0 hcz heq HRN2 HBY2 HFI2 HFL2
              generalize f.t.k = kf at *
              go_quiet ((go_at_call 22; exact quiet_same (HCL.out _)))
              go_wp2_with fail
              refine (show Calls Try.prog 21 #[.agg #[.int .u8 93, .string s, .int .i64 p]] (v2.drewN nq) _ from fault9_any ⟨93, s, p⟩ (v2.drewN nq)).mono ?_
              rintro e wf ⟨rfl, hbf⟩
              have hgf := RowAt.below (w := (v2.drewN nq)) (w' := wf) HGF2.out hbf HGF2.out.lt
              have c0 := (hgf.cell 0).trans rfl
              have c1 := (hgf.cell 1).trans rfl
              have x0 := hgf.free 0
              have x1 := hgf.free 1
              have HBF : Hid (Below w.heap.size w wf) := ((bdrewN HWV2.out nq)).trans (hbf.mono ((bdrewN HWV2.out nq)).size)
              have HGFF := Lib.hid hgf
              clear hbf hgf
              go_wp2
              have hgf := (HGFF.out.put 0 (.int .i64 2)).put 1 (.int .i64 p)
              exact bodyPost_ret (ret_slot_cell rfl _ _ _ w.heap.size _ _ (0, 0) _ rfl rfl hgf Try.underlying27 rfl (fault_info _ _)) rfl ⟨(HBF.out.setCell (p := ⟨w.heap.size, 0, none⟩) (Nat.le_refl _) _).setCell (p := ⟨w.heap.size, 1, none⟩) (Nat.le_refl _) _, rfl⟩
          · rw [hcz] at h; cases h
      · rcases cl_cases k with ⟨rfl, _⟩ | ⟨rfl, _⟩ | ⟨rfl, _⟩ | ⟨_, _, _, h⟩
        · by_cases h24 : m = 24
          · have hE : P = .error p := hts none (by
                simp only [mstep, if_neg h0]
                rw [if_pos (by simp only [List.length_cons]; omega)])
            subst hE
            subst h24
            clear hts h0 HRN HBY
            go_wp2_with fail
            refine (show Calls Try.prog 21 #[.agg #[.int .u8 40, .string s, .int .i64 p]] v _ from fault9_any ⟨40, s, p⟩ v).mono ?_
            rintro e wf ⟨rfl, hbf⟩
            have hgf := RowAt.below (w := v) (w' := wf) HGF.out hbf HGF.out.lt
            have c0 := (hgf.cell 0).trans rfl
            have c1 := (hgf.cell 1).trans rfl
            have x0 := hgf.free 0
            have x1 := hgf.free 1
            have HBF : Hid (Below w.heap.size w wf) := (HWV.out).trans (hbf.mono (HWV.out).size)
            have HGFF := Lib.hid hgf
            clear hbf hgf
            go_wp2
            have hgf := (HGFF.out.put 0 (.int .i64 2)).put 1 (.int .i64 p)
            exact bodyPost_ret (ret_slot_cell rfl _ _ _ w.heap.size _ _ (0, 0) _ rfl rfl hgf Try.underlying27 rfl (fault_info _ _)) rfl ⟨(HBF.out.setCell (p := ⟨w.heap.size, 0, none⟩) (Nat.le_refl _) _).setCell (p := ⟨w.heap.size, 1, none⟩) (Nat.le_refl _) _, rfl⟩
          · have HRUN : Hid (mrun (l.drop (i + 1)) (.mk ⟨40, s, p⟩ none 0 [] 0 :: er1 f :: er gs.reverse) = P) := hts (some _) (by
                simp only [mstep, if_neg h0]
                rw [if_neg (by simp only [List.length_cons]; omega)])
            have e24 : ((m : Int) == 24) = false := by rw [beq_eq_false_iff_ne]; omega
            have HSV := Lib.hid (HST.out.same (w' := v.alloc (.cells #[.int .u8 40, .string s, .int .i64 p, .slice none 0 0, .int .i64 0] 38)) (heap_alloc_old v _ HST.out.lt))
            have HNW : Hid (∀ j u, ([.int .u8 40, .string s, .int .i64 p, .slice none 0 0, .int .i64 0] : List Value)[j]? = some u → (v.alloc (.cells #[.int .u8 40, .string s, .int .i64 p, .slice none 0 0, .int .i64 0] 38)).cell? ⟨v.heap.size, j, none⟩ = some u) := fun j u hu => by
              rw [World.cell?_alloc_at _ _ _ _ rfl]
              simpa using hu
            have hle : w.heap.size + 1 ≤ v.heap.size := by have := HGF.out.lt; omega
            clear hts h0 HBY
            go_wp2_with (first | (at_builtin; refine wpList_push rfl _ _ 25 rfl (.agg #[.int .u8 0, .string ⟨#[]⟩, .int .i64 0, .slice none 0 0, .int .i64 0]) Try.underlying25 infoTree rfl (w.heap.size + 1) g (m + 1) d (tcs (gs ++ [f])) rfl HSV.out v.heap.size [.int .u8 40, .string s, .int .i64 p, .slice none 0 0, .int .i64 0] rfl rfl HNW.out (by simp [Value.oneCell']) (by omega) (by rw [World.size_alloc]; omega) ?_))
            intro g2 d2 w4 hst4 hg4 hbut hb4
            have HZ := Lib.hid (read_open (t := ⟨40, s, p⟩) (n := n) (v := v) (wz := w4) (d2 := d2) (g := g) (g2 := g2) (by omega) (by rw [HM.out]; omega) (by rw [HM.out]; exact hst4) HFI.out (by rw [HM.out]; exact HFL.out) HRG.out HRN.out HKG.out hfl HBT.out HRUN.out ((HGF.out.alloc _).below hb4 (Nat.lt_succ_self _)) ((HWV.out.alloc HWV.out.size _).trans (hb4.mono (Nat.le_succ _))) (hg4.imp id (fun h => Nat.le_of_succ_le h)) ((But.below g ((Below.refl _ _).alloc (Nat.le_refl _) _)).trans hbut))
            rw [HM.out] at HZ
            clear hst4 hg4 hbut hb4 HSV HNW
            go_wp2
            go_roundw
            case rel => exact HZ.out
            case measure => simp [intOf]; omega
        · by_cases h24 : m = 24
          · have hE : P = .error p := hts none (by
                simp only [mstep, if_neg h0]
                rw [if_pos (by simp only [List.length_cons]; omega)])
            subst hE
            subst h24
            clear hts h0 HRN HBY
            go_wp2_with fail
            refine (show Calls Try.prog 21 #[.agg #[.int .u8 123, .string s, .int .i64 p]] v _ from fault9_any ⟨123, s, p⟩ v).mono ?_
            rintro e wf ⟨rfl, hbf⟩
            have hgf := RowAt.below (w := v) (w' := wf) HGF.out hbf HGF.out.lt
            have c0 := (hgf.cell 0).trans rfl
            have c1 := (hgf.cell 1).trans rfl
            have x0 := hgf.free 0
            have x1 := hgf.free 1
            have HBF : Hid (Below w.heap.size w wf) := (HWV.out).trans (hbf.mono (HWV.out).size)
            have HGFF := Lib.hid hgf
            clear hbf hgf
            go_wp2
            have hgf := (HGFF.out.put 0 (.int .i64 2)).put 1 (.int .i64 p)
            exact bodyPost_ret (ret_slot_cell rfl _ _ _ w.heap.size _ _ (0, 0) _ rfl rfl hgf Try.underlying27 rfl (fault_info _ _)) rfl ⟨(HBF.out.setCell (p := ⟨w.heap.size, 0, none⟩) (Nat.le_refl _) _).setCell (p := ⟨w.heap.size, 1, none⟩) (Nat.le_refl _) _, rfl⟩
          · have HRUN : Hid (mrun (l.drop (i + 1)) (.mk ⟨123, s, p⟩ none 0 [] 0 :: er1 f :: er gs.reverse) = P) := hts (some _) (by
                simp only [mstep, if_neg h0]
                rw [if_neg (by simp only [List.length_cons]; omega)])
            have e24 : ((m : Int) == 24) = false := by rw [beq_eq_false_iff_ne]; omega
            have HSV := Lib.hid (HST.out.same (w' := v.alloc (.cells #[.int .u8 123, .string s, .int .i64 p, .slice none 0 0, .int .i64 0] 38)) (heap_alloc_old v _ HST.out.lt))
            have HNW : Hid (∀ j u, ([.int .u8 123, .string s, .int .i64 p, .slice none 0 0, .int .i64 0] : List Value)[j]? = some u → (v.alloc (.cells #[.int .u8 123, .string s, .int .i64 p, .slice none 0 0, .int .i64 0] 38)).cell? ⟨v.heap.size, j, none⟩ = some u) := fun j u hu => by
              rw [World.cell?_alloc_at _ _ _ _ rfl]
              simpa using hu
            have hle : w.heap.size + 1 ≤ v.heap.size := by have := HGF.out.lt; omega
            clear hts h0 HBY
            go_wp2_with (first | (at_builtin; refine wpList_push rfl _ _ 25 rfl (.agg #[.int .u8 0, .string ⟨#[]⟩, .int .i64 0, .slice none 0 0, .int .i64 0]) Try.underlying25 infoTree rfl (w.heap.size + 1) g (m + 1) d (tcs (gs ++ [f])) rfl HSV.out v.heap.size [.int .u8 123, .string s, .int .i64 p, .slice none 0 0, .int .i64 0] rfl rfl HNW.out (by simp [Value.oneCell']) (by omega) (by rw [World.size_alloc]; omega) ?_))
            intro g2 d2 w4 hst4 hg4 hbut hb4
            have HZ := Lib.hid (read_open (t := ⟨123, s, p⟩) (n := n) (v := v) (wz := w4) (d2 := d2) (g := g) (g2 := g2) (by omega) (by rw [HM.out]; omega) (by rw [HM.out]; exact hst4) HFI.out (by rw [HM.out]; exact HFL.out) HRG.out HRN.out HKG.out hfl HBT.out HRUN.out ((HGF.out.alloc _).below hb4 (Nat.lt_succ_self _)) ((HWV.out.alloc HWV.out.size _).trans (hb4.mono (Nat.le_succ _))) (hg4.imp id (fun h => Nat.le_of_succ_le h)) ((But.below g ((Below.refl _ _).alloc (Nat.le_refl _) _)).trans hbut))
            rw [HM.out] at HZ
            clear hst4 hg4 hbut hb4 HSV HNW
            go_wp2
            go_roundw
            case rel => exact HZ.out
            case measure => simp [intOf]; omega
        · by_cases h24 : m = 24
          · have hE : P = .error p := hts none (by
                simp only [mstep, if_neg h0]
                rw [if_pos (by simp only [List.length_cons]; omega)])
            subst hE
            subst h24
            clear hts h0 HRN HBY
            go_wp2_with fail
            refine (show Calls Try.prog 21 #[.agg #[.int .u8 91, .string s, .int .i64 p]] v _ from fault9_any ⟨91, s, p⟩ v).mono ?_
            rintro e wf ⟨rfl, hbf⟩
            have hgf := RowAt.below (w := v) (w' := wf) HGF.out hbf HGF.out.lt
            have c0 := (hgf.cell 0).trans rfl
            have c1 := (hgf.cell 1).trans rfl
            have x0 := hgf.free 0
            have x1 := hgf.free 1
            have HBF : Hid (Below w.heap.size w wf) := (HWV.out).trans (hbf.mono (HWV.out).size)
            have HGFF := Lib.hid hgf
            clear hbf hgf
            go_wp2
            have hgf := (HGFF.out.put 0 (.int .i64 2)).put 1 (.int .i64 p)
            exact bodyPost_ret (ret_slot_cell rfl _ _ _ w.heap.size _ _ (0, 0) _ rfl rfl hgf Try.underlying27 rfl (fault_info _ _)) rfl ⟨(HBF.out.setCell (p := ⟨w.heap.size, 0, none⟩) (Nat.le_refl _) _).setCell (p := ⟨w.heap.size, 1, none⟩) (Nat.le_refl _) _, rfl⟩
          · have HRUN : Hid (mrun (l.drop (i + 1)) (.mk ⟨91, s, p⟩ none 0 [] 0 :: er1 f :: er gs.reverse) = P) := hts (some _) (by
                simp only [mstep, if_neg h0]
                rw [if_neg (by simp only [List.length_cons]; omega)])
            have e24 : ((m : Int) == 24) = false := by rw [beq_eq_false_iff_ne]; omega
            have HSV := Lib.hid (HST.out.same (w' := v.alloc (.cells #[.int .u8 91, .string s, .int .i64 p, .slice none 0 0, .int .i64 0] 38)) (heap_alloc_old v _ HST.out.lt))
            have HNW : Hid (∀ j u, ([.int .u8 91, .string s, .int .i64 p, .slice none 0 0, .int .i64 0] : List Value)[j]? = some u → (v.alloc (.cells #[.int .u8 91, .string s, .int .i64 p, .slice none 0 0, .int .i64 0] 38)).cell? ⟨v.heap.size, j, none⟩ = some u) := fun j u hu => by
              rw [World.cell?_alloc_at _ _ _ _ rfl]
              simpa using hu
            have hle : w.heap.size + 1 ≤ v.heap.size := by have := HGF.out.lt; omega
            clear hts h0 HBY
            go_wp2_with (first | (at_builtin; refine wpList_push rfl _ _ 25 rfl (.agg #[.int .u8 0, .string ⟨#[]⟩, .int .i64 0, .slice none 0 0, .int .i64 0]) Try.underlying25 infoTree rfl (w.heap.size + 1) g (m + 1) d (tcs (gs ++ [f])) rfl HSV.out v.heap.size [.int .u8 91, .string s, .int .i64 p, .slice none 0 0, .int .i64 0] rfl rfl HNW.out (by simp [Value.oneCell']) (by omega) (by rw [World.size_alloc]; omega) ?_))
            intro g2 d2 w4 hst4 hg4 hbut hb4
            have HZ := Lib.hid (read_open (t := ⟨91, s, p⟩) (n := n) (v := v) (wz := w4) (d2 := d2) (g := g) (g2 := g2) (by omega) (by rw [HM.out]; omega) (by rw [HM.out]; exact hst4) HFI.out (by rw [HM.out]; exact HFL.out) HRG.out HRN.out HKG.out hfl HBT.out HRUN.out ((HGF.out.alloc _).below hb4 (Nat.lt_succ_self _)) ((HWV.out.alloc HWV.out.size _).trans (hb4.mono (Nat.le_succ _))) (hg4.imp id (fun h => Nat.le_of_succ_le h)) ((But.below g ((Below.refl _ _).alloc (Nat.le_refl _) _)).trans hbut))
            rw [HM.out] at HZ
            clear hst4 hg4 hbut hb4 HSV HNW
            go_wp2
            go_roundw
            case rel => exact HZ.out
            case measure => simp [intOf]; omega
        · exact absurd h h0
    · rw [HDN.out i hlt] at hrun
      obtain rfl : i = n := by omega
      have s0 : wr.cell? ⟨g, m * 5, none⟩ = some (.int .u8 (f.t.k : Int)) := HST0.out.cell (by have := HTOP.out 0; rw [Nat.add_zero] at this; rw [this]; rfl)
      have s1 : wr.cell? ⟨g, m * 5 + 1, none⟩ = some (.string f.t.s) := HST0.out.cell (by rw [HTOP.out]; rfl)
      have s2 : wr.cell? ⟨g, m * 5 + 2, none⟩ = some (.int .i64 f.t.p) := HST0.out.cell (by rw [HTOP.out]; rfl)
      have s3 : wr.cell? ⟨g, m * 5 + 3, none⟩ = some (.slice f.A f.ks.length f.c) := HST0.out.cell (by rw [HTOP.out]; rfl)
      have hz1 : IntKind.i64.wrap ((m : Int) + 1 - 1) = (m : Int) := by rw [IntKind.wrap_i64] <;> omega
      by_cases hm0 : m = 0
      · subst hm0
        have hgs : gs = [] := List.eq_nil_of_length_eq_zero HM.out
        subst hgs
        have hE : P = .ok (er f.ks) := by rw [← hrun]; simp [er, mrun, er1, Tr.ks]
        subst hE
        rw [Nat.zero_mul, Nat.zero_add] at s3
        have c0 := (HGF0.out.cell 0).trans rfl
        have c1 := (HGF0.out.cell 1).trans rfl
        have x0 := HGF0.out.free 0
        have x1 := HGF0.out.free 1
        have hgw : w.heap.size < w.heap.size + 1 := Nat.lt_succ_self _
        have HOWN := Lib.hid (own_cell (own_cell HFL0.out.1 (p := ⟨w.heap.size, 0, none⟩) hgw (.int .i64 0)) (p := ⟨w.heap.size, 1, none⟩) hgw (.int .i64 0))
        have HDP : Hid (Deep ((wr.setCell ⟨w.heap.size, 0, none⟩ (.int .i64 0)).setCell ⟨w.heap.size, 1, none⟩ (.int .i64 0)) (fun b => w.heap.size + 1 ≤ b ∧ role b = 0) f.ks) :=
          (HFL0.out.2.2.keep (But.setCell wr w.heap.size 0 (.int .i64 0)).size (fun b hb hk => (But.setCell wr w.heap.size 0 (.int .i64 0)).block b hb (by omega)) (fun _ _ h => h)).keep (But.setCell _ w.heap.size 1 (.int .i64 0)).size (fun b hb hk => (But.setCell _ w.heap.size 1 (.int .i64 0)).block b hb (by omega)) (fun _ _ h => h)
        clear hrun s0 s1 s2 hz1
        go_wp2
        have hgf := (HGF0.out.put 0 (.int .i64 0)).put 1 (.int .i64 0)
        exact bodyPost_ret (ret_slot_cell rfl _ _ _ w.heap.size _ _ (0, 0) _ rfl rfl hgf Try.underlying27 rfl (fault_info _ _)) rfl
          ⟨(HW.out.setCell (p := ⟨w.heap.size, 0, none⟩) (Nat.le_refl _) _).setCell (p := ⟨w.heap.size, 1, none⟩) (Nat.le_refl _) _, f.A, f.c, f.ks, rfl, rfl, own_cap_le HOWN.out, HDP.out.trs (Sl.of_own HOWN.out)⟩
      · have hE : P = .error f.t.p := by
          cases gs with
          | nil => exact absurd HM.out.symm hm0
          | cons y r =>
            obtain ⟨z, q, hzq⟩ : ∃ z q, er (y :: r).reverse = z :: q := by
              cases h : er (y :: r).reverse with
              | nil => rw [h] at hel; simp only [List.length_nil] at hel; exact absurd hel.symm hm0
              | cons z q => exact ⟨z, q, rfl⟩
            rw [hzq] at hrun
            exact hrun.symm
        have hgt : 0 < m := by omega
        have HGF := HGF0
        clear hrun hm0 HGF0 HFI0 HFL0 HRN0 hel
        generalize f.t.k = kf at *
        generalize f.t.s = sf at *
        generalize f.t.p = pf at *
        subst hE
        go_wp2_with fail
        refine (show Calls Try.prog 21 #[.agg #[.int .u8 kf, .string sf, .int .i64 pf]] wr _ from fault9_any ⟨kf, sf, pf⟩ wr).mono ?_
        rintro e wf ⟨rfl, hbf⟩
        have hgf := RowAt.below (w := wr) (w' := wf) HGF.out hbf HGF.out.lt
        have c0 := (hgf.cell 0).trans rfl
        have c1 := (hgf.cell 1).trans rfl
        have x0 := hgf.free 0
        have x1 := hgf.free 1
        have HBF : Hid (Below w.heap.size w wf) := (HW.out).trans (hbf.mono (HW.out).size)
        have HGFF := Lib.hid hgf
        clear hbf hgf
        go_wp2
        have hgf := (HGFF.out.put 0 (.int .i64 2)).put 1 (.int .i64 pf)
        exact bodyPost_ret (ret_slot_cell rfl _ _ _ w.heap.size _ _ (0, 0) _ rfl rfl hgf Try.underlying27 rfl (fault_info _ _)) rfl ⟨(HBF.out.setCell (p := ⟨w.heap.size, 0, none⟩) (Nat.le_refl _) _).setCell (p := ⟨w.heap.size, 1, none⟩) (Nat.le_refl _) _, rfl⟩
end Go.Proofs.Ytnaaejemanmgnaa
