/-
  The document's Depth and Flat, by recursion. Conditions: fewer than 2^15 trees.
-/
import Derived.Test.YtapnefhmonpgdaaTreP
import Derived.Lib.SlBytesRow
set_option linter.unusedSimpArgs false
set_option linter.unusedVariables false
namespace Go.Proofs.Ytapnefhmonpgdaa
open Go.RowKit LX TR

set_option maxRecDepth 8000 in
theorem chr_byte (k : Nat) (hk : k < 256) : (chr k).size = 1 ∧ ∀ h : 0 < (chr k).size, ((chr k)[0].toNat : Int) = k := by
  refine ⟨rfl, fun _ => ?_⟩
  show ((k.toUInt8).toNat : Int) = k
  rw [Nat.toUInt8, UInt8.toNat_ofNat']
  omega
set_option maxRecDepth 8000 in
theorem chr_conv (k : Nat) (hk : k < 256) (w : World) (b : Nat) (h : w.cell? ⟨b, 0, none⟩ = some (.int .u8 (k : Int))) :
    (convert 72 9 (.slice (some ⟨b, 0, none⟩) 1 1)).run Try.prog w = .ok (.string (chr k)) w := by
  refine Lib.run_convert_whole w _ _ _ Try.underlying72 Try.underlying5 Try.underlying9 b 0 (chr k) (fun i hi => ?_) 1
  have hi0 : i = 0 := by have := (chr_byte k hk).1; omega
  subst hi0
  rw [h]
  have := (chr_byte k hk).2 hi
  rw [this]
set_option maxRecDepth 8000 in
theorem chr_rune (k : Nat) (hk : k < 128) : Utf8.encode (k : Int) = chr k := by
  have h : ∀ k : Fin 128, Utf8.encode (k.val : Int) = chr k.val := by decide
  exact h ⟨k, hk⟩
set_option maxRecDepth 8000 in
theorem flat_length : ∀ l : List Tr, (flat l).length ≤ 2 * (nodes l).length := by
  refine ind (by simp [flat, evs]) fun t A c ks e r h1 h2 => ?_
  rw [flat_cons, nodes]
  by_cases h : cl (Tr.mk t A c ks e).t.k = 0
  · rw [if_pos h]
    simp only [List.length_cons, List.length_append]; omega
  · rw [if_neg h]
    have h1' : (flat (Tr.mk t A c ks e).ks).length ≤ 2 * (nodes ks).length := h1
    simp only [List.length_cons, List.length_append]; omega
set_option maxRecDepth 8000 in
theorem chr_cl (k : Nat) : cl k < 128 := by have := cl_cases k; omega

set_option maxRecDepth 8000 in
set_option maxHeartbeats 1600000 in
theorem refFlat_any : ∀ (N : Nat) (l : List Tr) (A : Option Addr) (c : Nat) (w : World), (nodes l).length ≤ N → N ≤ 32768 → Trs w w.heap.size A l →
    Calls Try.prog 30 #[.slice A l.length c] w fun e w' => (∃ A' c', e = .returned (.slice A' (flat l).length c') ∧ w'.ownsRow w.heap.size 55 3 (.slice A' (flat l).length c') (flat l).length (tkcells (flat l))) ∧ Below w.heap.size w w' := by
  intro N
  induction N with
  | zero =>
    intro l A c w hl _ _
    obtain rfl : l = [] := List.eq_nil_of_length_eq_zero (by have := length_nodes l; omega)
    have hf : flat [] = [] := by simp [flat, evs]
    rw [hf]
    simp only [List.length_nil]
    go_enter Try.func30, Try.ntmps30
    go_wp2
    go_loop [3, 4, 5] (fun nv iv _ => nv = .slice none 0 0 ∧ iv = .int .i64 0) (fun _ _ _ => 0)
    case atStart => exact ⟨rfl, rfl⟩
    case round =>
      obtain ⟨rfl, rfl⟩ := hrel
      go_wp2
      go_ret
      exact ⟨⟨none, 0, rfl, World.ownsRow_nil _ _ _ _⟩, Below.refl _ _⟩
  | succ N ih =>
    intro l A c w hl hN hA
    have IH := Lib.hid ih; clear ih
    have hln := length_nodes l
    have HA := Lib.hid hA; clear hA
    have HDR : Hid (∀ i, i < l.length → l.drop i = l.getD i r0 :: l.drop (i + 1)) := fun i => drop_cons
    have HND : Hid (∀ i, i < l.length → (nodes (l.getD i r0).ks).length ≤ N) := fun i hi => by
      have := nodes_kid (getD_mem hi)
      omega
    have HKS := Lib.hid (fun i (hi : i < l.length) => HA.out.kidAt hi)
    have hfl := flat_length l
    have HD0 : Hid ([] ++ flat (l.drop 0) = flat l) := by rw [List.drop_zero]; exact List.nil_append _
    have HDE : Hid (∀ i, ¬ i < l.length → flat (l.drop i) = []) := fun i hi => by rw [List.drop_eq_nil_of_le (by omega)]; simp [flat, evs]
    generalize hT : flat l = F at *
    generalize hn : l.length = n at *
    have HN := Lib.hid hn; clear hn hT
    go_enter Try.func30, Try.ntmps30
    go_wp2
    go_loopw [3, 4, 5] (fun bv iv _ wr => ∃ (i : Nat) (acc : List Tk) (X : Option Addr) (d : Nat), i ≤ n ∧ acc.length ≤ F.length ∧ bv = .slice X acc.length d ∧ iv = .int .i64 i ∧ Hid (wr.ownsRow w.heap.size 55 3 (.slice X acc.length d) acc.length (tkcells acc)) ∧ Hid (acc ++ flat (l.drop i) = F) ∧ Hid (Below w.heap.size w wr)) (fun _ iv _ _ => n - (intOf iv).toNat)
    case atStart => exact ⟨0, [], none, 0, by omega, by simp, rfl, rfl, World.ownsRow_nil _ _ _ _, HD0.out, Below.refl _ _⟩
    case round =>
      obtain ⟨i, acc, X, d, hi, hacc, rfl, rfl, HO, HI, HW⟩ := hrel
      by_cases hlt : i < n
      · obtain ⟨b, o, rfl, hbw, hc⟩ := (HA.out.below HW.out).at (k := i) (by rw [HN.out]; exact hlt)
        obtain ⟨hc0, hc1, hc2, hc3, hc4⟩ := hc i (by rw [HN.out]; exact hlt)
        clear hc
        have hdr := HDR.out i hlt
        have HI2 := HI.out
        rw [hdr, flat_cons] at HI2
        replace HI2 := Lib.hid HI2
        have HC : Hid (∀ W, Below w.heap.size w W → Calls Try.prog 30 #[.slice (l.getD i r0).A (l.getD i r0).ks.length (l.getD i r0).c] W fun e w' => (∃ A' c', e = .returned (.slice A' (flat (l.getD i r0).ks).length c') ∧ w'.ownsRow W.heap.size 55 3 (.slice A' (flat (l.getD i r0).ks).length c') (flat (l.getD i r0).ks).length (tkcells (flat (l.getD i r0).ks))) ∧ Below W.heap.size W w') :=
          fun W hb => IH.out _ _ _ W (HND.out i hlt) (by omega) (((HKS.out i hlt).below hb).mono hb.size)
        have hfk := flat_length (l.getD i r0).ks
        have hnk := HND.out i hlt
        clear hdr
        generalize (l.getD i r0).A = A1 at *
        generalize (l.getD i r0).c = c1 at *
        generalize hkk : (l.getD i r0).t = tt at *
        generalize (l.getD i r0).e = ee at *
        generalize (l.getD i r0).ks = ks at *
        generalize ks.length = k1 at *
        obtain ⟨k, s, p⟩ := tt
        clear hkk
        have HNEW := Lib.hid (RowAt.new wr 55 #[.int .u8 (k : Int), .string s, .int .i64 p])
        have HBN := Lib.hid ((Below.refl wr.heap.size wr).alloc (Nat.le_refl _) (.cells #[.int .u8 (k : Int), .string s, .int .i64 p] 55))
        go_wp2_with (at_builtin; refine wpList_more _ rfl _ _ 43 rfl 55 (.agg #[.int .u8 0, .string ⟨#[]⟩, .int .i64 0]) 3 32 Try.underlying43 infoTok rfl (by decide) (by decide) w.heap.size X acc.length d (tkcells acc) rfl (own_below HO.out HBN.out (Nat.le_refl _)) wr.heap.size 1 1 [.int .u8 (k : Int), .string s, .int .i64 p] rfl rfl (by decide) ?c0 ?c1 ?c2 ?c3 ?_)
        case c1 => simp [Value.oneCell']
        case c2 => omega
        case c3 => have := HW.out.size; omega
        intro X1 d1 w1 hown1 hb1 _
        have hO1 : w1.ownsRow w.heap.size 55 3 (.slice X1 (acc ++ [(⟨k, s, p⟩ : Tk)]).length d1) (acc ++ [(⟨k, s, p⟩ : Tk)]).length (tkcells (acc ++ [(⟨k, s, p⟩ : Tk)])) := by
          rw [tkcells_append, tkcells_one, List.length_append]
          exact hown1
        have hl1 : acc.length + 1 = (acc ++ [(⟨k, s, p⟩ : Tk)]).length := by simp
        rw [hl1]
        have HO1 := Lib.hid hO1
        have HW1 : Hid (Below w.heap.size w w1) := HW.out.trans ((HBN.out.mono HW.out.size).trans hb1)
        clear hown1 hb1 hO1 hc1 hc2 HNEW HBN HO
        replace hc0 := ((HW1.out.cell (p := ⟨b, o + i * 5, none⟩) hbw).trans ((HW.out.cell (p := ⟨b, o + i * 5, none⟩) hbw).symm.trans hc0))
        replace hc3 := ((HW1.out.cell (p := ⟨b, o + i * 5 + 3, none⟩) hbw).trans ((HW.out.cell (p := ⟨b, o + i * 5 + 3, none⟩) hbw).symm.trans hc3))
        replace hc4 := ((HW1.out.cell (p := ⟨b, o + i * 5 + 4, none⟩) hbw).trans ((HW.out.cell (p := ⟨b, o + i * 5 + 4, none⟩) hbw).symm.trans hc4))
        have hcl := closing_any k w1
        by_cases h0 : cl k = 0
        · have hI3 := HI2.out
          rw [if_pos h0] at hI3
          rw [h0] at hcl
          have HCL := Lib.hid hcl; clear hcl HI2
          have HI3 : Hid ((acc ++ [(⟨k, s, p⟩ : Tk)]) ++ flat (l.drop (i + 1)) = F) := by rw [List.append_assoc]; exact hI3
          clear hI3 hl1
          have hln3 := congrArg List.length HI3.out
          rw [List.length_append] at hln3
          generalize acc ++ [(⟨k, s, p⟩ : Tk)] = acc1 at *
          go_wp2_with (go_at_call 62; refine HCL.out.mono ?_; rintro e w' ⟨rfl, rfl⟩)
          go_roundw
          case rel => exact ⟨i + 1, acc1, X1, d1, by omega, by omega, rfl, by go_num, HO1, HI3, HW1⟩
          case measure => simp [intOf]; omega
        · have hI3 := HI2.out
          rw [if_neg h0] at hI3
          have hne : (((cl k : Nat) : Int) != 0) = true := by simp; omega
          have hck := chr_cl k
          have HCL := Lib.hid hcl; clear hcl HI2
          have HI3 : Hid (((acc ++ [(⟨k, s, p⟩ : Tk)]) ++ flat ks) ++ [⟨cl k, chr (cl k), ee⟩] ++ flat (l.drop (i + 1)) = F) := by
            show _ = F
            rw [← hI3]; simp
          clear hI3 hl1
          have hln3 := congrArg List.length HI3.out
          simp only [List.length_append, List.length_singleton] at hln3
          have hln4 : (acc ++ [(⟨k, s, p⟩ : Tk)]).length ≤ acc.length + 1 := by simp
          generalize acc ++ [(⟨k, s, p⟩ : Tk)] = acc1 at *
          generalize cl k = q at *
          clear h0
          go_wp2_with (go_at_call 62; refine HCL.out.mono ?_; rintro e w' ⟨rfl, rfl⟩)
          refine (HC.out _ HW1.out).mono ?_
          rintro e w2 ⟨⟨X2, d2, rfl, hown2⟩, hb2⟩
          have HSL := Lib.hid (Sl.of_own hown2)
          have HO2 := Lib.hid (own_below HO1.out hb2 (Nat.le_refl _))
          have HW2 := Lib.hid (HW1.out.trans (hb2.mono HW1.out.size))
          replace hc4 := ((hb2.cell (p := ⟨b, o + i * 5 + 4, none⟩) (by have := HW1.out.size; show b < _; omega)).trans hc4)
          clear hown2 hb2 hc0 hc3 HO1 HC
          generalize hFK : flat ks = fk at *
          clear hFK
          go_wp2_with (at_builtin; refine wpList_cat rfl _ _ 43 rfl 55 (.agg #[.int .u8 0, .string ⟨#[]⟩, .int .i64 0]) 3 32 Try.underlying43 infoTok rfl (by decide) (by decide) w.heap.size X1 acc1.length d1 (tkcells acc1) rfl HO2.out _ X2 fk.length d2 (tkcells fk) rfl (tkcells_length _) (by omega) HSL.out (tk_one _) (by omega) HW2.out.size ?_)
          intro X3 d3 w3 hown3 hb3 _
          have hO3 : w3.ownsRow w.heap.size 55 3 (.slice X3 (acc1 ++ fk).length d3) (acc1 ++ fk).length (tkcells (acc1 ++ fk)) := by
            rw [tkcells_append, List.length_append]
            exact hown3
          have hl3 : acc1.length + fk.length = (acc1 ++ fk).length := by simp
          rw [hl3]
          have HO3 := Lib.hid hO3
          have HW3 := Lib.hid (HW2.out.trans hb3)
          replace hc4 := ((hb3.cell (p := ⟨b, o + i * 5 + 4, none⟩) hbw).trans hc4)
          clear hown3 hb3 hO3 HO2 HSL hl3
          have hln5 : (acc1 ++ fk).length ≤ acc1.length + fk.length := by simp
          generalize acc1 ++ fk = acc3 at *
          go_upto_region 9 with fail
          obtain ⟨S, HS, HKK, keep, hKP⟩ := ex_cell w.heap.size ⟨b, o + i * 5 + 4, none⟩ (.int .i64 ee) w3 hbw hc4
          have keepS := keep.out HW3.out.size
          clear keep
          have C4 : ∀ w', S w' → w'.cell? ⟨b, o + i * 5 + 4, none⟩ = some (.int .i64 ee) := HKK.out
          refine wp_region_ord S [(0, true), (1, true), (2, true), (5, true), (6, true), (7, true), (8, true), (9, true), (3, false), (4, false), (10, true), (11, false), (12, false), (13, true)] (by kernel_rfl) (by kernel_rfl) rfl (by kernel_rfl) HS.out ?_
          iterate 8
            (refine wpOrd_step (o := ?_) ?_ ?_; rotate_left 1; (simp only [List.getElem?_toArray, List.getElem?_cons_succ, List.getElem?_cons_zero]; with_reducible rfl))
            (first
                | (refine wpOrd_skip (by rfl) ?_)
                | (refine wpOrd_take (v := ?_) (by rfl) ?_ ?_; rotate_left 1; (intro wx hSx; have hc_0 := C4 wx hSx; go_simp; try with_reducible rfl)))
            (try simp only [Act.put, List.setIfInBounds_toArray, List.set_cons_zero, List.set_cons_succ])
          (refine wpOrd_solo (o := ?_) ?_ ?_; rotate_left 1; (simp only [List.getElem?_toArray, List.getElem?_cons_succ, List.getElem?_cons_zero]; with_reducible rfl))
          intro K hK
          go_simp
          have hS : S (w3.alloc (.cells #[.int .u8 (q : Int)] 5)).drew := keepS _ _ HS.out ((Below.refl _ _).alloc (Nat.le_refl _) (.cells #[.int .u8 (q : Int)] 5))
          have hcv : (convert 72 9 (.slice (some ⟨w3.heap.size, 0, none⟩) 1 1)).run Try.prog (w3.alloc (.cells #[.int .u8 (q : Int)] 5)).drew = .ok (.string (chr q)) (w3.alloc (.cells #[.int .u8 (q : Int)] 5)).drew := chr_conv q (by omega) _ w3.drew.heap.size ((RowAt.new _ _ _).cell 0)
          have HBV1 : Hid (Below w3.heap.size w3 (w3.alloc (.cells #[.int .u8 (q : Int)] 5)).drew) := ((Below.refl _ _).alloc (Nat.le_refl _) _).drew
          clear HS
          have HS := Lib.hid hS; clear hS
          refine hK.out _ _ HS.out ?_
          clear hK K
          (try simp only [Act.put, List.setIfInBounds_toArray, List.set_cons_zero, List.set_cons_succ])
          generalize (w3.alloc (.cells #[.int .u8 (q : Int)] 5)).drew = v1 at *
          (refine wpOrd_solo (o := ?_) ?_ ?_; rotate_left 1; (simp only [List.getElem?_toArray, List.getElem?_cons_succ, List.getElem?_cons_zero]; with_reducible rfl))
          intro K hK
          go_simp
          refine hK.out _ _ HS.out ?_
          clear hK K hcv
          (try simp only [Act.put, List.setIfInBounds_toArray, List.set_cons_zero, List.set_cons_succ])
          iterate 1
            (refine wpOrd_step (o := ?_) ?_ ?_; rotate_left 1; (simp only [List.getElem?_toArray, List.getElem?_cons_succ, List.getElem?_cons_zero]; with_reducible rfl))
            (first
                | (refine wpOrd_skip (by rfl) ?_)
                | (refine wpOrd_take (v := ?_) (by rfl) ?_ ?_; rotate_left 1; (intro wx hSx; have hc_0 := C4 wx hSx; go_simp; try with_reducible rfl)))
            (try simp only [Act.put, List.setIfInBounds_toArray, List.set_cons_zero, List.set_cons_succ])
          (refine wpOrd_solo (o := ?_) ?_ ?_; rotate_left 1; (simp only [List.getElem?_toArray, List.getElem?_cons_succ, List.getElem?_cons_zero]; with_reducible rfl))
          intro K hK
          go_simp
          have hS := keepS _ _ HS.out ((Below.refl _ _).alloc (Nat.le_refl _) (.cells #[.int .u8 (q : Int), .string (chr q), .int .i64 ee] 55))
          have HBV2 : Hid (Below w3.heap.size w3 (v1.alloc (.cells #[.int .u8 (q : Int), .string (chr q), .int .i64 ee] 55))) := HBV1.out.alloc HBV1.out.size _
          have HNW : Hid (Sl (v1.alloc (.cells #[.int .u8 (q : Int), .string (chr q), .int .i64 ee] 55)) (v1.heap.size + 1) (some ⟨v1.heap.size, 0, none⟩) [.int .u8 (q : Int), .string (chr q), .int .i64 ee]) := Sl.new _ _ _
          clear HS
          have HS := Lib.hid hS; clear hS
          refine hK.out _ _ HS.out ?_
          clear hK K HBV1
          (try simp only [Act.put, List.setIfInBounds_toArray, List.set_cons_zero, List.set_cons_succ])
          generalize v1.alloc (.cells #[.int .u8 (q : Int), .string (chr q), .int .i64 ee] 55) = v2 at *
          generalize v1.heap.size = g1 at *
          (refine wpOrd_solo (o := ?_) ?_ ?_; rotate_left 1; (simp only [List.getElem?_toArray, List.getElem?_cons_succ, List.getElem?_cons_zero]; with_reducible rfl))
          intro K hK
          rw [if_pos (by rfl)]
          refine wp_cat _ _ 43 rfl 55 (.agg #[.int .u8 0, .string ⟨#[]⟩, .int .i64 0]) 3 32 Try.underlying43 infoTok rfl (by decide) (by decide) w.heap.size X3 acc3.length d3 (tkcells acc3) rfl (own_below HO3.out HBV2.out (Nat.le_refl _)) _ (some ⟨g1, 0, none⟩) 1 1 [.int .u8 (q : Int), .string (chr q), .int .i64 ee] rfl rfl (by decide) HNW.out (by simp [Value.oneCell']) (by omega) (Nat.le_trans HW3.out.size HBV2.out.size) ?_
          intro X4 d4 w4 hown4 hb4 _
          have HO4 : Hid (w4.ownsRow w.heap.size 55 3 (.slice X4 (acc3 ++ [(⟨q, chr q, ee⟩ : Tk)]).length d4) (acc3 ++ [(⟨q, chr q, ee⟩ : Tk)]).length (tkcells (acc3 ++ [(⟨q, chr q, ee⟩ : Tk)]))) := by
            rw [tkcells_append, tkcells_one, List.length_append]
            exact hown4
          have HW4 : Hid (Below w.heap.size w w4) := HW3.out.trans ((HBV2.out.mono HW3.out.size).trans hb4)
          have hS : S w4 := hKP.out _ _ HS.out hb4
          refine hK.out _ _ hS ?_
          clear hK K hown4 hb4
          (try simp only [Act.put, List.setIfInBounds_toArray, List.set_cons_zero, List.set_cons_succ])
          iterate 1
            (refine wpOrd_step (o := ?_) ?_ ?_; rotate_left 1; (simp only [List.getElem?_toArray, List.getElem?_cons_succ, List.getElem?_cons_zero]; with_reducible rfl))
            (first
                | (refine wpOrd_skip (by rfl) ?_)
                | (refine wpOrd_take (v := ?_) (by rfl) ?_ ?_; rotate_left 1; (intro wx hSx; go_simp; try with_reducible rfl)))
            (try simp only [Act.put, List.setIfInBounds_toArray, List.set_cons_zero, List.set_cons_succ])
          refine wpOrd_done ?_
          go_wp2
          go_roundw
          case rel => exact ⟨i + 1, acc3 ++ [⟨q, chr q, ee⟩], X4, d4, by omega, by rw [List.length_append, List.length_singleton]; omega, by rw [List.length_append, List.length_singleton], by go_num, HO4, HI3, HW4⟩
          case measure => simp [intOf]; omega
      · have hend := HDE.out i hlt
        have hR := HI.out
        rw [hend, List.append_nil] at hR
        subst hR
        obtain rfl : i = n := by omega
        go_wp2
        go_ret
        exact ⟨⟨X, d, rfl, HO.out⟩, HW.out⟩
end Go.Proofs.Ytapnefhmonpgdaa

/-
  The document's Same on trees, by recursion. Conditions: fewer than 2^31 trees.
-/
namespace Go.Proofs.Ytapnefhmonpgdaa
open Go.RowKit LX TR

set_option maxRecDepth 8000 in
theorem tk_parts (t u : Tk) : decide (t = u) = (decide (t.k = u.k) && (decide (t.s = u.s) && decide (t.p = u.p))) := by
  obtain ⟨k1, s1, p1⟩ := t
  obtain ⟨k2, s2, p2⟩ := u
  rw [Bool.eq_iff_iff]; simp
set_option maxRecDepth 8000 in
theorem tsame_len : ∀ {a b : List Tr}, ¬ a.length = b.length → TR.same a b = false
  | [], [], h => absurd rfl h
  | [], _ :: _, _ => by simp [TR.same]
  | .mk .. :: _, [], _ => by simp [TR.same]
  | .mk _ _ _ _ _ :: r, .mk _ _ _ _ _ :: q, h => by
    rw [TR.same, tsame_len (a := r) (b := q) (by simpa using h)]
    simp
end Go.Proofs.Ytapnefhmonpgdaa
