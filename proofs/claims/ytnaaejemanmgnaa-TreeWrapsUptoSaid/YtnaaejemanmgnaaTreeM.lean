/-
  What Same of package tree returns. Conditions: fewer than 2^29 trees.
-/
import Derived.Test.YtnaaejemanmgnaaTreeL
namespace Go.Proofs.Ytnaaejemanmgnaa
open Go.RowKit LX TR

theorem kidsSame_at {a b : List Tr} {i : Nat} (h1 : i < a.length) (h2 : i < b.length) : kidsSame (a.drop i) (b.drop i) = (TR.same (a.getD i r0).ks (b.getD i r0).ks && kidsSame (a.drop (i + 1)) (b.drop (i + 1))) := by
  rw [drop_cons h1, drop_cons h2, kidsSame]
/-- How many pairs the Kids may yet make. -/
theorem rootsEq_length {a b : List Tr} (h : rootsEq a b = true) : b.length = a.length := by
  refine Classical.byContradiction fun hne => ?_
  rw [rootsEq_len (a := a) (b := b) (fun e => hne e.symm)] at h
  cases h
theorem sumN_drop {a : List Tr} {i : Nat} (h : i < a.length) : sumN (a.drop i) = (nodes (a.getD i r0).ks).length + 1 + sumN (a.drop (i + 1)) := by
  rw [drop_cons h, sumN]

set_option maxRecDepth 100000 in
set_option maxHeartbeats 8000000 in
theorem treeSame_any (A B : Option Addr) (c d : Nat) (a b : List Tr) (w : World) (hN : (nodes a).length ≤ 536870912) (hA : Trs w w.heap.size A a) (hB : Trs w w.heap.size B b) :
    Calls Try.prog 18 #[.slice A a.length c, .slice B b.length d] w fun e w' => e = .returned (.bool (TR.same a b)) ∧ Below w.heap.size w w' := by
  have HO0 : Hid ((w.alloc (.cells #[.slice A a.length c, .slice B b.length d] 48)).ownsRow w.heap.size 48 2 (.slice (some ⟨w.heap.size, 0, none⟩) ([⟨A, c, a, B, d, b⟩] : List Pr).length 1) ([⟨A, c, a, B, d, b⟩] : List Pr).length (prs [⟨A, c, a, B, d, b⟩])) :=
    ⟨rfl, .inr ⟨w.heap.size, 1, _, rfl, Nat.le_refl _, heap_alloc_new w _, Nat.le_refl _, by decide, rfl, rfl⟩⟩
  have HW0 : Hid (Below w.heap.size w (w.alloc (.cells #[.slice A a.length c, .slice B b.length d] 48))) := (Below.refl _ _).alloc (Nat.le_refl _) _
  have HT0 : Hid (∀ p ∈ ([⟨A, c, a, B, d, b⟩] : List Pr), Trs w w.heap.size p.A p.a ∧ Trs w w.heap.size p.B p.b) := fun p hp => by
    rw [List.mem_singleton] at hp
    subst hp
    exact ⟨hA, hB⟩
  have HR0 : Hid (allS ([⟨A, c, a, B, d, b⟩] : List Pr) = TR.same a b) := by show allS _ = _; simp [allS]
  have hp0 : pw [⟨A, c, a, B, d, b⟩] = (nodes a).length + 1 := rfl
  generalize TR.same a b = R at *
  generalize a.length = na at *
  generalize b.length = nb at *
  generalize hT : (nodes a).length + 1 = T at *
  have hTT : T ≤ 536870913 := by omega
  clear hA hB hT
  go_enter Try.func18, Try.ntmps18
  go_wp2
  go_loopg [5, 6, 7, 8, 9, 10, 35, 37] T (fun mm ov _ _ _ _ _ _ _ wr => ∃ (ps : List Pr) (X : Option Addr) (e : Nat), pw ps ≤ mm ∧ mm ≤ T ∧ ov = .slice X ps.length e ∧ Hid (wr.ownsRow w.heap.size 48 2 (.slice X ps.length e) ps.length (prs ps)) ∧ Hid (∀ p ∈ ps, Trs w w.heap.size p.A p.a ∧ Trs w w.heap.size p.B p.b) ∧ Hid (allS ps = R) ∧ Hid (Below w.heap.size w wr))
  case atStart => exact ⟨[⟨A, c, a, B, d, b⟩], some ⟨w.heap.size, 0, none⟩, 1, by omega, Nat.le_refl _, rfl, HO0.out, HT0.out, HR0.out, HW0.out⟩
  case round =>
    obtain ⟨ps, X, e, hpm, hmT, rfl, HO, HTP, HRR, HW⟩ := hrel
    by_cases hps : ps = []
    · subst hps
      have hE : R = true := HRR.out.symm
      subst hE
      simp only [List.length_nil]
      go_wp2
      go_ret
      exact ⟨rfl, HW.out⟩
    · obtain ⟨qs, ⟨pA, pc, pa, pB, pd, pb⟩, rfl⟩ : ∃ qs p, ps = qs ++ [p] := ⟨ps.dropLast, ps.getLast hps, (List.dropLast_concat_getLast _).symm⟩
      obtain ⟨g, rfl, hgw, hgs, hfz, hgc⟩ := own_at HO.out (by intro e; have := congrArg List.length e; rw [prs_length] at this; simp at this)
      have k0 : wr.cell? ⟨g, qs.length * 2, none⟩ = some (.slice pA pa.length pc) := hgc _ _ (by have := prs_top qs ⟨pA, pc, pa, pB, pd, pb⟩ 0; rw [Nat.add_zero] at this; rw [this]; rfl)
      have k1 : wr.cell? ⟨g, qs.length * 2 + 1, none⟩ = some (.slice pB pb.length pd) := hgc _ _ (by rw [prs_top]; rfl)
      have hmd := own_cap_le HO.out
      have hOC := own_cut HO.out qs.length (by simp) (by simp)
      rw [prs_cut] at hOC
      have HOC := Lib.hid hOC
      have HPW : Hid (pw qs + ((nodes pa).length + 1) ≤ gk) := by
        have h := pw_append qs [⟨pA, pc, pa, pB, pd, pb⟩]
        show _ ≤ gk
        simp only [pw] at h
        omega
      have HPL := Lib.hid (pw_length qs)
      obtain ⟨hTa, hTb⟩ := HTP.out ⟨pA, pc, pa, pB, pd, pb⟩ (by simp)
      have HTQ : Hid (∀ q ∈ qs, Trs w w.heap.size q.A q.a ∧ Trs w w.heap.size q.B q.b) := fun q hq => HTP.out q (by simp [hq])
      have hRR := HRR.out
      rw [allS_snoc, same_split] at hRR
      have hla := length_nodes pa
      have hsn := nodes_sum pa
      clear hOC hgc hpm hfz HTP HRR
      rw [List.length_append, List.length_singleton] at hmd ⊢
      generalize hm : qs.length = m at *
      have HM := Lib.hid hm; clear hm
      have hmb : m ≤ 536870913 := by
        have h1 := HPW.out
        have h2 := HPL.out
        omega
      have hz1 : IntKind.i64.wrap ((m : Int) + 1 - 1) = (m : Int) := by rw [IntKind.wrap_i64] <;> omega
      have hlm : (m : Int) < (m : Int) + 1 := by omega
      have HEQ := Lib.hid (fun W (hb : Below w.heap.size w W) => equalTree_any pA pB pc pd pa pb 31 (fun _ _ => by kernel_rfl) W w.heap.size hb.size (by have h1 := HPW.out; omega) (hTa.below hb) (hTb.below hb) rootEq_any)
      have HBX := Lib.hid (RowAt.new wr 48 #[.slice pA pa.length pc, .slice pB pb.length pd])
      have HW1 := Lib.hid (HW.out.alloc HW.out.size (.cells #[.slice pA pa.length pc, .slice pB pb.length pd] 48))
      have HOC1 := Lib.hid (own_below HOC.out ((Below.refl wr.heap.size wr).alloc (Nat.le_refl _) (.cells #[.slice pA pa.length pc, .slice pB pb.length pd] 48)) (Nat.le_refl _))
      cases hre : rootsEq pa pb
      · rw [hre] at HEQ hRR
        have HRF : Hid (R = false) := by show R = false; rw [← hRR]; simp
        clear hre hRR hTa hTb hla hsn
        go_wp2_with fail
        refine (HEQ.out _ HW1.out).mono ?_
        rintro e2 w2 ⟨rfl, hb2⟩
        have HW2 := Lib.hid (HW1.out.trans (hb2.mono HW1.out.size)); clear hb2
        go_wp2
        go_ret
        exact ⟨ret_eq (bool_eq HRF.out.symm), HW2.out⟩
      · have hlb := rootsEq_length hre
        rw [hre] at HEQ hRR
        rw [Bool.true_and] at hRR
        have HK0 : Hid ((allS qs && kidsSame (pa.drop 0) (pb.drop 0)) = R) := by rw [List.drop_zero, List.drop_zero]; exact hRR
        have HP0 : Hid (pw qs + sumN (pa.drop 0) ≤ gk - 1) := by
          rw [List.drop_zero, ← hsn]
          have h1 := HPW.out
          show _ ≤ _
          omega
        have HKS := Lib.hid (fun i (h1 : i < pa.length) (h2 : i < pb.length) => kidsSame_at h1 h2)
        have HSD := Lib.hid (fun i (h1 : i < pa.length) => sumN_drop h1)
        have HKE : Hid (∀ i, ¬ i < pa.length → kidsSame (pa.drop i) (pb.drop i) = true) := fun i hi => by
          rw [List.drop_eq_nil_of_le (by omega)]; rfl
        have HTA := Lib.hid hTa
        have HTB := Lib.hid hTb
        have HNA : Hid (pa.length ≤ 536870912) := by have h1 := HPW.out; show _ ≤ _; omega
        have HLB := Lib.hid hlb
        clear hre hRR hTa hTb hla hsn HPL hlb
        go_wp2_with fail
        refine (HEQ.out _ HW1.out).mono ?_
        rintro e2 w2 ⟨rfl, hb2⟩
        have HW2 := Lib.hid (HW1.out.trans (hb2.mono HW1.out.size))
        have HBX2 := Lib.hid (HBX.out.below hb2 HBX.out.lt)
        have HOC2 := Lib.hid (own_below HOC1.out hb2 (Nat.le_refl _))
        have HG7 : Hid (g ≠ wr.heap.size) := by show _ ≠ _; omega
        clear hb2 HBX HOC1 HW1 HOC HW HEQ HO
        have c0 := (HBX2.out.cell 0).trans rfl
        have c1 := (HBX2.out.cell 1).trans rfl
        generalize wr.heap.size = g7 at *
        go_wp2_with fail
        obtain ⟨wo, rfl⟩ : ∃ wo : World, wo = w2 := ⟨_, rfl⟩
        go_loopw [5, 8, 9, 10, 37] (fun ov _ _ _ iv wq => ∃ (i : Nat) (ps2 : List Pr) (X2 : Option Addr) (e3 : Nat), i ≤ pa.length ∧ ov = .slice X2 ps2.length e3 ∧ iv = .int .i64 i ∧ Hid (wq.ownsRow w.heap.size 48 2 (.slice X2 ps2.length e3) ps2.length (prs ps2)) ∧ Hid (∀ q ∈ ps2, Trs w w.heap.size q.A q.a ∧ Trs w w.heap.size q.B q.b) ∧ Hid ((allS ps2 && kidsSame (pa.drop i) (pb.drop i)) = R) ∧ Hid (pw ps2 + sumN (pa.drop i) ≤ gk - 1) ∧ Hid (RowAt wq g7 48 #[.slice pA pa.length pc, .slice pB pb.length pd]) ∧ Hid (∀ bb, (Value.slice X2 ps2.length e3).ownBlock = some bb → bb ≠ g7) ∧ Hid (Below w.heap.size w wq)) (fun _ _ _ _ iv _ => pa.length - (intOf iv).toNat)
        case atStart => exact ⟨0, qs, some ⟨g, 0, none⟩, e, by omega, by rw [HM.out], rfl, by rw [HM.out]; exact HOC2, HTQ, HK0, HP0, HBX2, fun bb hb => by rw [own_blk hb]; exact HG7.out, HW2⟩
        case round =>
          obtain ⟨i, ps2, X2, e3, hi, rfl, rfl, HOI, HTI, HRI, HPI, HBI, HNG, HWI⟩ := hrel
          have hpl : ps2.length ≤ 536870913 := by
            have h1 := pw_length ps2
            have h2 := HPI.out
            omega
          by_cases hlt : i < pa.length
          · have hltb : i < pb.length := by rw [HLB.out]; exact hlt
            obtain ⟨ba, oa, rfl, hla, hca⟩ := (HTA.out.below HWI.out).at (k := i) hlt
            obtain ⟨bb, ob, rfl, hlb, hcb⟩ := (HTB.out.below HWI.out).at (k := i) hltb
            obtain ⟨ha0, ha1, ha2, ha3, ha4⟩ := hca i hlt
            obtain ⟨hb0, hb1, hb2, hb3, hb4⟩ := hcb i hltb
            have y0 := (HBI.out.cell 0).trans rfl
            have y1 := (HBI.out.cell 1).trans rfl
            have HKI := Lib.hid (HKS.out i hlt hltb)
            have HSI := Lib.hid (HSD.out i hlt)
            have HKTA := Lib.hid (HTA.out.kidAt hlt)
            have HKTB := Lib.hid (HTB.out.kidAt hltb)
            have hsz := HWI.out.size
            have hg7lt := HBI.out.lt
            have hna9 : pa.length ≤ 536870912 := HNA.out
            have hla2 : ba < wr.heap.size := by omega
            have hlb2 : bb < wr.heap.size := by omega
            clear hca hcb
            generalize (pa.getD i r0).t.k = k1 at *
            generalize (pa.getD i r0).t.s = s1 at *
            generalize (pa.getD i r0).t.p = p1 at *
            generalize (pa.getD i r0).A = A1 at *
            generalize (pa.getD i r0).c = c1' at *
            generalize (pa.getD i r0).e = e1 at *
            generalize (pb.getD i r0).t.k = k2 at *
            generalize (pb.getD i r0).t.s = s2 at *
            generalize (pb.getD i r0).t.p = p2 at *
            generalize (pb.getD i r0).A = A2 at *
            generalize (pb.getD i r0).c = c2 at *
            generalize (pb.getD i r0).e = e2' at *
            generalize (pa.getD i r0).ks = ka at *
            generalize (pb.getD i r0).ks = kb at *
            generalize hka : ka.length = n1 at *
            generalize hkb : kb.length = n2 at *
            have HKA := Lib.hid hka
            have HKB := Lib.hid hkb
            clear hka hkb
            have hbv : Below wr.heap.size wr ((wr.alloc (.cells #[.int .u8 (k1 : Int), .string s1, .int .i64 p1, .slice A1 n1 c1', .int .i64 e1] 38)).alloc (.cells #[.int .u8 (k2 : Int), .string s2, .int .i64 p2, .slice A2 n2 c2, .int .i64 e2'] 38)) := ((Below.refl _ _).alloc (Nat.le_refl _) _).alloc (by simp) _
            have HS3 : Hid (RowAt ((wr.alloc (.cells #[.int .u8 (k1 : Int), .string s1, .int .i64 p1, .slice A1 n1 c1', .int .i64 e1] 38)).alloc (.cells #[.int .u8 (k2 : Int), .string s2, .int .i64 p2, .slice A2 n2 c2, .int .i64 e2'] 38)) wr.heap.size 38 #[.int .u8 (k1 : Int), .string s1, .int .i64 p1, .slice A1 n1 c1', .int .i64 e1]) := (RowAt.new _ _ _).alloc _
            have HT3 : Hid (RowAt ((wr.alloc (.cells #[.int .u8 (k1 : Int), .string s1, .int .i64 p1, .slice A1 n1 c1', .int .i64 e1] 38)).alloc (.cells #[.int .u8 (k2 : Int), .string s2, .int .i64 p2, .slice A2 n2 c2, .int .i64 e2'] 38)) (wr.heap.size + 1) 38 #[.int .u8 (k2 : Int), .string s2, .int .i64 p2, .slice A2 n2 c2, .int .i64 e2']) := by
              have h := RowAt.new (wr.alloc (.cells #[.int .u8 (k1 : Int), .string s1, .int .i64 p1, .slice A1 n1 c1', .int .i64 e1] 38)) 38 #[.int .u8 (k2 : Int), .string s2, .int .i64 p2, .slice A2 n2 c2, .int .i64 e2']
              rw [show (wr.alloc (.cells #[.int .u8 (k1 : Int), .string s1, .int .i64 p1, .slice A1 n1 c1', .int .i64 e1] 38)).heap.size = wr.heap.size + 1 by simp] at h
              exact h
            have HOV := Lib.hid (own_below HOI.out hbv (Nat.le_refl _))
            have HWV := Lib.hid (HWI.out.trans (hbv.mono HWI.out.size))
            have HBV := Lib.hid (HBI.out.below hbv HBI.out.lt)
            clear hbv
            by_cases hn1 : n1 = 0
            · by_cases hn2 : n2 = 0
              · subst hn1
                subst hn2
                have hka0 : ka = [] := List.eq_nil_of_length_eq_zero HKA.out
                have hkb0 : kb = [] := List.eq_nil_of_length_eq_zero HKB.out
                subst hka0
                subst hkb0
                have HR6 : Hid ((allS ps2 && kidsSame (pa.drop (i + 1)) (pb.drop (i + 1))) = R) := by
                  have h := HRI.out
                  rw [HKI.out, TR.same_refl, Bool.true_and] at h
                  exact h
                have HP6 : Hid (pw ps2 + sumN (pa.drop (i + 1)) ≤ gk - 1) := by
                  have h2 := HPI.out
                  rw [HSI.out] at h2
                  show _ ≤ _
                  omega
                clear HS3 HT3
                go_wp2
                go_roundw
                case rel => exact ⟨i + 1, ps2, X2, e3, by omega, rfl, by go_num, HOV, HTI, HR6, HP6, HBV, HNG, HWV⟩
                case measure => simp [intOf]; omega
              · have hd1 : decide (0 < n1) = false := by rw [decide_eq_false_iff_not]; omega
                have hd2 : decide (0 < n2) = true := by rw [decide_eq_true_eq]; omega
                clear hn1
                go_upto_region 13 with fail
                generalize (wr.alloc (.cells #[.int .u8 (k1 : Int), .string s1, .int .i64 p1, .slice A1 n1 c1', .int .i64 e1] 38)).alloc (.cells #[.int .u8 (k2 : Int), .string s2, .int .i64 p2, .slice A2 n2 c2, .int .i64 e2'] 38) = v at *
                have d3 := (HS3.out.cell 3).trans rfl
                have d4 := (HT3.out.cell 3).trans rfl
                clear HS3 HT3
                have HNW : Hid (Sl (v.alloc (.cells #[.slice A1 n1 c1', .slice A2 n2 c2] 48)) (v.heap.size + 1) (some ⟨v.heap.size, 0, none⟩) [.slice A1 n1 c1', .slice A2 n2 c2]) := Sl.new _ _ _
                have HOA := Lib.hid (own_below HOV.out ((Below.refl _ _).alloc (Nat.le_refl _) (.cells #[.slice A1 n1 c1', .slice A2 n2 c2] 48)) (Nat.le_refl _))
                go_wp2_with (first | (at_builtin; refine wpList_catAt rfl _ _ 49 rfl 48 (.agg #[.slice none 0 0, .slice none 0 0]) 2 48 Try.underlying49 infoPr rfl (by decide) (by decide) w.heap.size X2 ps2.length e3 (prs ps2) rfl HOA.out _ (some ⟨v.heap.size, 0, none⟩) 1 1 [.slice A1 n1 c1', .slice A2 n2 c2] rfl rfl (by decide) HNW.out (by simp [Value.oneCell']) (by omega) (by rw [World.size_alloc]; have := HWV.out.size; omega) ?_))
                intro X6 d6 w6 hown6 hb6 hg6 hat6
                have HO6 : Hid (w6.ownsRow w.heap.size 48 2 (.slice X6 (ps2 ++ [(⟨A1, c1', ka, A2, c2, kb⟩ : Pr)]).length d6) (ps2 ++ [(⟨A1, c1', ka, A2, c2, kb⟩ : Pr)]).length (prs (ps2 ++ [(⟨A1, c1', ka, A2, c2, kb⟩ : Pr)]))) := by
                  rw [prs_append, prs_one, List.length_append, List.length_singleton]
                  unfold prcells
                  simp only
                  rw [HKA.out, HKB.out]
                  exact hown6
                have HNG6 : Hid (∀ bb, (Value.slice X6 (ps2 ++ [(⟨A1, c1', ka, A2, c2, kb⟩ : Pr)]).length d6).ownBlock = some bb → bb ≠ g7) := fun bb hbb => by
                  rw [List.length_append, List.length_singleton] at hbb
                  rcases hat6 with h | h
                  · exact HNG.out bb (by rw [← h]; exact hbb)
                  · rw [hbb] at h
                    injection h with h
                    have := HBV.out.lt
                    omega
                have HB6 : Hid (Below w.heap.size w w6) := (HWV.out.alloc HWV.out.size _).trans hb6
                have HBX6 : Hid (RowAt w6 g7 48 #[.slice (some ⟨ba, oa, none⟩) pa.length pc, .slice (some ⟨bb, ob, none⟩) pb.length pd]) := (HBV.out.alloc _).grown hg6 (fun h => HNG.out g7 h rfl)
                have HP6 : Hid (pw (ps2 ++ [(⟨A1, c1', ka, A2, c2, kb⟩ : Pr)]) + sumN (pa.drop (i + 1)) ≤ gk - 1) := by
                  have h1 := pw_append ps2 [(⟨A1, c1', ka, A2, c2, kb⟩ : Pr)]
                  have h2 := HPI.out
                  rw [HSI.out] at h2
                  simp only [pw] at h1
                  show _ ≤ _
                  omega
                have HR6 : Hid ((allS (ps2 ++ [(⟨A1, c1', ka, A2, c2, kb⟩ : Pr)]) && kidsSame (pa.drop (i + 1)) (pb.drop (i + 1))) = R) := by
                  have h := HRI.out
                  rw [HKI.out] at h
                  rw [allS_snoc]
                  show _ = R
                  rw [← h, Bool.and_assoc]
                have HT6 : Hid (∀ q ∈ ps2 ++ [(⟨A1, c1', ka, A2, c2, kb⟩ : Pr)], Trs w w.heap.size q.A q.a ∧ Trs w w.heap.size q.B q.b) := fun q hq => by
                  rcases List.mem_append.1 hq with h | h
                  · exact HTI.out q h
                  · rw [List.mem_singleton] at h
                    subst h
                    exact ⟨HKTA.out, HKTB.out⟩
                have hl6 : ps2.length + 1 = (ps2 ++ [(⟨A1, c1', ka, A2, c2, kb⟩ : Pr)]).length := by simp
                clear hown6 hb6 hg6 hat6 HNW HOA d3 d4
                go_wp2
                go_roundw
                case rel => exact ⟨i + 1, ps2 ++ [(⟨A1, c1', ka, A2, c2, kb⟩ : Pr)], X6, d6, by omega, by rw [hl6], by go_num, HO6, HT6, HR6, HP6, HBX6, HNG6, HB6⟩
                case measure => simp [intOf]; omega
            · have hd1 : decide (0 < n1) = true := by rw [decide_eq_true_eq]; omega
              clear hn1
              go_upto_region 13 with fail
              generalize (wr.alloc (.cells #[.int .u8 (k1 : Int), .string s1, .int .i64 p1, .slice A1 n1 c1', .int .i64 e1] 38)).alloc (.cells #[.int .u8 (k2 : Int), .string s2, .int .i64 p2, .slice A2 n2 c2, .int .i64 e2'] 38) = v at *
              have d3 := (HS3.out.cell 3).trans rfl
              have d4 := (HT3.out.cell 3).trans rfl
              clear HS3 HT3
              have HNW : Hid (Sl (v.alloc (.cells #[.slice A1 n1 c1', .slice A2 n2 c2] 48)) (v.heap.size + 1) (some ⟨v.heap.size, 0, none⟩) [.slice A1 n1 c1', .slice A2 n2 c2]) := Sl.new _ _ _
              have HOA := Lib.hid (own_below HOV.out ((Below.refl _ _).alloc (Nat.le_refl _) (.cells #[.slice A1 n1 c1', .slice A2 n2 c2] 48)) (Nat.le_refl _))
              go_wp2_with (first | (at_builtin; refine wpList_catAt rfl _ _ 49 rfl 48 (.agg #[.slice none 0 0, .slice none 0 0]) 2 48 Try.underlying49 infoPr rfl (by decide) (by decide) w.heap.size X2 ps2.length e3 (prs ps2) rfl HOA.out _ (some ⟨v.heap.size, 0, none⟩) 1 1 [.slice A1 n1 c1', .slice A2 n2 c2] rfl rfl (by decide) HNW.out (by simp [Value.oneCell']) (by omega) (by rw [World.size_alloc]; have := HWV.out.size; omega) ?_))
              intro X6 d6 w6 hown6 hb6 hg6 hat6
              have HO6 : Hid (w6.ownsRow w.heap.size 48 2 (.slice X6 (ps2 ++ [(⟨A1, c1', ka, A2, c2, kb⟩ : Pr)]).length d6) (ps2 ++ [(⟨A1, c1', ka, A2, c2, kb⟩ : Pr)]).length (prs (ps2 ++ [(⟨A1, c1', ka, A2, c2, kb⟩ : Pr)]))) := by
                rw [prs_append, prs_one, List.length_append, List.length_singleton]
                unfold prcells
                simp only
                rw [HKA.out, HKB.out]
                exact hown6
              have HNG6 : Hid (∀ bb, (Value.slice X6 (ps2 ++ [(⟨A1, c1', ka, A2, c2, kb⟩ : Pr)]).length d6).ownBlock = some bb → bb ≠ g7) := fun bb hbb => by
                rw [List.length_append, List.length_singleton] at hbb
                rcases hat6 with h | h
                · exact HNG.out bb (by rw [← h]; exact hbb)
                · rw [hbb] at h
                  injection h with h
                  have := HBV.out.lt
                  omega
              have HB6 : Hid (Below w.heap.size w w6) := (HWV.out.alloc HWV.out.size _).trans hb6
              have HBX6 : Hid (RowAt w6 g7 48 #[.slice (some ⟨ba, oa, none⟩) pa.length pc, .slice (some ⟨bb, ob, none⟩) pb.length pd]) := (HBV.out.alloc _).grown hg6 (fun h => HNG.out g7 h rfl)
              have HP6 : Hid (pw (ps2 ++ [(⟨A1, c1', ka, A2, c2, kb⟩ : Pr)]) + sumN (pa.drop (i + 1)) ≤ gk - 1) := by
                have h1 := pw_append ps2 [(⟨A1, c1', ka, A2, c2, kb⟩ : Pr)]
                have h2 := HPI.out
                rw [HSI.out] at h2
                simp only [pw] at h1
                show _ ≤ _
                omega
              have HR6 : Hid ((allS (ps2 ++ [(⟨A1, c1', ka, A2, c2, kb⟩ : Pr)]) && kidsSame (pa.drop (i + 1)) (pb.drop (i + 1))) = R) := by
                have h := HRI.out
                rw [HKI.out] at h
                rw [allS_snoc]
                show _ = R
                rw [← h, Bool.and_assoc]
              have HT6 : Hid (∀ q ∈ ps2 ++ [(⟨A1, c1', ka, A2, c2, kb⟩ : Pr)], Trs w w.heap.size q.A q.a ∧ Trs w w.heap.size q.B q.b) := fun q hq => by
                rcases List.mem_append.1 hq with h | h
                · exact HTI.out q h
                · rw [List.mem_singleton] at h
                  subst h
                  exact ⟨HKTA.out, HKTB.out⟩
              have hl6 : ps2.length + 1 = (ps2 ++ [(⟨A1, c1', ka, A2, c2, kb⟩ : Pr)]).length := by simp
              clear hown6 hb6 hg6 hat6 HNW HOA d3 d4
              go_wp2
              go_roundw
              case rel => exact ⟨i + 1, ps2 ++ [(⟨A1, c1', ka, A2, c2, kb⟩ : Pr)], X6, d6, by omega, by rw [hl6], by go_num, HO6, HT6, HR6, HP6, HBX6, HNG6, HB6⟩
              case measure => simp [intOf]; omega
          · have hE := HKE.out i hlt
            have HR6 : Hid (allS ps2 = R) := by
              have h := HRI.out
              rw [hE, Bool.and_true] at h
              exact h
            have hpp : pw ps2 ≤ gk - 1 := by have := HPI.out; omega
            obtain rfl : i = pa.length := by omega
            clear hE
            go_wp2
            go_roundg (gk - 1)
            case measure => have := HPW.out; omega
            case rel => exact ⟨ps2, X2, e3, hpp, by omega, rfl, HOI, HTI, HR6, HWI⟩
end Go.Proofs.Ytnaaejemanmgnaa
