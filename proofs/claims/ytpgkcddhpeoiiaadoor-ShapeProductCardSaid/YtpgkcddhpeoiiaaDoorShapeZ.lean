/-
  ShapeProduct: it returns true. Conditions: three slices of factors in memory, a nil one of capacity zero; the table of math/bits in memory.
-/
import Derived.Test.YtpgkcddhpeoiiaaDoorShapeJ
import Derived.Test.YtpgkcddhpeoiiaaDoorShapeU
namespace Go.Proofs.YtpgkcddhpeoiiaaDoor
open Go.RowKit RM

section
variable {a : Act} {o : Oper} {S : World → Prop}
theorem rows3c (w : World) (a b c : Array Value) (ta tb tc : TypeId) :
    RowAt (((w.alloc (.cells a ta)).alloc (.cells b tb)).alloc (.cells c tc)) w.heap.size ta a ∧ RowAt (((w.alloc (.cells a ta)).alloc (.cells b tb)).alloc (.cells c tc)) (w.heap.size + 1) tb b ∧
    RowAt (((w.alloc (.cells a ta)).alloc (.cells b tb)).alloc (.cells c tc)) (w.heap.size + 2) tc c ∧ Below w.heap.size w (((w.alloc (.cells a ta)).alloc (.cells b tb)).alloc (.cells c tc)) := by
  refine ⟨((RowAt.new w ta a).alloc _).alloc _, ?_, ?_, (((Below.refl _ _).alloc (Nat.le_refl _) _).alloc (by simp) _).alloc (by simp; omega) _⟩
  · have := (RowAt.new (w.alloc (.cells a ta)) tb b).alloc (.cells c tc)
    simpa using this
  · have := RowAt.new ((w.alloc (.cells a ta)).alloc (.cells b tb)) tc c
    simpa using this
end
theorem facs_one {w : World} {b off : Nat} {fs : List Fac} {k : Nat} (h : Facs w (some ⟨b, off, none⟩) fs) (hk : k < fs.length) : Facs w (some ⟨b, off + k * 67, none⟩) [fs.getD k f0] := by
  obtain ⟨b2, o2, e, hb, hr⟩ := h.at hk
  injection e with e
  injection e with e1 e2 _
  subst e1 e2
  refine ⟨fun _ => ⟨_, _, rfl, hb, fun j x hx => hr k hk j x ?_⟩, fun f hf => ?_⟩
  · simpa [fscells] using hx
  · rw [List.mem_singleton] at hf; subst hf; exact h.okAt hk
theorem facs_nil {w : World} {A : Option Addr} {c : Nat} {fs : List Fac} (h : Facs w A fs) (hn : A = none → c = 0) : A = none → fs.length = 0 ∧ c = 0 := fun e => by
  refine ⟨?_, hn e⟩
  rcases Nat.eq_zero_or_pos fs.length with h0 | h0
  · exact h0
  · obtain ⟨b, o, e2, _⟩ := h.at h0
    rw [e] at e2; cases e2

set_option maxRecDepth 20000 in
set_option maxHeartbeats 8000000 in
theorem shapeProduct_law (t : Bool) (A : Option Addr) (c : Nat) (fs : List Fac) (u : Bool) (B : Option Addr) (d : Nat) (gs : List Fac) (v : Bool) (C : Option Addr) (e : Nat) (hs : List Fac) (w : World) (hT : Tab w)
    (hn1 : A = none → c = 0) (hn2 : B = none → d = 0) (hn3 : C = none → e = 0) (hF : Facs w A fs) (hG : Facs w B gs) (hH : Facs w C hs) :
    Calls Tryd.prog 3 #[.agg (sv t A fs.length c), .agg (sv u B gs.length d), .agg (sv v C hs.length e)] w fun x w' => x = .returned (.bool true) ∧ Below w.heap.size w w' := by
  obtain ⟨r0, q0, p0, hb0⟩ := rows3c w (sv t A fs.length c) (sv u B gs.length d) (sv v C hs.length e) 24 24 24
  have HB0 := Lib.hid hb0; clear hb0
  have HBG : Hid (∀ W, Below w.heap.size w W → Calls Tryd.prog 5 #[.agg (sv t A fs.length c)] W fun x w' => x = .returned (.bool (bigB fs)) ∧ Below W.heap.size W w') := fun W h => big_any t A c fs W (hF.below h)
  have HBH : Hid (∀ W, Below w.heap.size w W → Calls Tryd.prog 5 #[.agg (sv u B gs.length d)] W fun x w' => x = .returned (.bool (bigB gs)) ∧ Below W.heap.size W w') := fun W h => big_any u B d gs W (hG.below h)
  have HBI : Hid (∀ W, Below w.heap.size w W → Calls Tryd.prog 5 #[.agg (sv v C hs.length e)] W fun x w' => x = .returned (.bool (bigB hs)) ∧ Below W.heap.size W w') := fun W h => big_any v C e hs W (hH.below h)
  have HAL : Hid (∀ W, Below w.heap.size w W → Calls Tryd.prog 6 #[] W fun x w' => x = .returned (.bool true) ∧ Below W.heap.size W w') := fun W h => alive7_any W (hT.below h)
  have HF : Hid (∀ W, Below w.heap.size w W → Facs W A fs) := fun W h => hF.below h
  have HG : Hid (∀ W, Below w.heap.size w W → Facs W B gs) := fun W h => hG.below h
  have HH : Hid (∀ W, Below w.heap.size w W → Facs W C hs) := fun W h => hH.below h
  have HFN : Hid (A = none → fs.length = 0 ∧ c = 0) := facs_nil hF hn1
  have HGN : Hid (B = none → gs.length = 0 ∧ d = 0) := facs_nil hG hn2
  have HHN : Hid (C = none → hs.length = 0 ∧ e = 0) := facs_nil hH hn3
  have HN1 := Lib.hid hn1; have HN2 := Lib.hid hn2; have HN3 := Lib.hid hn3
  have HSA : Hid (∀ W, RowAt W w.heap.size 24 (sv t A fs.length c) → W.cell? ⟨w.heap.size, 0, none⟩ = some (.bool t) ∧ W.cell? ⟨w.heap.size, 1, none⟩ = some (.slice A fs.length c)) := fun W h => shape_cells h
  have HSB : Hid (∀ W, RowAt W (w.heap.size + 1) 24 (sv u B gs.length d) → W.cell? ⟨w.heap.size + 1, 0, none⟩ = some (.bool u) ∧ W.cell? ⟨w.heap.size + 1, 1, none⟩ = some (.slice B gs.length d)) := fun W h => shape_cells h
  have HSC : Hid (∀ W, RowAt W (w.heap.size + 2) 24 (sv v C hs.length e) → W.cell? ⟨w.heap.size + 2, 0, none⟩ = some (.bool v) ∧ W.cell? ⟨w.heap.size + 2, 1, none⟩ = some (.slice C hs.length e)) := fun W h => shape_cells h
  clear hF hG hH hT hn1 hn2 hn3
  go_enter Tryd.func3, Tryd.ntmps3
  go_upto_region 1 with fail
  generalize ((w.alloc (.cells (sv t A fs.length c) 24)).alloc (.cells (sv u B gs.length d) 24)).alloc (.cells (sv v C hs.length e) 24) = w0 at *
  go_wp2_with (refine wpList_loadShape (by rfl) _ rfl w.heap.size rfl t A fs.length c r0 ?_)
  refine (HBG.out _ HB0.out).mono ?_
  rintro e w1 ⟨rfl, hb⟩
  have r1 := r0.below hb r0.lt
  have q1 := q0.below hb q0.lt
  have p1 := p0.below hb p0.lt
  have HB1 := Lib.hid (HB0.out.trans (hb.mono HB0.out.size))
  clear hb r0 q0 p0 HB0
  cases hbg : bigB fs with
  | true =>
    go_wp2_with fail
    refine (HAL.out _ HB1.out).mono ?_
    rintro e' w9 ⟨rfl, hb⟩
    have HB9 := Lib.hid (HB1.out.trans (hb.mono HB1.out.size)); clear hb
    go_wp2_with fail
    go_ret
    exact ⟨rfl, HB9.out⟩
  | false =>
    go_wp2_with (refine wpList_loadShape (by rfl) _ rfl (w.heap.size + 1) rfl u B gs.length d q1 ?_)
    refine (HBH.out _ HB1.out).mono ?_
    rintro e w2 ⟨rfl, hb⟩
    have r2 := r1.below hb r1.lt
    have q2 := q1.below hb q1.lt
    have p2 := p1.below hb p1.lt
    have HB2 := Lib.hid (HB1.out.trans (hb.mono HB1.out.size))
    clear hb r1 q1 p1 HB1
    cases hbh : bigB gs with
    | true =>
      go_wp2_with fail
      refine (HAL.out _ HB2.out).mono ?_
      rintro e' w9 ⟨rfl, hb⟩
      have HB9 := Lib.hid (HB2.out.trans (hb.mono HB2.out.size)); clear hb
      go_wp2_with fail
      go_ret
      exact ⟨rfl, HB9.out⟩
    | false =>
      go_wp2_with (refine wpList_loadShape (by rfl) _ rfl (w.heap.size + 2) rfl v C hs.length e p2 ?_)
      refine (HBI.out _ HB2.out).mono ?_
      rintro e w3 ⟨rfl, hb⟩
      have r3 := r2.below hb r2.lt
      have q3 := q2.below hb q2.lt
      have p3 := p2.below hb p2.lt
      have HB3 := Lib.hid (HB2.out.trans (hb.mono HB2.out.size))
      clear hb r2 q2 p2 HB2
      cases hbi : bigB hs with
      | true =>
        go_wp2_with fail
        refine (HAL.out _ HB3.out).mono ?_
        rintro e' w9 ⟨rfl, hb⟩
        have HB9 := Lib.hid (HB3.out.trans (hb.mono HB3.out.size)); clear hb
        go_wp2_with fail
        go_ret
        exact ⟨rfl, HB9.out⟩
      | false =>
        have HLEN : Hid (fs.length ≤ 12 ∧ gs.length ≤ 12 ∧ hs.length ≤ 12) := ⟨(big_no hbg).1, (big_no hbh).1, (big_no hbi).1⟩
        have HM1 : Hid (∀ f ∈ fs, f.names.length ≤ 70) := (big_no hbg).2
        have HM2 : Hid (∀ f ∈ gs, f.names.length ≤ 70) := (big_no hbh).2
        have HM3 : Hid (∀ f ∈ hs, f.names.length ≤ 70) := (big_no hbi).2
        clear hbg hbh hbi HBG HBH HBI
        go_wp2_with fail
        have HS : Hid (Below w3.heap.size w3 w3.drew) := (Below.refl _ _).drew
        have cA : ∀ w', Below w3.heap.size w3 w' → w'.cell? ⟨w.heap.size, 1, none⟩ = some (.slice A fs.length c) := fun w' h => (HSA.out _ (r3.below h r3.lt)).2
        have cB : ∀ w', Below w3.heap.size w3 w' → w'.cell? ⟨w.heap.size + 1, 1, none⟩ = some (.slice B gs.length d) := fun w' h => (HSB.out _ (q3.below h q3.lt)).2
        have cC : ∀ w', Below w3.heap.size w3 w' → w'.cell? ⟨w.heap.size + 2, 1, none⟩ = some (.slice C hs.length e) := fun w' h => (HSC.out _ (p3.below h p3.lt)).2
        have HO : Hid (w3.drew.ownsRow w3.heap.size 36 67 (.slice none ([] : List Fac).length 0) ([] : List Fac).length (fscells [])) := World.ownsRow_nil _ _ _ _
        have HACC : Hid (([] : List Fac).length ≤ 12 * 0) := Nat.le_refl _
        refine wp_region_ord (fun w' => Below w3.heap.size w3 w') [(0, true), (1, true), (2, true), (4, true), (5, true), (7, true), (8, true), (3, false), (6, false), (9, false), (10, true)] (by kernel_rfl) (by kernel_rfl) rfl (by kernel_rfl) HS.out ?_
        generalize w3.drew = V at HS HO ⊢
        iterate 7
          (refine wpOrd_step (o := ?_) ?_ ?_; rotate_left 1; (simp only [List.getElem?_toArray, List.getElem?_cons_succ, List.getElem?_cons_zero]; with_reducible rfl))
          (first
              | (refine wpOrd_skip (by rfl) ?_)
              | (refine wpOrd_take (v := ?_) (by rfl) ?_ ?_; rotate_left 1; (intro wx hSx; have hc_0 := cA wx hSx; have hc_1 := cB wx hSx; have hc_2 := cC wx hSx; go_simp; try with_reducible rfl)))
          (try simp only [Act.put, List.setIfInBounds_toArray, List.set_cons_zero, List.set_cons_succ])
        clear cA cB cC
        (refine wpOrd_solo (o := ?_) ?_ ?_; rotate_left 1; (simp only [List.getElem?_toArray, List.getElem?_cons_succ, List.getElem?_cons_zero]; with_reducible rfl))
        intro K hK
        rw [if_pos (by rfl)]
        refine wp_appendF _ _ rfl w3.heap.size none ([] : List Fac).length 0 (fscells ([] : List Fac)) rfl HO.out A fs.length c (fscells fs) rfl (fscells_length fs (Facs.rw (HF.out _ (HB3.out.trans (HS.out.mono HB3.out.size))))) (HF.out _ (HB3.out.trans (HS.out.mono HB3.out.size))).sl HFN.out (fscells_one fs) (by have := HLEN.out; have := HACC.out; omega) HS.out.size ?_
        intro A1 c1 V1 hown hgr
        have hbel : Below w3.heap.size V V1 := (Below.refl _ _).grown hgr HS.out.size (fun k hk => (HO.out.lt k hk).1)
        have hS : Below w3.heap.size w3 V1 := HS.out.trans hbel
        clear HS
        have HS := Lib.hid hS
        have ho : V1.ownsRow w3.heap.size 36 67 (.slice A1 (([] : List Fac) ++ fs).length c1) (([] : List Fac) ++ fs).length (fscells (([] : List Fac) ++ fs)) := by
          rw [fscells_append, List.length_append]; exact hown
        have hl : ([] : List Fac).length + fs.length = (([] : List Fac) ++ fs).length := List.length_append.symm
        rw [hl]
        have HACC2 : Hid ((([] : List Fac) ++ fs).length ≤ 12 * 1) := by
          show (([] : List Fac) ++ fs).length ≤ 12 * 1
          have h1 := HLEN.out; have h2 := HACC.out
          rw [List.length_append]; omega
        clear HACC
        have HACC := HACC2
        clear HACC2 HO hS hbel hgr hown hl
        have HO := Lib.hid ho; clear ho
        refine hK.out _ _ HS.out ?_
        clear hK K
        (try simp only [Act.put, List.setIfInBounds_toArray, List.set_cons_zero, List.set_cons_succ])
        generalize hE : ([] : List Fac) ++ fs = l1 at *
        have HE1 := Lib.hid hE; clear hE
        (refine wpOrd_solo (o := ?_) ?_ ?_; rotate_left 1; (simp only [List.getElem?_toArray, List.getElem?_cons_succ, List.getElem?_cons_zero]; with_reducible rfl))
        intro K hK
        rw [if_pos (by rfl)]
        refine wp_appendF _ _ rfl w3.heap.size A1 l1.length c1 (fscells l1) rfl HO.out B gs.length d (fscells gs) rfl (fscells_length gs (Facs.rw (HG.out _ (HB3.out.trans (HS.out.mono HB3.out.size))))) (HG.out _ (HB3.out.trans (HS.out.mono HB3.out.size))).sl HGN.out (fscells_one gs) (by have := HLEN.out; have := HACC.out; omega) HS.out.size ?_
        intro A2 c2 V2 hown hgr
        have hbel : Below w3.heap.size V1 V2 := (Below.refl _ _).grown hgr HS.out.size (fun k hk => (HO.out.lt k hk).1)
        have hS : Below w3.heap.size w3 V2 := HS.out.trans hbel
        clear HS
        have HS := Lib.hid hS
        have ho : V2.ownsRow w3.heap.size 36 67 (.slice A2 (l1 ++ gs).length c2) (l1 ++ gs).length (fscells (l1 ++ gs)) := by
          rw [fscells_append, List.length_append]; exact hown
        have hl : l1.length + gs.length = (l1 ++ gs).length := List.length_append.symm
        rw [hl]
        have HACC2 : Hid ((l1 ++ gs).length ≤ 12 * 2) := by
          show (l1 ++ gs).length ≤ 12 * 2
          have h1 := HLEN.out; have h2 := HACC.out
          rw [List.length_append]; omega
        clear HACC
        have HACC := HACC2
        clear HACC2 HO hS hbel hgr hown hl
        have HO := Lib.hid ho; clear ho
        refine hK.out _ _ HS.out ?_
        clear hK K
        (try simp only [Act.put, List.setIfInBounds_toArray, List.set_cons_zero, List.set_cons_succ])
        generalize hE : l1 ++ gs = l2 at *
        have HE2 := Lib.hid hE; clear hE
        (refine wpOrd_solo (o := ?_) ?_ ?_; rotate_left 1; (simp only [List.getElem?_toArray, List.getElem?_cons_succ, List.getElem?_cons_zero]; with_reducible rfl))
        intro K hK
        rw [if_pos (by rfl)]
        refine wp_appendF _ _ rfl w3.heap.size A2 l2.length c2 (fscells l2) rfl HO.out C hs.length e (fscells hs) rfl (fscells_length hs (Facs.rw (HH.out _ (HB3.out.trans (HS.out.mono HB3.out.size))))) (HH.out _ (HB3.out.trans (HS.out.mono HB3.out.size))).sl HHN.out (fscells_one hs) (by have := HLEN.out; have := HACC.out; omega) HS.out.size ?_
        intro A3 c3 V3 hown hgr
        have hbel : Below w3.heap.size V2 V3 := (Below.refl _ _).grown hgr HS.out.size (fun k hk => (HO.out.lt k hk).1)
        have hS : Below w3.heap.size w3 V3 := HS.out.trans hbel
        clear HS
        have HS := Lib.hid hS
        have ho : V3.ownsRow w3.heap.size 36 67 (.slice A3 (l2 ++ hs).length c3) (l2 ++ hs).length (fscells (l2 ++ hs)) := by
          rw [fscells_append, List.length_append]; exact hown
        have hl : l2.length + hs.length = (l2 ++ hs).length := List.length_append.symm
        rw [hl]
        have HACC2 : Hid ((l2 ++ hs).length ≤ 12 * 3) := by
          show (l2 ++ hs).length ≤ 12 * 3
          have h1 := HLEN.out; have h2 := HACC.out
          rw [List.length_append]; omega
        clear HACC
        have HACC := HACC2
        clear HACC2 HO hS hbel hgr hown hl
        have HO := Lib.hid ho; clear ho
        refine hK.out _ _ HS.out ?_
        clear hK K
        (try simp only [Act.put, List.setIfInBounds_toArray, List.set_cons_zero, List.set_cons_succ])
        generalize hE : l2 ++ hs = l3 at *
        have HE3 := Lib.hid hE; clear hE
        iterate 1
          (refine wpOrd_step (o := ?_) ?_ ?_; rotate_left 1; (simp only [List.getElem?_toArray, List.getElem?_cons_succ, List.getElem?_cons_zero]; with_reducible rfl))
          (first
              | (refine wpOrd_skip (by rfl) ?_)
              | (refine wpOrd_take (v := ?_) (by rfl) ?_ ?_; rotate_left 1; (intro wx hSx; go_simp; try with_reducible rfl)))
          (try simp only [Act.put, List.setIfInBounds_toArray, List.set_cons_zero, List.set_cons_succ])
        refine wpOrd_done ?_
        have HBV : Hid (Below w.heap.size w V3) := HB3.out.trans (HS.out.mono HB3.out.size)
        have r4 := r3.below HS.out r3.lt
        have q4 := q3.below HS.out q3.lt
        have p4 := p3.below HS.out p3.lt
        have HFL : Hid (∀ W, Below V3.heap.size V3 W → Facs W A3 (l3)) := fun W h => ⟨Sl.of_own (own_below HO.out h (Nat.le_refl _)), fun f hf => by
          have hW := HBV.out.trans (h.mono HBV.out.size)
          rw [← HE3.out] at hf
          rcases List.mem_append.1 hf with hf | hf
          · rw [← HE2.out] at hf
            rcases List.mem_append.1 hf with hf | hf
            · exact (HF.out W hW).ok f (by rw [← HE1.out] at hf; simpa using hf)
            · exact (HG.out W hW).ok f hf
          · exact (HH.out W hW).ok f hf⟩
        have HML : Hid (∀ f ∈ l3, f.names.length ≤ 70) := fun f hf => by
          rw [← HE3.out] at hf
          rcases List.mem_append.1 hf with hf | hf
          · rw [← HE2.out] at hf
            rcases List.mem_append.1 hf with hf | hf
            · exact HM1.out f (by rw [← HE1.out] at hf; simpa using hf)
            · exact HM2.out f hf
          · exact HM3.out f hf
        have HCAP : Hid ((l3).length ≤ c3) := by
          obtain ⟨A', c', e1, h1, _⟩ := own_form HO.out
          injection e1 with _ _ e1
          show (l3).length ≤ c3
          omega
        have HFT : Hid (flat [⟨t, A, c, fs⟩, ⟨u, B, d, gs⟩, ⟨v, C, e, hs⟩] = l3) := by
          show flat [⟨t, A, c, fs⟩, ⟨u, B, d, gs⟩, ⟨v, C, e, hs⟩] = l3
          rw [← HE3.out, ← HE2.out, ← HE1.out]
          simp [flat]
        have HOK : Hid (∀ W, Below w.heap.size w W → ∀ s ∈ [(⟨t, A, c, fs⟩ : Shp), ⟨u, B, d, gs⟩, ⟨v, C, e, hs⟩], ShOk W s) := fun W h s hs' => by
          have hl := HLEN.out
          simp only [List.mem_cons, List.not_mem_nil, or_false] at hs'
          rcases hs' with rfl | rfl | rfl
          · exact ⟨HF.out W h, HN1.out, by show fs.length ≤ 65536; omega, fun f hf => Nat.le_trans (HM1.out f hf) (by omega)⟩
          · exact ⟨HG.out W h, HN2.out, by show gs.length ≤ 65536; omega, fun f hf => Nat.le_trans (HM2.out f hf) (by omega)⟩
          · exact ⟨HH.out W h, HN3.out, by show hs.length ≤ 65536; omega, fun f hf => Nat.le_trans (HM3.out f hf) (by omega)⟩
        clear HM1 HM2 HM3 HF HG HH HFN HGN HHN HN1 HN2 HN3 HSA HSB HSC r3 q3 p3 HB3 HS HO HE1 HE2 HE3
        generalize l3 = l at *
        go_wp2_with (first | (refine wpList_loadShape (by rfl) _ rfl w.heap.size rfl t A fs.length c r4 ?_) | (refine wpList_loadShape (by rfl) _ rfl (w.heap.size + 1) rfl u B gs.length d q4 ?_) | (refine wpList_loadShape (by rfl) _ rfl (w.heap.size + 2) rfl v C hs.length e p4 ?_) | (refine wpList_shapes3 (by rfl) _ _ _ rfl ⟨t, A, c, fs⟩ ⟨u, B, d, gs⟩ ⟨v, C, e, hs⟩ rfl rfl rfl ?_; intro w5 hsl hb5))
        have HB5 : Hid (Below V3.heap.size V3 w5) := hb5
        have hpr := product_any (some ⟨V3.heap.size, 0, none⟩) 3 [⟨t, A, c, fs⟩, ⟨u, B, d, gs⟩, ⟨v, C, e, hs⟩] w5 hsl (HOK.out _ (HBV.out.trans (hb5.mono HBV.out.size))) (by simp) (by
          have h1 := HACC.out
          rw [HFT.out]; omega)
        rw [HFT.out] at hpr
        clear hb5 hsl HOK r4 q4 p4
        refine hpr.mono ?_
        rintro x w6 ⟨A8, c8, ps, rfl, hown, hn, hc, hb⟩
        have HB6 : Hid (Below V3.heap.size V3 w6) := HB5.out.trans (hb.mono HB5.out.size)
        have hq := qsameS_any true true A8 A3 c8 c3 ps l w6 ⟨Sl.of_own hown, fun g hg => (hn g hg).ok⟩ (HFL.out _ HB6.out)
          (core_few hc fun f hf => by
            obtain ⟨g, hg, rfl⟩ := List.mem_map.1 hf
            exact Nat.le_trans (HML.out g hg) (by omega))
          (by have h1 := core_len hc; have h2 := HACC.out; omega)
        rw [sameS_core hc] at hq
        clear hpr hown hn hc hb HB5 HFT
        go_wp2_with fail
        refine hq.mono ?_
        rintro x w7 ⟨rfl, hb⟩
        have HB7 : Hid (Below V3.heap.size V3 w7) := HB6.out.trans (hb.mono HB6.out.size)
        have HN36 : Hid (l.length ≤ 36) := Nat.le_trans HACC.out (by decide)
        clear hq hb HB6 HLEN HACC
        generalize hn : l.length = n at *
        have HN := Lib.hid hn; clear hn
        go_wp2_with fail
        go_loopw [8] (fun kv wr => ∃ k : Nat, k ≤ n ∧ kv = .int .i64 k ∧ Hid (Below V3.heap.size V3 wr)) (fun kv _ => n - (intOf kv).toNat)
        case atStart => exact ⟨0, by omega, rfl, HB7⟩
        case round =>
          clear HB7
          obtain ⟨k, hk, rfl, HB7⟩ := hrel
          have h36 := HN36.out
          by_cases hlt : k < n
          · have hltl : k < l.length := by rw [HN.out]; exact hlt
            have hFk := HFL.out _ HB7.out
            have hcap := HCAP.out
            obtain ⟨b, o, rfl, _, _⟩ := hFk.at (k := k) hltl
            have hl := (hFk.okAt (i := k) hltl).rows
            have hfm := HML.out _ (getD_mem (fs := l) (i := k) hltl)
            have HRG : Hid (∀ W, Below V3.heap.size V3 W → W.rangeAt b (o + k * 67) (fcells (l.getD k f0))) := fun W h => (HFL.out W h).rng hltl
            have HOF : Hid (∀ W, Below V3.heap.size V3 W → FacOk W (l.getD k f0)) := fun W h => (HFL.out W h).okAt hltl
            have HO1 : Hid (∀ W, Below V3.heap.size V3 W → Facs W (some ⟨b, o + k * 67, none⟩) [l.getD k f0]) := fun W h => facs_one (HFL.out W h) hltl
            have HFM := Lib.hid hfm
            clear hFk hltl hfm
            generalize l.getD k f0 = f at *
            obtain ⟨S, HS, pW, keepS⟩ := ex_gen wr
            have PB : Hid (∀ w', S w' → Below V3.heap.size V3 w') := fun w' h => HB7.out.trans ((pW w' h).mono HB7.out.size)
            have pF := fun w' h => HRG.out w' (PB.out w' h)
            clear pW HB7 HRG
            have hc1 : k + 1 ≤ c3 := by omega
            have hc2 : ¬ c3 = k := by omega
            have hc3 : (k : Int) + 1 ≤ (c3 : Int) := by omega
            have hwr : IntKind.i64.wrap ((k : Int) + 1) = (k : Int) + 1 := by
              rw [IntKind.wrap_i64]; omega
            have hna : ((k : Int) + 1).toNat = k + 1 := by omega
            have hk0 : (0 : Int) ≤ (k : Int) + 1 := by omega
            go_wp2_with fail
            refine wp_region_ord S [(0, true), (1, true), (2, true), (3, true), (5, true), (6, true), (7, true), (8, true), (9, true), (10, true), (4, false), (11, false), (12, true)] (by kernel_rfl) (by kernel_rfl) rfl (by kernel_rfl) HS.out ?_
            generalize wr.drew = V at HS ⊢
            iterate 10
              (refine wpOrd_step (o := ?_) ?_ ?_; rotate_left 1; (simp only [List.getElem?_toArray, List.getElem?_cons_succ, List.getElem?_cons_zero]; with_reducible rfl))
              (first
                  | (refine wpOrd_skip (by rfl) ?_)
                  | (refine wpOrd_take (by rfl) (take_loadFacIn _ rfl _ _ rfl _ hl pF) ?_)
                  | (refine wpOrd_take (v := ?_) (by rfl) ?_ ?_; rotate_left 1; (intro wx hSx; go_simp; try with_reducible rfl)))
              (try simp only [Act.put, List.setIfInBounds_toArray, List.set_cons_zero, List.set_cons_succ])
            (refine wpOrd_solo (o := ?_) ?_ ?_; rotate_left 1; (simp only [List.getElem?_toArray, List.getElem?_cons_succ, List.getElem?_cons_zero]; with_reducible rfl))
            intro K hK
            go_simp
            go_at_call 9
            refine (one_any f _ (HOF.out _ (PB.out _ HS.out)) (Nat.le_trans HFM.out (by omega))).mono ?_
            rintro x w8 ⟨A5, c5, g1, rfl, hown, hn, hc, hb⟩
            have hS := keepS _ _ HS.out hb
            clear HS
            have HS := Lib.hid hS; clear hS hb
            have hq := qsameS_any false false A5 (some ⟨b, o + k * 67, none⟩) c5 (c3 - k) g1 [f] w8 ⟨Sl.of_own hown, fun g hg => (hn g hg).ok⟩ (HO1.out _ (PB.out _ HS.out)) (core_few hc fun f' hf => by rw [List.mem_singleton] at hf; subst hf; exact Nat.le_trans HFM.out (by omega)) (by have := core_len (show g1.map core = [f].map core from hc); rw [this]; simp)
            rw [sameS_core (show g1.map core = [f].map core from hc)] at hq
            have HQ := Lib.hid hq
            clear hown hn hc hq
            refine hK.out _ _ HS.out ?_
            clear hK K
            (try simp only [Act.put, List.setIfInBounds_toArray, List.set_cons_zero, List.set_cons_succ])
            (refine wpOrd_solo (o := ?_) ?_ ?_; rotate_left 1; (simp only [List.getElem?_toArray, List.getElem?_cons_succ, List.getElem?_cons_zero]; with_reducible rfl))
            intro K hK
            go_simp
            go_at_call 7
            refine (HQ.out).mono ?_
            rintro e w9 ⟨rfl, hb⟩
            have hS := keepS _ _ HS.out hb
            clear HS
            have HS := Lib.hid hS; clear hS hb
            refine hK.out _ _ HS.out ?_
            clear hK K
            (try simp only [Act.put, List.setIfInBounds_toArray, List.set_cons_zero, List.set_cons_succ])
            iterate 1
              (refine wpOrd_step (o := ?_) ?_ ?_; rotate_left 1; (simp only [List.getElem?_toArray, List.getElem?_cons_succ, List.getElem?_cons_zero]; with_reducible rfl))
              (first
                  | (refine wpOrd_skip (by rfl) ?_)
                  | (refine wpOrd_take (v := ?_) (by rfl) ?_ ?_; rotate_left 1; (intro wx hSx; go_simp; try with_reducible rfl)))
              (try simp only [Act.put, List.setIfInBounds_toArray, List.set_cons_zero, List.set_cons_succ])
            refine wpOrd_done ?_
            have HB9 := Lib.hid (PB.out _ HS.out)
            clear pF PB HS keepS S HO1 HOF hwr hna hk0 hc1 hc2 hc3
            go_wp2_with fail
            go_roundw
            case rel => exact ⟨k + 1, by omega, by go_num, HB9⟩
            case measure => simp [intOf]; omega
          · have e1 : k = n := by omega
            subst e1
            have HB8 := Lib.hid (HBV.out.trans (HB7.out.mono HBV.out.size))
            go_wp2_with fail
            refine (HAL.out _ HB8.out).mono ?_
            rintro e' w9 ⟨rfl, hb⟩
            have HB9 := Lib.hid (HB8.out.trans (hb.mono HB8.out.size)); clear hb
            go_wp2_with fail
            go_ret
            exact ⟨rfl, HB9.out⟩
end Go.Proofs.YtpgkcddhpeoiiaaDoor
