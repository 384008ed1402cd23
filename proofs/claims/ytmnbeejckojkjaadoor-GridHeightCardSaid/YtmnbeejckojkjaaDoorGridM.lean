/-
  GridHeight: it returns true. Conditions: 64 words below 2^64; the table of math/bits in memory.
-/
import Derived.Test.YtmnbeejckojkjaaDoorGridK
import Derived.Test.YtmnbeejckojkjaaDoorGridHM
namespace Go.Proofs.YtmnbeejckojkjaaDoor
open Go.RowKit RM

theorem infoU64 : (Tryd.prog.info? 22).map (fun i => (i.zero, i.size, i.bytes)) = some (some (.int .u64 0), 1, 8) := by kernel_rfl
/-- Words as cells; a slice of words of the call's own. -/
def ucells (xs : List Nat) : List Value := xs.map fun x : Nat => Value.int .u64 (x : Int)
theorem ucells_snoc (xs : List Nat) (x : Nat) : ucells (xs ++ [x]) = ucells xs ++ [.int .u64 (x : Int)] := by simp [ucells]
theorem ucells_length (xs : List Nat) : (ucells xs).length = xs.length := by simp [ucells]
def OwnU (w : World) (B : Nat) (A : Option Addr) (c : Nat) (xs : List Nat) : Prop := w.ownsRow B 22 1 (.slice A xs.length c) xs.length (ucells xs)
theorem OwnU.cell {w : World} {B c : Nat} {A : Option Addr} {xs : List Nat} (h : OwnU w B A c xs) (hne : xs ≠ []) : ∃ b o, A = some ⟨b, o, none⟩ ∧ ∀ j, j < xs.length → w.cell? ⟨b, o + j, none⟩ = some (.int .u64 ((xs.getD j 0 : Nat) : Int)) := by
  have hs : Sl w w.heap.size A (ucells xs) := Sl.of_own h
  obtain ⟨b, o, hA, _, hc⟩ := Sl.at_ hs (fun e => hne (by have := congrArg List.length e; rw [ucells_length] at this; simp at this; exact this))
  exact ⟨b, o, hA, fun j hj => hc j _ (by unfold ucells; rw [List.getElem?_map, List.getElem?_eq_getElem hj, List.getD_eq_getElem?_getD, List.getElem?_eq_getElem hj]; rfl)⟩
theorem nCls_congr {p : Nat} {R S : Nat → Nat → Bool} (h : ∀ i j, i < p → j < p → R i j = S i j) : nCls p R = nCls p S := by
  unfold nCls
  congr 1
  exact List.filter_congr fun i hi => fstB_congr h (List.mem_range.1 hi)
theorem close_eqM {n : Int} {l : List Nat} {p v : Nat} (hri : rightB n l = true) (hpp : pts n = p) : gClose n l v = clW p (bt l) v := by unfold gClose; rw [hri, hpp]; rfl
/-- The closure of one bit. -/
def oneC (n : Int) (l : List Nat) (i : Nat) : Nat := gClose n l (MM.ofN [(i : Int)])
theorem oneC_lt (n : Int) (l : List Nat) (i : Nat) : oneC n l i < 18446744073709551616 := gClose_lt _ _ _
theorem met_height {n : Int} {l : List Nat} (hri : rightB n l = true) : (metF (oneC n l) 64).length = gHeight n l := by
  obtain ⟨p, h1, hp, hn, hpp, _⟩ := right_has hri
  have hS := right_closed hri
  rw [hpp] at hS
  have e : oneC n l = fun i : Nat => clW p (bt l) (MM.ofN [(i : Int)]) := funext fun i => close_eqM hri hpp
  unfold gHeight
  rw [hri, if_pos rfl, hpp, e, height_count hp hS, nCls_congr fun i j hi hj => clo_self hS hi hj]

set_option maxHeartbeats 4000000 in
theorem gridHeight_law (n : Int) (l : List Nat) (hl : RW l) (w : World) (hT : Tab w) :
    Calls Tryd.prog 7 #[.agg (rv n l)] w fun e w' => e = .returned (.bool true) ∧ Below w.heap.size w w' := by
  have hr1 := RelAt.new w n l
  have hb : Below w.heap.size w (w.alloc (.cells (rv n l) 25)) := (Below.refl _ _).alloc (Nat.le_refl _) _
  have HR : Hid (∀ w, Calls Tryd.prog 8 #[.agg (rv n l)] w fun e w' => e = .returned (.bool (rightB n l)) ∧ Below w.heap.size w w') := gright_any n l hl
  have HHE : Hid (∀ w, Calls Tryd.prog 12 #[.agg (rv n l)] w fun e w' => e = .returned (.int .i64 ((gHeight n l : Nat) : Int)) ∧ Below w.heap.size w w') := gheight_any n l hl
  have HB := Lib.hid hb; clear hb
  have HT := Lib.hid hT; clear hT
  cases hri : rightB n l with
  | false =>
    have hz : gHeight n l = 0 := by unfold gHeight; rw [hri]; rfl
    rw [hri] at HR
    rw [hz] at HHE
    clear hri hz
    go_enter Tryd.func7, Tryd.ntmps7
    go_wp2_with (refine wpList_loadRel rfl _ rfl w.heap.size rfl n l hl hr1 ?_)
    refine (HR.out _).mono ?_
    rintro e w1 ⟨rfl, hb1⟩
    have r1 := hr1.below hb1 hr1.lt
    have HB1 := Lib.hid (HB.out.trans (hb1.mono HB.out.size)); clear hb1
    go_wp2_with (refine wpList_loadRel rfl _ rfl w.heap.size rfl n l hl r1 ?_)
    refine (HHE.out _).mono ?_
    rintro e w2 ⟨rfl, hb2⟩
    have HB2 := Lib.hid (HB1.out.trans (hb2.mono HB1.out.size)); clear hb2
    go_wp2_with fail
    refine (galive_any _ (HT.out.below HB2.out)).mono ?_
    rintro e w3 ⟨rfl, hb3⟩
    have HB3 := Lib.hid (HB2.out.trans (hb3.mono HB2.out.size)); clear hb3
    go_wp2_with fail
    go_ret
    exact ⟨rfl, HB3.out⟩
  | true =>
    rw [hri] at HR
    have HEQ : Hid ((metF (oneC n l) 64).length = gHeight n l) := met_height hri
    have HCL : Hid (∀ (i : Nat) w, Tab w → Calls Tryd.prog 15 #[.agg (rv n l), .int .u64 ((MM.ofN [(i : Int)] : Nat) : Int)] w fun e w' => e = .returned (.int .u64 ((oneC n l i : Nat) : Int)) ∧ Below w.heap.size w w') := fun i w h => gclose_any n l hl (MM.ofN [(i : Int)]) (MM.ofN_lt _) w h
    have HFL : Hid (∀ i, oneC n l i < 18446744073709551616) := oneC_lt n l
    clear hri
    generalize oneC n l = f at *
    generalize gHeight n l = hh at *
    go_enter Tryd.func7, Tryd.ntmps7
    go_wp2_with (refine wpList_loadRel rfl _ rfl w.heap.size rfl n l hl hr1 ?_)
    refine (HR.out _).mono ?_
    rintro e w1 ⟨rfl, hb1⟩
    have r1 := hr1.below hb1 hr1.lt
    have HB1 := Lib.hid (HB.out.trans (hb1.mono HB.out.size)); clear hb1 HB hr1
    go_wp2_with fail
    go_loopw [3, 4, 5, 6, 8, 31] (fun lv iv _ _ _ _ wr => ∃ (i k c : Nat) (A : Option Addr), i ≤ 64 ∧ iv = .int .i64 i ∧ lv = .slice A k c ∧ Hid (k = (metF f i).length) ∧ k ≤ 64 ∧ Hid (OwnU wr w.heap.size A c (metF f i)) ∧ RelAt wr w.heap.size n l ∧ Hid (Below w.heap.size w wr)) (fun _ iv _ _ _ _ _ => 64 - (intOf iv).toNat)
    case atStart => exact ⟨0, 0, 0, none, by omega, rfl, rfl, rfl, by omega, World.ownsRow_nil _ _ _ _, r1, HB1⟩
    case round =>
      clear r1 HB1
      obtain ⟨i, k, c, A, hi, rfl, rfl, HK, hk, HO, rr, HB⟩ := hrel
      by_cases hlt : i < 64
      · have HCLI := Lib.hid (HCL.out i)
        have hfl := HFL.out i
        have HLE := Lib.hid (metF_le f (i + 1))
        have HOLD : Hid ((f i == 0 || (metF f i).any (fun x => x == f i)) = true → metF f (i + 1) = metF f i) := metF_old
        have HNEW : Hid ((f i == 0 || (metF f i).any (fun x => x == f i)) = false → metF f (i + 1) = metF f i ++ [f i]) := metF_new
        have hif : (i : Int) < 64 := by omega
        generalize hx2 : metF f (i + 1) = xs2 at *
        have HX2 := Lib.hid hx2; clear hx2
        generalize metF f i = xs at *
        generalize f i = fi at *
        obtain ⟨S, HS, pb, keepS⟩ := ex_gen wr
        have pR := fun w' h => rr.below (pb w' h) rr.lt
        have PO : Hid (∀ w', S w' → OwnU w' w.heap.size A c xs) := fun w' h => own_below HO.out (pb w' h) (Nat.le_refl _)
        have PB : Hid (∀ w', S w' → Below w.heap.size w w') := fun w' h => HB.out.trans ((pb w' h).mono HB.out.size)
        clear pb rr HO HB
        go_wp2_with fail
        refine wp_region_ord S [(0, true), (1, true), (2, false), (3, false), (4, false), (5, true)] (by kernel_rfl) (by kernel_rfl) rfl (by kernel_rfl) HS.out ?_
        generalize wr.drew = V at HS ⊢
        iterate 2
          (refine wpOrd_step (o := ?_) ?_ ?_; rotate_left 1; (simp only [List.getElem?_toArray, List.getElem?_cons_succ, List.getElem?_cons_zero]; with_reducible rfl))
          (first
              | (refine wpOrd_skip (by rfl) ?_)
              | (refine wpOrd_take (by rfl) (take_loadRel _ rfl _ rfl _ _ hl pR) ?_)
              | (refine wpOrd_take (v := ?_) (by rfl) ?_ ?_; rotate_left 1; (intro wx hSx; go_simp; try with_reducible rfl)))
          (try simp only [Act.put, List.setIfInBounds_toArray, List.set_cons_zero, List.set_cons_succ])
        (refine wpOrd_solo (o := ?_) ?_ ?_; rotate_left 1; (simp only [List.getElem?_toArray, List.getElem?_cons_succ, List.getElem?_cons_zero]; with_reducible rfl))
        intro K hK
        go_simp
        have hI : Ints (V.alloc (.cells #[.int .i64 (i : Int)] 3)) (some ⟨V.heap.size, 0, none⟩) [(i : Int)] := new_ints V [(i : Int)] 3
        have hS := keepS _ _ HS.out ((Below.refl V.heap.size V).alloc (Nat.le_refl _) (.cells #[.int .i64 (i : Int)] 3))
        clear HS
        have HS := Lib.hid hS; clear hS
        refine hK.out _ _ HS.out ?_
        clear hK K
        (try simp only [Act.put, List.setIfInBounds_toArray, List.set_cons_zero, List.set_cons_succ])
        have HI := Lib.hid hI; clear hI
        generalize V.alloc (.cells #[.int .i64 (i : Int)] 3) = V2 at HI HS ⊢
        (refine wpOrd_solo (o := ?_) ?_ ?_; rotate_left 1; (simp only [List.getElem?_toArray, List.getElem?_cons_succ, List.getElem?_cons_zero]; with_reducible rfl))
        intro K hK
        go_simp
        go_at_call 26
        refine (of_any _ 1 [(i : Int)] _ (by simp) HI.out).mono ?_
        rintro e w' ⟨rfl, rfl⟩
        refine hK.out _ _ HS.out ?_
        clear hK K
        (try simp only [Act.put, List.setIfInBounds_toArray, List.set_cons_zero, List.set_cons_succ])
        (refine wpOrd_solo (o := ?_) ?_ ?_; rotate_left 1; (simp only [List.getElem?_toArray, List.getElem?_cons_succ, List.getElem?_cons_zero]; with_reducible rfl))
        intro K hK
        go_simp
        go_at_call 15
        refine (HCLI.out _ (HT.out.below (PB.out _ HS.out))).mono ?_
        rintro e w4 ⟨rfl, hb⟩
        have hS := keepS _ _ HS.out hb
        clear HS
        have HS := Lib.hid hS; clear hS hb
        refine hK.out _ _ HS.out ?_
        clear hK K
        (try simp only [Act.put, List.setIfInBounds_toArray, List.set_cons_zero, List.set_cons_succ])
        iterate 1
          (refine wpOrd_step (o := ?_) ?_ ?_; rotate_left 1; (simp only [List.getElem?_toArray, List.getElem?_cons_succ, List.getElem?_cons_zero]; with_reducible rfl))
          (first
              | (refine wpOrd_skip (by rfl) ?_)
              | (refine wpOrd_take (v := ?_) (by rfl) ?_ ?_; rotate_left 1; (intro wx hSx; go_simp; try with_reducible rfl)))
          (try simp only [Act.put, List.setIfInBounds_toArray, List.set_cons_zero, List.set_cons_succ])
        refine wpOrd_done ?_
        have s1 := pR _ HS.out
        have HO4 := Lib.hid (PO.out _ HS.out)
        have HB4 := Lib.hid (PB.out _ HS.out)
        clear pR PO PB HS keepS HI HCLI
        obtain ⟨d, hd⟩ : ∃ d : Bool, (fi == 0) = d := ⟨_, rfl⟩
        have hd2 : ((fi : Int) == 0) = d := by rw [← hd, Bool.eq_iff_iff]; simp
        rw [hd] at HOLD HNEW
        clear hd
        have HAT : Hid (∀ j, j < xs.length → ((xs.take (j + 1)).any fun x => x == fi) = (((xs.take j).any fun x => x == fi) || (xs.getD j 0 == fi))) := fun j h => any_take (f := fun x => x == fi) xs j h
        have HA0 : Hid ((d || ((xs.take 0).any fun x => x == fi)) = d) := by show _ = _; rw [List.take_zero]; simp
        have HAE : Hid ((xs.take xs.length).any (fun x => x == fi) = xs.any fun x => x == fi) := by show _ = _; rw [List.take_length]
        have HCE : Hid (xs ≠ [] → ∃ b o, A = some ⟨b, o, none⟩ ∧ ∀ j, j < xs.length → w4.cell? ⟨b, o + j, none⟩ = some (.int .u64 ((xs.getD j 0 : Nat) : Int))) := fun h => HO4.out.cell h
        go_wp2_with fail
        go_loop [6, 8, 31] (fun bv _ jv => ∃ (j : Nat) (b : Bool), j ≤ k ∧ jv = .int .i64 j ∧ bv = .bool b ∧ Hid (b = (d || ((xs.take j).any fun x => x == fi)))) (fun _ _ jv => k - (intOf jv).toNat)
        case atStart => exact ⟨0, d, by omega, rfl, rfl, HA0.out.symm⟩
        case round =>
          obtain ⟨j, b, hj, rfl, rfl, HBB⟩ := hrel
          by_cases hlt2 : j < k
          · have hne : xs ≠ [] := by intro h; have h2 := HK.out; rw [h] at h2; simp at h2; omega
            obtain ⟨bk, o, rfl, hcc⟩ := HCE.out hne
            have hck := hcc j (by rw [← HK.out]; exact hlt2)
            have HAJ := Lib.hid (HAT.out j (by rw [← HK.out]; exact hlt2))
            clear hcc hne
            generalize xs.getD j 0 = t at *
            have hm0 : (0 : Int) ≤ (j : Int) := by omega
            have hkm : (j : Int) < (k : Int) := by omega
            obtain ⟨g, hg⟩ : ∃ g : Bool, (t == fi) = g := ⟨_, rfl⟩
            have hg2 : ((t : Int) == (fi : Int)) = g := by rw [← hg, Bool.eq_iff_iff]; simp; omega
            rw [hg] at HAJ
            clear hg
            cases b with
            | true =>
              have HB2 : Hid (true = (d || ((xs.take (j + 1)).any fun x => x == fi))) := by
                show true = _
                rw [HAJ.out, ← Bool.or_assoc, ← HBB.out]; rfl
              go_wp2_with fail
              go_round
              case rel => exact ⟨j + 1, true, by omega, by go_num, rfl, HB2⟩
              case measure => simp [intOf]; omega
            | false =>
              have HB2 : Hid (g = (d || ((xs.take (j + 1)).any fun x => x == fi))) := by
                show g = _
                rw [HAJ.out, ← Bool.or_assoc, ← HBB.out]; rfl
              go_wp2_with fail
              go_round
              case rel => exact ⟨j + 1, g, by omega, by go_num, rfl, HB2⟩
              case measure => simp [intOf]; omega
          · have e : j = k := by omega
            subst e
            have HBE : Hid (b = (d || (xs.any fun x => x == fi))) := by
              show b = _
              rw [HBB.out, HK.out, HAE.out]
            clear HBB HAT HA0 HAE HCE
            cases b with
            | true =>
              have HP := Lib.hid (HOLD.out HBE.out.symm)
              go_wp2_with fail
              go_roundw
              case rel => exact ⟨i + 1, j, c, A, by omega, by go_num, rfl, by rw [HX2.out, HP.out]; exact HK, hk, by rw [HX2.out, HP.out]; exact HO4, s1, HB4⟩
              case measure => simp [intOf]; omega
            | false =>
              have HP := Lib.hid (HNEW.out HBE.out.symm)
              have hown' : w4.ownsRow w.heap.size 22 1 (.slice A j c) j (ucells xs) := by
                have h4 := HO4.out
                unfold OwnU at h4
                rw [← HK.out] at h4
                exact h4
              have hbs := HB4.out.size
              have N1 := Lib.hid (own_block hown' s1 (by decide))
              have hk5 : j + 1 ≤ 64 := by
                have h5 := HLE.out
                rw [HP.out, List.length_append, ← HK.out] at h5
                simp at h5
                omega
              clear HO4
              go_wp2_with (at_builtin; refine wpList_more _ rfl _ _ 39 rfl 22 (.int .u64 0) 1 8 Tryd.underlying39 infoU64 rfl (by decide) (by decide) w.heap.size A j c (ucells xs) rfl (hown'.alloc _) w4.heap.size 1 1 [.int .u64 (fi : Int)] rfl rfl (by decide) (one_new _ _ _) ?c1 ?c2 ?c3 ?_; (case c1 => simp [Value.oneCell']); (case c2 => omega); (case c3 => simp; omega); intro A2 c2 w5 hown2 hb5 hgr; have HGR := Lib.hid hgr; clear hgr)
              have t1 := RelAt.grown (s1.alloc (.cells #[.int .u64 (fi : Int)] 22)) HGR.out N1.out
              have HB5 := Lib.hid ((HB4.out.alloc hbs (.cells #[.int .u64 (fi : Int)] 22)).trans hb5)
              have HK5 : Hid (j + 1 = xs2.length) := by show _ = _; rw [HP.out, List.length_append, ← HK.out]; rfl
              have HO5 : Hid (OwnU w5 w.heap.size A2 c2 xs2) := by
                show OwnU w5 w.heap.size A2 c2 xs2
                unfold OwnU
                rw [HP.out, ucells_snoc, List.length_append, ← HK.out]
                exact hown2
              clear hown2 hb5 hown' hbs s1 HB4 N1
              go_wp2_with fail
              go_roundw
              case rel => exact ⟨i + 1, j + 1, c2, A2, by omega, by go_num, rfl, by rw [HX2.out]; exact HK5, hk5, by rw [HX2.out]; exact HO5, t1, HB5⟩
              case measure => simp [intOf]; omega
      · have e : i = 64 := by omega
        subst e
        have hkh : k = hh := by rw [HK.out, HEQ.out]
        subst hkh
        clear HK HEQ HO HCL HFL
        go_wp2_with (refine wpList_loadRel rfl _ rfl w.heap.size rfl n l hl rr ?_)
        refine (HHE.out _).mono ?_
        rintro e w2 ⟨rfl, hb2⟩
        have HB2 := Lib.hid (HB.out.trans (hb2.mono HB.out.size)); clear hb2
        go_wp2_with fail
        refine (galive_any _ (HT.out.below HB2.out)).mono ?_
        rintro e w3 ⟨rfl, hb3⟩
        have HB3 := Lib.hid (HB2.out.trans (hb3.mono HB2.out.size)); clear hb3
        go_wp2_with fail
        go_ret
        exact ⟨rfl, HB3.out⟩
end Go.Proofs.YtmnbeejckojkjaaDoor
