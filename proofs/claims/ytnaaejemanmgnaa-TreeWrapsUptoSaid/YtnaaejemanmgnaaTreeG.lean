/-
  The document's Read of trees. Conditions: lists below 2^30 tokens.
-/
import Derived.Test.YtnaaejemanmgnaaTreeF
namespace Go.Proofs.Ytnaaejemanmgnaa
open Go.RowKit LX TR

theorem Deep.off {w : World} {B C g : Nat} {v : Value} {l : List Tr} (h : Deep w (Sep B v) l) (hg : g < B) (o : Nat) (u : Value) (hC : ∀ b, B ≤ b → C ≤ b) : Deep (w.setCell ⟨g, o, none⟩ u) (Sep C v) l :=
  h.keep (by simp [World.setCell]) (fun b _ hk => by
    have hne : g ≠ b := fun e => by have := hk.1; omega
    simp only [World.setCell, Array.getElem?_modify, if_neg hne]) (fun b _ h => ⟨hC b h.1, h.2⟩)
set_option maxRecDepth 100000 in
set_option maxHeartbeats 1600000 in
theorem refRead9_any (A : Option Addr) (c : Nat) (l : List Tk) (w : World) (hl : l.length ≤ 1073741824) (hA : Toks w A l) :
    Calls Try.prog 10 #[.slice A l.length c] w (Rt w.heap.size (parse l) · w ·) := by
  have HA := Lib.hid hA; clear hA
  have HFC := Lib.hid (fun W (h : Toks W A l) => refFault9_any A c l W (by omega) h)
  have HG := Lib.hid (RowAt.new w 27 #[.int .i64 0, .int .i64 0])
  have HB0 : Hid (Below w.heap.size w (w.alloc (.cells #[.int .i64 0, .int .i64 0] 27))) := (Below.refl _ _).alloc (Nat.le_refl _) _
  have HA0 := Lib.hid (HA.out.alloc (.cells #[.int .i64 0, .int .i64 0] 27))
  show Calls Try.prog 10 #[.slice A l.length c] w (fun e w' => Rt w.heap.size (parse l) e w w')
  cases hR : parse l with
  | error p =>
    rw [hR] at HFC
    clear hR
    generalize hn : l.length = n at *
    have HN := Lib.hid hn; clear hn
    go_enter Try.func10, Try.ntmps10
    go_wp2_with fail
    refine (HFC.out _ HA0.out).mono ?_
    rintro e w1 ⟨⟨z, rfl, j, rfl, hj, hp⟩, hb1⟩
    rw [HN.out] at hj
    have HB1 := Lib.hid (HB0.out.trans (hb1.mono HB0.out.size))
    have HG1 := Lib.hid (HG.out.below hb1 HG.out.lt)
    obtain ⟨b, o, rfl, hbl, hc⟩ := HA.out.at (k := j) (by rw [HN.out]; exact hj)
    have hc2 := (hc j (by rw [HN.out]; exact hj)).2.2
    rw [hp] at hc2
    replace hc2 := (HB1.out.cell (p := ⟨b, o + j * 3 + 2, none⟩) hbl).trans hc2
    clear hc hp hb1
    go_upto_region 3 with fail
    obtain ⟨S, HS, HKK, keepS⟩ := ex_low w.heap.size (fun W => W.cell? ⟨b, o + j * 3 + 2, none⟩ = some (.int .i64 p)) (fun _ _ h hb => (hb.cell (p := ⟨b, o + j * 3 + 2, none⟩) hbl).trans h) w1 hc2
    have C0 : ∀ w', S w' → w'.cell? ⟨b, o + j * 3 + 2, none⟩ = some (.int .i64 p) := fun w' h => HKK.out w' h
    refine wp_region_ord S [(0, true), (1, true), (2, true), (3, true), (4, true), (5, true), (6, true), (7, false)] (by kernel_rfl) (by kernel_rfl) rfl (by kernel_rfl) HS.out ?_
    iterate 7
      (refine wpOrd_step (o := ?_) ?_ ?_; rotate_left 1; (simp only [List.getElem?_toArray, List.getElem?_cons_succ, List.getElem?_cons_zero]; with_reducible rfl))
      (first
          | (refine wpOrd_skip (by rfl) ?_)
          | (refine wpOrd_take (v := ?_) (by rfl) ?_ ?_; rotate_left 1; (intro wx hSx; have hc_0 := C0 wx hSx; go_simp; try with_reducible rfl)))
      (try simp only [Act.put, List.setIfInBounds_toArray, List.set_cons_zero, List.set_cons_succ])
    (refine wpOrd_solo (o := ?_) ?_ ?_; rotate_left 1; (simp only [List.getElem?_toArray, List.getElem?_cons_succ, List.getElem?_cons_zero]; with_reducible rfl))
    intro K hK
    rw [if_pos (by rfl)]
    refine wp_store_row _ _ _ rfl w.heap.size #[.int .i64 2, .int .i64 p] rfl rfl _ _ (HG1.out.drew) (fault_info _ _) rfl (by simp [Value.oneCell']) ?_
    have hrow2 := HG1.out.drew.setRow #[.int .i64 2, .int .i64 p]
    have hS := keepS.out _ _ HS.out (below_setRow (B := w.heap.size) (w := w1.drew) (g := w.heap.size) (Nat.le_refl _) #[.int .i64 2, .int .i64 p])
    have HB2 : Hid (Below w.heap.size w (w1.drew.setRow w.heap.size #[.int .i64 2, .int .i64 p])) := HB1.out.drew.trans (below_setRow (Nat.le_refl _) _)
    clear HS
    have HS := Lib.hid hS; clear hS
    refine hK.out _ _ HS.out ?_
    clear hK K
    simp only [Act.put]
    refine wpOrd_done ?_
    go_wp2
    exact bodyPost_ret (ret_slot_cell rfl _ _ _ w.heap.size _ _ (0, 0) _ rfl rfl hrow2 Try.underlying27 rfl (fault_info _ _)) rfl ⟨HB2.out, rfl⟩
  | ok ts =>
    rw [hR] at HFC
    obtain ⟨hsp, hdp⟩ := parse_spells hR
    have hnl := spells_length hsp
    have HT := Lib.hid (fun W (h : Toks W A l) => trees_any (nodes ts).length ts l [] A c 0 l.length l W (Nat.le_refl _) (by omega) (by rw [List.drop_zero, List.append_nil]) hsp (by omega) hl h)
    clear hR hsp hdp hnl
    generalize hn : l.length = n at *
    have HN := Lib.hid hn; clear hn
    go_enter Try.func10, Try.ntmps10
    go_wp2_with fail
    refine (HFC.out _ HA0.out).mono ?_
    rintro e w1 ⟨⟨z, rfl, hz⟩, hb1⟩
    have hz' : z = -1 := hz
    subst hz'
    have HB1 := Lib.hid (HB0.out.trans (hb1.mono HB0.out.size))
    have HG1 := Lib.hid (HG.out.below hb1 HG.out.lt)
    have HA1 := Lib.hid (HA0.out.below hb1)
    clear hb1 hz
    have hg01 : w.heap.size < w1.heap.size := HG1.out.lt
    go_wp2_with fail
    refine (HT.out _ HA1.out).mono ?_
    rintro e w2 ⟨hb2, X, d, us, rfl, hown, hus, hdp⟩
    have HB2 := Lib.hid (HB1.out.trans (hb2.mono HB1.out.size))
    have hg2 := HG1.out.below hb2 HG1.out.lt
    have g20 := (hg2.cell 0).trans rfl
    have g21 := (hg2.cell 1).trans rfl
    have f20 := hg2.free 0
    have f21 := hg2.free 1
    have HG2 := Lib.hid hg2; clear hg2
    have HOW := Lib.hid (own_cell (own_cell hown (p := ⟨w.heap.size, 0, none⟩) hg01 (.int .i64 0)) (p := ⟨w.heap.size, 1, none⟩) hg01 (.int .i64 0))
    have HDW := Lib.hid ((hdp.off hg01 0 (.int .i64 0) (fun _ h => h)).off hg01 1 (.int .i64 0) (fun _ h => h))
    have HUS := Lib.hid hus
    have HCP := Lib.hid (own_cap_le hown)
    clear hb2 hown hus hdp
    generalize hm : us.length = m at *
    have HM := Lib.hid hm; clear hm
    go_wp2
    have hgf := (HG2.out.put 0 (.int .i64 0)).put 1 (.int .i64 0)
    exact bodyPost_ret (ret_slot_cell rfl _ _ _ w.heap.size _ _ (0, 0) _ rfl rfl hgf Try.underlying27 rfl (fault_info _ _)) rfl
      ⟨(HB2.out.setCell (p := ⟨w.heap.size, 0, none⟩) (Nat.le_refl _) _).setCell (p := ⟨w.heap.size, 1, none⟩) (Nat.le_refl _) _, X, d, us, by rw [HM.out]; rfl, HUS.out, by rw [HM.out]; exact HCP.out, HDW.out.trs (Sl.of_own HOW.out)⟩
end Go.Proofs.Ytnaaejemanmgnaa
