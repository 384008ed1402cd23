/-
  The document's names in braces: the whole call; whether words are the same. Conditions: lists of at most 2^20.
-/
import Derived.Test.YtapnefhmonpgdaaTermT
namespace Go.Proofs.Ytapnefhmonpgdaa
open Go.RowKit LX TR TM

theorem wp_moreB {P : Program} {w : World} {o : Oper} {a : Act} {K : Act → World → Prop} {Q : Exit → Act → World → Prop} (s x : Operand) (t : TypeId)
    (ho : o.op = .call { callee := .builtin .append, args := #[s, x], argTypes := #[t, t] })
    (e : TypeId) (z : Value) (size bytes : Nat) (ht : P.underlying t = some (.slice e))
    (hinf : (P.info? e).map (fun i => (i.zero, i.size, i.bytes)) = some (some z, size, bytes)) (hzs : z.cells.size = size) (hsz : 0 < size)
    (base : Nat) (A : Option Addr) (n c : Nat) (cs : List Value) (hs : a.eval s = .slice A n c) (hown : w.ownsRow base e size (.slice A n c) n cs)
    (g : Nat) (news : List Value) (hx : a.eval x = .slice (some ⟨g, 0, none⟩) 1 1) (hl : news.length = size)
    (hnews : ∀ j u, news[j]? = some u → w.cell? ⟨g, j, none⟩ = some u) (h1 : ∀ u ∈ news, u.oneCell' = true)
    (hn : n + 1 ≤ maxLen) (hb2 : (n + 1) * bytes ≤ 140737488355328) (hbase : base ≤ w.heap.size)
    (h : ∀ A' c' w', w'.ownsRow base e size (.slice A' (n + 1) c') (n + 1) (cs ++ news) → Below base w w' → w.grownBy w' (Value.slice A n c).ownBlock → ((Value.slice A' (n + 1) c').ownBlock = (Value.slice A n c).ownBlock ∨ (Value.slice A' (n + 1) c').ownBlock = some w.heap.size) → K (a.put o.dst (.slice A' (n + 1) c')) w') :
    o.wp P a w K Q := by
  obtain ⟨i, hi, hz, hi1, hi2⟩ := info_parts hinf
  have hadd : ∀ j, (⟨g, 0, none⟩ : Addr).add j = ⟨g, j, none⟩ := fun j => by unfold Addr.add; split <;> simp_all
  obtain ⟨v', w', hr, hown', hg, _, hat⟩ := run_append_own_at (P := P) w base t o.type e i z size bytes ht hi hz hi1 hi2 hzs hsz (.slice A n c) n cs hown ⟨g, 0, none⟩ 1 1 news (by rw [hl, Nat.one_mul])
    (fun j u hu => by rw [hadd]; exact hnews j u hu) h1 hn hb2 hbase
  obtain ⟨A', c', rfl, _, _⟩ := own_form hown'
  unfold Oper.wp execOp
  simp only [ho, resolve, invoke, builtin, Sem.run_bind, Sem.run_pure, Result.andThen_ok, List.map_toArray, List.map_cons, List.map_nil, hs, hx, hr]
  exact h A' c' w' hown' ((Below.refl base w).grown hg hbase (fun k hk => (hown.lt k hk).1)) hg hat
set_option maxRecDepth 100000 in
set_option maxHeartbeats 1600000 in
theorem refnames_any (X : Option Addr) (d : Nat) (ws : List Wd) (B : Nat) (w : World) (hB : B ≤ w.heap.size) (hl : ws.length ≤ 1048576) (hX : Sl w B X (ncs (ws.map wnd))) :
    Calls Try.prog 36 #[.slice X ws.length d] w fun e w' => ∃ Y dd, e = .returned (.slice Y ws.length dd) ∧ ws.length ≤ dd ∧ SlC w' (fun k => w.heap.size ≤ k) Y (wcs ws) ∧ Below w.heap.size w w' := by
  have HX := Lib.hid hX; clear hX
  generalize hn : ws.length = n at *
  have HN := Lib.hid hn; clear hn
  go_enter Try.func36, Try.ntmps36
  go_wp2_with fail
  go_loopw [3, 4] (fun ov iv wr => ∃ (i : Nat) (Y : Option Addr) (dd : Nat), i ≤ n ∧ ov = .slice Y i dd ∧ iv = .int .i64 i ∧ Hid (wr.ownsRow w.heap.size 69 2 (.slice Y i dd) i (wcs (ws.take i))) ∧ Hid (Below w.heap.size w wr)) (fun _ iv _ => n - (intOf iv).toNat)
  case atStart => exact ⟨0, none, 0, by omega, rfl, rfl, by rw [List.take_zero]; exact World.ownsRow_nil _ _ _ _, Below.refl _ _⟩
  case round =>
    obtain ⟨i, Y, dd, hi, rfl, rfl, HO, HW⟩ := hrel
    have hszr : w.heap.size ≤ wr.heap.size := HW.out.size
    by_cases hlt : i < n
    · obtain ⟨bb, o, rfl, hbb, hc⟩ := sl_at (z := n0) ncells_length (HX.out.below (HW.out.mono hB)) (k := i) (by rw [List.length_map, HN.out]; exact hlt) (by omega)
      have q1 := hc i 1 _ (by rw [List.length_map, HN.out]; exact hlt) (by omega) rfl
      have q2 := hc i 2 _ (by rw [List.length_map, HN.out]; exact hlt) (by omega) rfl
      have hgd : (ws.map wnd).getD i n0 = wnd (ws.getD i w0) := by
        rw [List.getD_eq_getElem?_getD, List.getD_eq_getElem?_getD, List.getElem?_map, List.getElem?_eq_getElem (by rw [HN.out]; exact hlt)]; rfl
      have htk : ws.take (i + 1) = ws.take i ++ [ws.getD i w0] := by
        rw [List.getD_eq_getElem?_getD, List.getElem?_eq_getElem (by rw [HN.out]; exact hlt), Option.getD_some]
        exact List.take_succ_eq_append_getElem (by rw [HN.out]; exact hlt)
      rw [hgd] at q1 q2
      rw [← Nat.add_assoc] at q1 q2
      have HTK := Lib.hid htk
      clear hc hgd htk
      generalize ws.getD i w0 = x at *
      obtain ⟨s, p⟩ := x
      have q1' : wr.cell? ⟨bb, o + i * 5 + 1, none⟩ = some (.int .i64 p) := q1
      have q2' : wr.cell? ⟨bb, o + i * 5 + 2, none⟩ = some (.string s) := q2
      clear q1 q2
      have hin : (i : Int) < (n : Int) := by omega
      have hbr : bb < wr.heap.size := by omega
      go_wp2_with fail
      obtain ⟨S, hSe⟩ : ∃ S : World → Prop, S = fun w' => w'.cell? ⟨bb, o + i * 5 + 1, none⟩ = some (.int .i64 p) ∧ w'.cell? ⟨bb, o + i * 5 + 2, none⟩ = some (.string s) := ⟨_, rfl⟩
      have HS : Hid (S wr.drew) := by rw [hSe]; exact Lib.hid ⟨q1', q2'⟩
      have C0 : ∀ w', S w' → w'.cell? ⟨bb, o + i * 5 + 1, none⟩ = some (.int .i64 p) := fun w' h => by rw [hSe] at h; exact h.1
      have C1 : ∀ w', S w' → w'.cell? ⟨bb, o + i * 5 + 2, none⟩ = some (.string s) := fun w' h => by rw [hSe] at h; exact h.2
      have HKS : Hid (∀ wa wb, S wa → Below w.heap.size wa wb → S wb) := fun wa wb h hb => by
        rw [hSe] at h ⊢
        exact ⟨(hb.cell (p := ⟨bb, o + i * 5 + 1, none⟩) (by show bb < w.heap.size; omega)).trans h.1, (hb.cell (p := ⟨bb, o + i * 5 + 2, none⟩) (by show bb < w.heap.size; omega)).trans h.2⟩
      have HO2 : Hid (wr.drew.ownsRow w.heap.size 69 2 (.slice Y i dd) i (wcs (ws.take i))) := HO.out
      have HW2 : Hid (Below w.heap.size w wr.drew) := HW.out.drew
      have hz2 : w.heap.size ≤ wr.drew.heap.size := hszr
      clear q1' q2' HO HW
      refine wp_region_ord S [(0, true), (1, true), (2, true), (3, true), (4, true), (5, true), (6, true), (7, true), (8, true), (9, true), (10, true), (11, true), (12, false), (13, false), (14, true)] (by kernel_rfl) (by kernel_rfl) rfl (by kernel_rfl) HS.out ?_
      generalize wr.drew = w2 at *
      iterate 12
        (refine wpOrd_step (o := ?_) ?_ ?_; rotate_left 1; (simp only [List.getElem?_toArray, List.getElem?_cons_succ, List.getElem?_cons_zero]; with_reducible rfl))
        (first
            | (refine wpOrd_skip (by rfl) ?_)
            | (refine wpOrd_take (v := ?_) (by rfl) ?_ ?_; rotate_left 1; (intro wx hSx; have hc_0 := C0 wx hSx; have hc_1 := C1 wx hSx; go_simp; try with_reducible rfl)))
        (try simp only [Act.put, List.setIfInBounds_toArray, List.set_cons_zero, List.set_cons_succ])
      (refine wpOrd_solo (o := ?_) ?_ ?_; rotate_left 1; (simp only [List.getElem?_toArray, List.getElem?_cons_succ, List.getElem?_cons_zero]; with_reducible rfl))
      intro K hK
      go_simp
      have hS2 := HKS.out _ _ HS.out ((Below.refl w.heap.size w2).alloc hz2 (.cells #[.string s, .int .i64 p] 69))
      refine hK.out _ _ hS2 ?_
      clear hK K HS
      have HS := Lib.hid hS2; clear hS2
      (refine wpOrd_solo (o := ?_) ?_ ?_; rotate_left 1; (simp only [List.getElem?_toArray, List.getElem?_cons_succ, List.getElem?_cons_zero]; with_reducible rfl))
      intro K hK
      rw [if_pos (by rfl)]
      refine wp_moreB _ _ 25 rfl 69 (.agg #[.string ⟨#[]⟩, .int .i64 0]) 2 24 Try.underlying25 infoWord rfl (by decide) w.heap.size Y i dd (wcs (ws.take i)) rfl ?c1 w2.heap.size (wcells ⟨s, p⟩) rfl rfl ?c2 (wc_one _) ?c3 ?c4 ?c5 ?_
      case c1 => exact own_below HO2.out ((Below.refl _ _).alloc (Nat.le_refl _) _) (Nat.le_refl _)
      case c2 => intro j u hu; have h := (RowAt.new w2 69 (wcells ⟨s, p⟩).toArray).cell j; exact h.trans (by simpa using hu)
      case c3 => simp only [maxLen]; omega
      case c4 => omega
      case c5 => simp; omega
      intro Y3 d3 w3 hown3 hb3 hg3 hat3
      have hS3 := HKS.out _ _ HS.out hb3
      refine hK.out _ _ hS3 ?_
      clear hK K HS
      have HS := Lib.hid hS3; clear hS3
      simp only [Act.put]
      iterate 1
        (refine wpOrd_step (o := ?_) ?_ ?_; rotate_left 1; (simp only [List.getElem?_toArray, List.getElem?_cons_succ, List.getElem?_cons_zero]; with_reducible rfl))
        (first
            | (refine wpOrd_skip (by rfl) ?_)
            | (refine wpOrd_take (v := ?_) (by rfl) ?_ ?_; rotate_left 1; (intro wx hSx; have hc_0 := C0 wx hSx; have hc_1 := C1 wx hSx; go_simp; try with_reducible rfl)))
        (try simp only [Act.put, List.setIfInBounds_toArray, List.set_cons_zero, List.set_cons_succ])
      refine wpOrd_done ?_
      have HO3 : Hid (w3.ownsRow w.heap.size 69 2 (.slice Y3 (i + 1) d3) (i + 1) (wcs (ws.take (i + 1)))) := by
        rw [HTK.out, wcs_append, wcs_one]; exact Lib.hid hown3
      have HW3 := Lib.hid (HW2.out.trans (((Below.refl w.heap.size w2).alloc hz2 _).trans hb3))
      clear hown3 hb3 hg3 hat3
      go_wp2_with fail
      go_roundw
      case rel => exact ⟨i + 1, Y3, d3, by omega, rfl, by go_num, HO3, HW3⟩
      case measure => simp [intOf]; omega
    · obtain rfl : i = n := by omega
      have HCP := Lib.hid (own_cap_le HO.out)
      have hfull : ws.take i = ws := List.take_of_length_le (by rw [HN.out]; exact Nat.le_refl _)
      rw [hfull] at HO
      go_wp2_with fail
      go_ret
      exact ⟨Y, dd, rfl, HCP.out, SlC.of_own HO.out fun k h _ => h, HW.out⟩
end Go.Proofs.Ytapnefhmonpgdaa
