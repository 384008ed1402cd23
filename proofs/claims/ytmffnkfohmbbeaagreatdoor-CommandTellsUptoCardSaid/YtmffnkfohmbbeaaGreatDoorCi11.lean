/- Texts that all the claims need. Conditions: those that each states. -/
import Derived.Great.BuildSlice
import Derived.Test.YtmffnkfohmbbeaaGreatDoorCi10
set_option linter.unusedSimpArgs false
set_option linter.unusedVariables false
set_option maxRecDepth 100000
set_option maxHeartbeats 40000000
namespace Go.Proofs.YtmffnkfohmbbeaaGreatDoor
section
namespace TM
theorem sms_refl : ∀ l : List Nd, sms l l = true := by
 refine ind (by rw [sms]) fun k p s A c ws B d ks r h1 h2 => ?_
 rw [sms, h2]
 have hw : ∀ ws : List Wd, eqL sw ws ws = true := fun ws => by
  induction ws with
  | nil => rfl
  | cons x r ih => rw [eqL, ih]; simp [sw]
 show (decide (k = k) && (decide (s = s) && (eqL sw ws ws && sms ks ks))) && true = true
 rw [hw, h1]; simp
theorem sm_refl (x : Nd) : sm x x = true := by
 have h := sms_refl [x]
 rw [sms_eqL, eqL, eqL, Bool.and_true] at h
 exact h
end TM
open Go.RowKit LX TR TM
theorem infoNd : (Tryz.prog.info? 28).map (fun i => (i.zero.isSome, i.size)) = some (true, 5) := by kernel_rfl
theorem wpList_nodes {ops : Array Oper} {rest : List Oper} {o : Oper} {a : Act} {w : World} {Q : Exit → Act → World → Prop} (hgd : Region.wanted o (yielded ops a.tmps) = true) (xs : Array (Nat × Operand)) (m : Nat) (ho : o.op = .buildSlice 26 m xs)
 (L : List Nd) (hm : L.length = m) (h0 : 0 < m) (h1 : m ≤ 100) (hx : (xs.map fun (i, x) => (i, a.eval x)).toList = ((L.map fun s => Value.agg (nv s)).zipIdx 0).map fun x => (x.2, x.1))
 (h : ∀ w', Sl w' w'.heap.size (some ⟨w.heap.size, 0, none⟩) (ncs L) → Below w.heap.size w w' → wpList Tryz.prog ops Q rest (a.put o.dst (.slice (some ⟨w.heap.size, 0, none⟩) m m)) w') : wpList Tryz.prog ops Q (o :: rest) a w := by
 refine wpList_wanted hgd fun K hK => ?_
 cases hi : Tryz.prog.info? 28 with
 | none => have h0 := infoNd; rw [hi] at h0; cases h0
 | some i =>
   have h2 := infoNd
   rw [hi] at h2
   simp only [Option.map_some, Option.some.injEq, Prod.mk.injEq] at h2
   obtain ⟨z, hz⟩ := Option.isSome_iff_exists.1 h2.1
   have hs := h2.2
   refine wp_buildSlice 26 28 m _ ho (ncs L).toArray i z Tryz.underlying26 hi hz (by rw [hs]; omega) (by rw [hs]; omega) ?_ ?_
   ·rw [hx, hs]
    have := Great.fill_whole (s := 5) (by decide) (L.map fun s => Value.agg (nv s)) ((Array.range (m * 5)).map (z.cells[· % z.cells.size]!)) (by
        intro v hv
        obtain ⟨s, _, rfl⟩ := List.mem_map.1 hv
        rfl) (by simp [hm])
    rw [this]
    congr 1
    unfold ncs
    rw [List.flatMap_map]
    rfl
   ·refine hK _ _ (h _ (fun _ => ⟨w.heap.size, 0, rfl, by simp, fun j u hu => ?_⟩) ((zB _ _).alloc (zL _) _))
    rw [Nat.zero_add, cell_of_row _ w.heap.size j _ 28 (0, 0) (heap_alloc_new w _)]
    simpa using hu
theorem wpList_nodes2 {ops : Array Oper} {rest : List Oper} {o : Oper} {a : Act} {w : World} {Q : Exit → Act → World → Prop} (hgd : Region.wanted o (yielded ops a.tmps) = true) (x y : Operand) (ho : o.op = .buildSlice 26 2 #[(0, x), (1, y)])
 (s u : Nd) (hx : a.eval x = .agg (nv s)) (hy : a.eval y = .agg (nv u))
 (h : ∀ w', Sl w' w'.heap.size (some ⟨w.heap.size, 0, none⟩) (ncs [s, u]) → Below w.heap.size w w' → wpList Tryz.prog ops Q rest (a.put o.dst (.slice (some ⟨w.heap.size, 0, none⟩) 2 2)) w') : wpList Tryz.prog ops Q (o :: rest) a w :=
 wpList_nodes hgd _ 2 ho [s, u] rfl (by omega) (by omega) (by simp [hx, hy]) h
theorem big10_any (A : Option Addr) (c : Nat) (zs : List Nd) (hn : zs.length ≤ 1099511627776) (hz : ∀ z ∈ zs, cnt [z] ≤ 4294967296) (w : World) (hA : Sl w w.heap.size A (ncs zs)) (hnd : ∀ z ∈ zs, Nods w w.heap.size [z]) :
 Calls Tryz.prog 19 #[.slice A zs.length c] w fun e w' => e = .returned (.bool (zs.any fun z => decide (300 < cnt [z]))) ∧ Below w.heap.size w w' := by
 have HA := zh hA; clear hA
 have HFF : Hid (∀ i, i < zs.length → ∀ W, Below w.heap.size w W → Calls Tryz.prog 54 #[.agg (nv (zs.getD i n0))] W fun e w' => e = .returned (.int .i64 (cnt [zs.getD i n0] : Int)) ∧ Below W.heap.size W w') := fun i hi W h => by
  have hm : zs.getD i n0 ∈ zs := by
   rw [List.getD_eq_getElem?_getD, List.getElem?_eq_getElem hi]
   exact List.getElem_mem hi
  exact many10_any 4294967296 (by omega) _ (hz _ hm) W (((hnd _ hm).below h).mono h.size)
 have HLE : Hid (∀ i, i < zs.length → cnt [zs.getD i n0] ≤ 4294967296) := fun i hi => by
  refine hz _ ?_
  rw [List.getD_eq_getElem?_getD, List.getElem?_eq_getElem hi]
  exact List.getElem_mem hi
 clear hz hnd
 have HHIT : Hid (∀ i, i < zs.length → 300 < cnt [zs.getD i n0] → (zs.any fun z => decide (300 < cnt [z])) = true) := fun i hi h => by
  rw [List.any_eq_true]
  refine ⟨_, ?_, zE h⟩
  rw [List.getD_eq_getElem?_getD, List.getElem?_eq_getElem hi]
  exact List.getElem_mem hi
 have HMISS : Hid ((∀ j, j < zs.length → ¬ 300 < cnt [zs.getD j n0]) → (zs.any fun z => decide (300 < cnt [z])) = false) := fun h => by
  rw [List.any_eq_false]
  intro x hx
  obtain ⟨j, hj, rfl⟩ := List.mem_iff_getElem.1 hx
  have := h j hj
  rw [List.getD_eq_getElem?_getD, List.getElem?_eq_getElem hj, Option.getD_some] at this
  simpa using this
 generalize (zs.any fun z => decide (300 < cnt [z])) = r at *
 generalize hm : zs.length = n at *
 have HN := zh hm; clear hm
 go_enter Tryz.func19, Tryz.ntmps19
 go_wp2_with fail
 go_loopw [7] (fun iv wr => ∃ i : Nat, i ≤ n ∧ iv = .int .i64 i ∧ Hid (∀ j, j < i → ¬ 300 < cnt [zs.getD j n0]) ∧ Hid (Below w.heap.size w wr)) (fun iv _ => n - (intOf iv).toNat)
 case atStart => exact ⟨0, by omega, rfl, fun j hj => by omega, zB _ _⟩
 case round =>
  obtain ⟨i, hi, rfl, HB, HW⟩ := hrel
  by_cases hlt : i < n
  ·obtain ⟨bb, o, rfl, hbb, hc⟩ := sl_at (z := n0) ncells_length (HA.out.below HW.out) (k := i) (by rw [HN.out]; exact hlt) (by omega)
   have q0 := hc i 0 _ (by rw [HN.out]; exact hlt) (by omega) rfl
   have q1 := hc i 1 _ (by rw [HN.out]; exact hlt) (by omega) rfl
   have q2 := hc i 2 _ (by rw [HN.out]; exact hlt) (by omega) rfl
   have q3 := hc i 3 _ (by rw [HN.out]; exact hlt) (by omega) rfl
   have q4 := hc i 4 _ (by rw [HN.out]; exact hlt) (by omega) rfl
   rw [Nat.add_zero] at q0
   rw [← Nat.add_assoc] at q1 q2 q3 q4
   have HC := zh (HFF.out i hlt)
   have HIN : Hid (¬ 300 < cnt [zs.getD i n0] → ∀ j, j < i + 1 → ¬ 300 < cnt [zs.getD j n0]) := fun h j hj => by
        by_cases e : j = i
        ·rw [e]; exact h
        ·exact HB.out j (by omega)
   have HYS := zh (HHIT.out i hlt)
   have hle := HLE.out i hlt
   have hin : (i : Int) < (n : Int) := by omega
   clear hc HB
   generalize cnt [zs.getD i n0] = q at *
   generalize zs.getD i n0 = z at *
   obtain ⟨zk, zp, zs9, zA, zc, zw, zBq, zd, zz⟩ := z
   unfold nv at HC
   simp only [Nd.k, Nd.p, Nd.s, Nd.A, Nd.c, Nd.ws, Nd.B, Nd.d, Nd.ks] at q0 q1 q2 q3 q4 HC
   have hWa : Below wr.heap.size wr (wr.alloc (.cells #[.int .i64 zk, .int .i64 zp, .string zs9, .slice zA zw.length zc, .slice zBq zz.length zd] 28)) := (zB _ _).alloc (zL _) _
   have HWA := zh (HW.out.trans (hWa.mono HW.out.size))
   have HD := zh (HC.out _ HWA.out)
   have hra := RowAt.new wr 28 #[.int .i64 zk, .int .i64 zp, .string zs9, .slice zA zw.length zc, .slice zBq zz.length zd]
   obtain ⟨m0, m1, m2, m3, m4, _, _, _, _, _⟩ := row5 hra
   clear hWa HC hra
   by_cases h3 : 300 < q
   ·have HYS2 := zh (HYS.out h3)
    clear HIN HYS
    go_wp2_with fail
    refine HD.out.mono ?_
    rintro e w4 ⟨rfl, hb⟩
    have HW4 := zh (HWA.out.trans (hb.mono HWA.out.size))
    clear hb
    go_wp2_with fail
    go_ret
    exact ⟨by rw [HYS2.out]; rfl, HW4.out⟩
   ·have HIN2 := zh (HIN.out h3)
    clear HIN HYS
    go_wp2_with fail
    refine HD.out.mono ?_
    rintro e w4 ⟨rfl, hb⟩
    have HW4 := zh (HWA.out.trans (hb.mono HWA.out.size))
    clear hb
    go_wp2_with fail
    go_roundw
    case rel => exact ⟨i + 1, by omega, by go_num, HIN2, HW4⟩
    case measure => simp [intOf]; omega
  ·obtain rfl : i = n := by omega
   have HNO := zh (HMISS.out HB.out)
   go_wp2_with fail
   go_ret
   exact ⟨by rw [HNO.out]; rfl, HW.out⟩
end
end Go.Proofs.YtmffnkfohmbbeaaGreatDoor
