/- Texts that all the claims need. Conditions: those that each states. -/

import Derived.Test.YteachpfpcceamaaGreatDoorSl4
import Derived.Test.YteachpfpcceamaaGreatDoorSl14
set_option linter.unusedSimpArgs false
set_option linter.unusedVariables false
set_option maxRecDepth 100000
set_option maxHeartbeats 40000000
namespace Go.Proofs.YteachpfpcceamaaGreatDoor
section
open Go.RowKit
structure Sc where
 LA : Option Addr
 lc : Nat
 ls : List (ByteArray × Shp)
 VA : Option Addr
 vc : Nat
 vs : List (ByteArray × Int × Int)
def latC (x : ByteArray × Shp) : List Value := [.string x.1, .bool x.2.t, .slice x.2.A x.2.fs.length x.2.c]
def lat0 : ByteArray × Shp := (⟨#[]⟩, s0)
def var0 : ByteArray × Int × Int := (⟨#[]⟩, 0, 0)
def scv (s : Sc) : Array Value := #[.slice s.LA s.ls.length s.lc, .slice s.VA s.vs.length s.vc]
def Sc.lnms (s : Sc) : List ByteArray := s.ls.map (·.1)
def Sc.vnms (s : Sc) : List ByteArray := s.vs.map (·.1)
theorem Sc.lget (s : Sc) {j : Nat} (hj : j < s.ls.length) : s.lnms.getD j ⟨#[]⟩ = (s.ls.getD j lat0).1 := getD_map' (d := lat0) Prod.fst hj
theorem Sc.vget (s : Sc) {j : Nat} (hj : j < s.vs.length) : s.vnms.getD j ⟨#[]⟩ = (s.vs.getD j var0).1 := getD_map' (d := var0) Prod.fst hj
structure ScOk (w : World) (s : Sc) : Prop where
 lats : Ls latC w s.LA s.ls
 sh : ∀ l ∈ s.ls, ShOk w l.2
 vars : Ls varC w s.VA s.vs
 lnil : s.LA = none → s.lc = 0
 vnil : s.VA = none → s.vc = 0
 lfew : s.ls.length ≤ 65536
 vfew : s.vs.length ≤ 65536
 lnm : ∀ x ∈ s.lnms, x.size ≤ maxLen
 vnm : ∀ x ∈ s.vnms, x.size ≤ maxLen
theorem ScOk.below {w w' : World} {s : Sc} (h : ScOk w s) (hb : Below w.heap.size w w') : ScOk w' s :=
 ⟨h.lats.below hb, fun l hl => (h.sh l hl).below hb, h.vars.below hb, h.lnil, h.vnil, h.lfew, h.vfew, h.lnm, h.vnm⟩
theorem indexLat_any (A : Option Addr) (c : Nat) (xs : List (ByteArray × Shp)) (d : ByteArray × Shp) (F : FuncId) (cap : Array Value) (p : Nat → Bool) (w : World) (hl : xs.length ≤ 4294967296) (hA : Ls latC w A xs)
 (hf : ∀ args w, (callFunc F args).run Tryz.prog w = .ok (.enter F args) w)
 (H : ∀ j W, j < xs.length → Below w.heap.size w W → Calls Tryz.prog F (#[.agg (latC (xs.getD j d)).toArray] ++ cap) W fun e W' => e = .returned (.bool (p j)) ∧ Below W.heap.size W W') :
 Calls Tryz.prog 53 #[.slice A xs.length c, .func (.func F) #[] cap] w fun e w' => e = .returned (.int .i64 (NM.fst p xs.length)) ∧ Below w.heap.size w w' := by
 have HH := zh H; clear H
 have HA := zh hA; clear hA
 generalize hn : xs.length = n at *
 have HN := zh hn; clear hn
 have HB0 : Hid (Below w.heap.size w w) := zB _ _
 go_enter Tryz.func53, Tryz.ntmps53
 go_wp2
 go_loopw [8] (fun iv wr => ∃ i : Nat, i ≤ n ∧ iv = .int .i64 i ∧ Hid (∀ j, j < i → p j = false) ∧ Hid (Below w.heap.size w wr)) (fun iv _ => n - (intOf iv).toNat)
 case atStart => exact ⟨0, by omega, rfl, fun j hj => by omega, HB0⟩
 case round =>
  clear HB0
  obtain ⟨i, hi, rfl, HF, HB⟩ := hrel
  by_cases hlt : i < n
  ·obtain ⟨b, o, rfl, _, hc⟩ := (HA.out.below HB.out).at 3 (fun _ => rfl) (by omega) d (i := i) (by rw [HN.out]; exact hlt)
   have HR := zh (hc i (by rw [HN.out]; exact hlt))
   clear hc
   have HC := zh (HH.out i wr hlt HB.out)
   generalize xs.getD i d = x at *
   cases hp : p i
   all_goals
        rw [hp] at HC
        have HP := zh hp; clear hp
        go_wp2_with (refine wpList_ldIn (by rfl) _ _ rfl b (o + i * 3) rfl _ _ HR.out Tryz.underlying51 rfl (by kernel_rfl) ?_)
        refine HC.out.mono ?_
        rintro e W ⟨rfl, hb⟩
        have HBW : Hid (Below w.heap.size w W) := zh (HB.out.trans (hb.mono HB.out.size))
        clear hb
        go_wp2
   ·go_roundw
    case rel =>
     refine ⟨i + 1, by omega, by go_num, ?_, HBW⟩
     show ∀ j, j < i + 1 → p j = false
     intro j hj
     by_cases hjk : j = i
     ·rw [hjk]; exact HP.out
     ·exact HF.out j (by omega)
    case measure => simp [intOf]; omega
   ·go_ret
    exact ⟨ret_eq (int_eq (NM.fst_hit hlt HP.out HF.out).symm), HBW.out⟩
  ·obtain rfl : i = n := by omega
   go_wp2
   go_ret
   exact ⟨ret_eq (int_eq (NM.fst_miss HF.out).symm), HB.out⟩
theorem indexVar_any (A : Option Addr) (c : Nat) (xs : List (ByteArray × Int × Int)) (d : ByteArray × Int × Int) (F : FuncId) (cap : Array Value) (p : Nat → Bool) (w : World) (hl : xs.length ≤ 4294967296) (hA : Ls varC w A xs)
 (hf : ∀ args w, (callFunc F args).run Tryz.prog w = .ok (.enter F args) w)
 (H : ∀ j W, j < xs.length → Below w.heap.size w W → Calls Tryz.prog F (#[.agg (varC (xs.getD j d)).toArray] ++ cap) W fun e W' => e = .returned (.bool (p j)) ∧ Below W.heap.size W W') :
 Calls Tryz.prog 55 #[.slice A xs.length c, .func (.func F) #[] cap] w fun e w' => e = .returned (.int .i64 (NM.fst p xs.length)) ∧ Below w.heap.size w w' := by
 have HH := zh H; clear H
 have HA := zh hA; clear hA
 generalize hn : xs.length = n at *
 have HN := zh hn; clear hn
 have HB0 : Hid (Below w.heap.size w w) := zB _ _
 go_enter Tryz.func55, Tryz.ntmps55
 go_wp2
 go_loopw [8] (fun iv wr => ∃ i : Nat, i ≤ n ∧ iv = .int .i64 i ∧ Hid (∀ j, j < i → p j = false) ∧ Hid (Below w.heap.size w wr)) (fun iv _ => n - (intOf iv).toNat)
 case atStart => exact ⟨0, by omega, rfl, fun j hj => by omega, HB0⟩
 case round =>
  clear HB0
  obtain ⟨i, hi, rfl, HF, HB⟩ := hrel
  by_cases hlt : i < n
  ·obtain ⟨b, o, rfl, _, hc⟩ := (HA.out.below HB.out).at 3 (fun _ => rfl) (by omega) d (i := i) (by rw [HN.out]; exact hlt)
   have HR := zh (hc i (by rw [HN.out]; exact hlt))
   clear hc
   have HC := zh (HH.out i wr hlt HB.out)
   generalize xs.getD i d = x at *
   cases hp : p i
   all_goals
        rw [hp] at HC
        have HP := zh hp; clear hp
        go_wp2_with (refine wpList_ldIn (by rfl) _ _ rfl b (o + i * 3) rfl _ _ HR.out Tryz.underlying55 rfl (by kernel_rfl) ?_)
        refine HC.out.mono ?_
        rintro e W ⟨rfl, hb⟩
        have HBW : Hid (Below w.heap.size w W) := zh (HB.out.trans (hb.mono HB.out.size))
        clear hb
        go_wp2
   ·go_roundw
    case rel =>
     refine ⟨i + 1, by omega, by go_num, ?_, HBW⟩
     show ∀ j, j < i + 1 → p j = false
     intro j hj
     by_cases hjk : j = i
     ·rw [hjk]; exact HP.out
     ·exact HF.out j (by omega)
    case measure => simp [intOf]; omega
   ·go_ret
    exact ⟨ret_eq (int_eq (NM.fst_hit hlt HP.out HF.out).symm), HBW.out⟩
  ·obtain rfl : i = n := by omega
   go_wp2
   go_ret
   exact ⟨ret_eq (int_eq (NM.fst_miss HF.out).symm), HB.out⟩
theorem scFind1_any (x : ByteArray × Shp) (t : ByteArray) (g : Nat) (w : World) (hg : w.cell? ⟨g, 0, none⟩ = some (.string t)) (hlt : g < w.heap.size) :
 Calls Tryz.prog 54 #[.agg (latC x).toArray, .pointer (some ⟨g, 0, none⟩)] w fun e w' => e = .returned (.bool (decide (x.1 = t))) ∧ Below w.heap.size w w' := by
 have heq := NM.str_eq x.1 t
 have r0 := RowAt.new w 51 (latC x).toArray
 have hb : Below w.heap.size w (w.alloc (.cells (latC x).toArray 51)) := (zB _ _).alloc (zL _) _
 have c0 := (r0.cell 0).trans (show (latC x).toArray[0]? = some (.string x.1) from rfl)
 have c1 := (hb.cell (p := ⟨g, 0, none⟩) hlt).trans hg
 have HB := zh hb
 clear hb hg r0
 go_enter Tryz.func54, Tryz.ntmps54
 go_upto_region 1 with fail
 change Code.wp _ _ _ _ (w.alloc (.cells (latC x).toArray 51))
 generalize w.alloc (.cells (latC x).toArray 51) = w1 at *
 cases hd : decide (x.1 = t)
 all_goals
  rw [hd] at heq
  go_wp2
  go_ret
  exact ⟨ret_eq (bool_eq hd.symm), HB.out⟩
theorem scFind2_any (x : ByteArray × Int × Int) (t : ByteArray) (g : Nat) (w : World) (hg : w.cell? ⟨g, 0, none⟩ = some (.string t)) (hlt : g < w.heap.size) :
 Calls Tryz.prog 56 #[.agg (varC x).toArray, .pointer (some ⟨g, 0, none⟩)] w fun e w' => e = .returned (.bool (decide (x.1 = t))) ∧ Below w.heap.size w w' := by
 have heq := NM.str_eq x.1 t
 have r0 := RowAt.new w 55 (varC x).toArray
 have hb : Below w.heap.size w (w.alloc (.cells (varC x).toArray 55)) := (zB _ _).alloc (zL _) _
 have c0 := (r0.cell 0).trans (show (varC x).toArray[0]? = some (.string x.1) from rfl)
 have c1 := (hb.cell (p := ⟨g, 0, none⟩) hlt).trans hg
 have HB := zh hb
 clear hb hg r0
 go_enter Tryz.func56, Tryz.ntmps56
 go_upto_region 1 with fail
 change Code.wp _ _ _ _ (w.alloc (.cells (varC x).toArray 55))
 generalize w.alloc (.cells (varC x).toArray 55) = w1 at *
 cases hd : decide (x.1 = t)
 all_goals
  rw [hd] at heq
  go_wp2
  go_ret
  exact ⟨ret_eq (bool_eq hd.symm), HB.out⟩
theorem scFind_any (s : Sc) (t : ByteArray) (w : World) (h : ScOk w s) :
 Calls Tryz.prog 14 #[.agg (scv s), .string t] w fun e w' => e = .returned (.tuple #[.int .i64 (idx s.lnms t), .int .i64 (idx s.vnms t)]) ∧ Below w.heap.size w w' := by
 have r0 : RowAt ((w.alloc (.cells (scv s) 25)).alloc (.cells #[.string t] 9)) w.heap.size 25 (scv s) := (RowAt.new w _ _).alloc _
 have q0 : RowAt ((w.alloc (.cells (scv s) 25)).alloc (.cells #[.string t] 9)) (w.heap.size + 1) 9 #[.string t] := by
  have h := RowAt.new (w.alloc (.cells (scv s) 25)) 9 #[.string t]
  rw [show (w.alloc (.cells (scv s) 25)).heap.size = w.heap.size + 1 by simp] at h
  exact h
 have HB : Hid (Below w.heap.size w ((w.alloc (.cells (scv s) 25)).alloc (.cells #[.string t] 9))) := ((zB _ _).alloc (zL _) _).alloc (by simp) _
 go_enter Tryz.func14, Tryz.ntmps14
 go_upto_region 1 with fail
 change Code.wp _ _ _ _ ((w.alloc (.cells (scv s) 25)).alloc (.cells #[.string t] 9))
 generalize (w.alloc (.cells (scv s) 25)).alloc (.cells #[.string t] 9) = w1 at *
 obtain ⟨c0, c1, _, _⟩ := rw2 r0
 have h1 := h.below HB.out
 have HH := zh h1
 have HL : Hid (Calls Tryz.prog 53 #[.slice s.LA s.ls.length s.lc, .func (.func 54) #[] #[.pointer (some ⟨w.heap.size + 1, 0, none⟩)]] w1 fun e w' => e = .returned (.int .i64 (idx s.lnms t)) ∧ Below w1.heap.size w1 w') := by
  have hE : idx s.lnms t = NM.fst (fun j => decide ((s.ls.getD j lat0).1 = t)) s.ls.length := by
   have h3 : s.lnms.length = s.ls.length := by simp [Sc.lnms]
   unfold idx
   rw [h3]
   exact NM.fst_congr fun j hj => by rw [s.lget hj]
  rw [hE]
  exact indexLat_any _ _ _ lat0 _ _ _ w1 (by have := h.lfew; omega) h1.lats (fun _ _ => by kernel_rfl) fun j W hj hW => scFind1_any _ t (w.heap.size + 1) W ((hW.cell (p := ⟨w.heap.size + 1, 0, none⟩) q0.lt).trans (q0.cell 0)) (by have := q0.lt; have := hW.size; omega)
 have HV : Hid (∀ W, Below w1.heap.size w1 W → Calls Tryz.prog 55 #[.slice s.VA s.vs.length s.vc, .func (.func 56) #[] #[.pointer (some ⟨w.heap.size + 1, 0, none⟩)]] W fun e w' => e = .returned (.int .i64 (idx s.vnms t)) ∧ Below W.heap.size W w') := fun W0 h0 => by
  have hE : idx s.vnms t = NM.fst (fun j => decide ((s.vs.getD j var0).1 = t)) s.vs.length := by
   have h3 : s.vnms.length = s.vs.length := by simp [Sc.vnms]
   unfold idx
   rw [h3]
   exact NM.fst_congr fun j hj => by rw [s.vget hj]
  rw [hE]
  exact indexVar_any _ _ _ var0 _ _ _ W0 (by have := h.vfew; omega) (h1.vars.below h0) (fun _ _ => by kernel_rfl) fun j W hj hW => scFind2_any _ t (w.heap.size + 1) W ((hW.cell (p := ⟨w.heap.size + 1, 0, none⟩) (by have := h0.size; have := q0.lt; show w.heap.size + 1 < _; omega)).trans ((h0.cell (p := ⟨w.heap.size + 1, 0, none⟩) q0.lt).trans (q0.cell 0))) (by have := q0.lt; have := h0.size; have := hW.size; omega)
 have HC1 : Hid (∀ W, Below w1.heap.size w1 W → W.cell? ⟨w.heap.size, 1, none⟩ = some (.slice s.VA s.vs.length s.vc)) := zh fun W hW => (hW.cell (p := ⟨w.heap.size, 1, none⟩) r0.lt).trans c1
 clear r0 q0 h1 c1 h
 go_wp2_with (go_at_call 53; refine HL.out.mono ?_; rintro e w2 ⟨rfl, hb⟩; have HB2 := zh hb; have hc1 := HC1.out _ hb; have HV2 := zh (HV.out _ hb); clear hb)
 refine HV2.out.mono ?_
 rintro e w3 ⟨rfl, hb⟩
 go_wp2
 go_ret2
 exact ⟨rfl, HB.out.trans ((HB2.out.mono HB.out.size).trans (hb.mono (by have := HB.out.size; have := HB2.out.size; omega)))⟩
end
section
open Go.RowKit
theorem live1_any (s : Sc) (g j : Nat) (w : World) (hg : w.cell? ⟨g, 0, none⟩ = some (.slice s.LA s.ls.length s.lc)) (hA : Ls latC w s.LA s.ls) (hj : j < s.ls.length) (hl : s.ls.length ≤ 65536) :
 Calls Tryz.prog 92 #[.int .i64 (j : Nat), .pointer (some ⟨g, 0, none⟩)] w fun e w' => e = .returned (.string ((s.lnms).getD j ⟨#[]⟩)) ∧ w = w' := by
 have hx : (s.lnms).getD j ⟨#[]⟩ = (s.ls.getD j lat0).1 := s.lget hj
 rw [hx]
 obtain ⟨b, o, hA', _, hc⟩ := hA.at 3 (fun _ => rfl) (by omega) lat0 hj
 have hci := hc j hj 0 _ rfl
 rw [Nat.add_zero] at hci
 rw [hA'] at hg
 clear hc hx hA hA'
 generalize (s.ls.getD j lat0).1 = x at *
 generalize s.ls.length = n at *
 go_enter Tryz.func92, Tryz.ntmps92
 go_wp2
 go_ret
 exact ⟨rfl, rfl⟩
theorem live2_any (s : Sc) (g j : Nat) (w : World) (hg : w.cell? ⟨g, 1, none⟩ = some (.slice s.VA s.vs.length s.vc)) (hA : Ls varC w s.VA s.vs) (hj : j < s.vs.length) (hl : s.vs.length ≤ 65536) :
 Calls Tryz.prog 93 #[.int .i64 (j : Nat), .pointer (some ⟨g, 0, none⟩)] w fun e w' => e = .returned (.string ((s.vnms).getD j ⟨#[]⟩)) ∧ w = w' := by
 have hx : (s.vnms).getD j ⟨#[]⟩ = (s.vs.getD j var0).1 := s.vget hj
 rw [hx]
 obtain ⟨b, o, hA', _, hc⟩ := hA.at 3 (fun _ => rfl) (by omega) var0 hj
 have hci := hc j hj 0 _ rfl
 rw [Nat.add_zero] at hci
 rw [hA'] at hg
 clear hc hx hA hA'
 generalize (s.vs.getD j var0).1 = x at *
 generalize s.vs.length = n at *
 go_enter Tryz.func93, Tryz.ntmps93
 go_wp2
 go_ret
 exact ⟨rfl, rfl⟩
theorem indices1_any (A : Option Addr) (c : Nat) (ws : List (ByteArray × Int)) (g j : Nat) (w : World) (hg : w.cell? ⟨g, 0, none⟩ = some (.slice A ws.length c)) (hA : Ls wdC w A ws) (hj : j < ws.length) (hl : ws.length ≤ 4294967296) :
 Calls Tryz.prog 121 #[.int .i64 (j : Nat), .pointer (some ⟨g, 0, none⟩)] w fun e w' => e = .returned (.string ((ws.map Prod.fst).getD j ⟨#[]⟩)) ∧ w = w' := by
 have hx : (ws.map Prod.fst).getD j ⟨#[]⟩ = (ws.getD j (⟨#[]⟩, 0)).1 := getD_map' (d := (⟨#[]⟩, 0)) Prod.fst hj
 rw [hx]
 obtain ⟨b, o, hA', _, hc⟩ := hA.at 2 (fun _ => rfl) (by omega) (⟨#[]⟩, 0) hj
 have hci := hc j hj 0 _ rfl
 rw [Nat.add_zero] at hci
 rw [hA'] at hg
 clear hc hx hA hA'
 generalize (ws.getD j (⟨#[]⟩, 0)).1 = x at *
 generalize ws.length = n at *
 go_enter Tryz.func121, Tryz.ntmps121
 go_wp2
 go_ret
 exact ⟨rfl, rfl⟩
theorem indices_any (A : Option Addr) (c : Nat) (ws : List (ByteArray × Int)) (w : World) (hl : ws.length ≤ 4294967296) (hs : ∀ x ∈ ws.map Prod.fst, x.size ≤ maxLen) (hA : Ls wdC w A ws) :
 Calls Tryz.prog 96 #[.slice A ws.length c] w fun e w' => ∃ n, e = .returned (.map (some (w.heap.size + 1))) ∧ FMap w' (w.heap.size + 1) n (idx (ws.map Prod.fst)) ∧ Below w.heap.size w w' ∧ w.heap.size + 1 < w'.heap.size := by
 have r0 := RowAt.new w 28 #[.slice A ws.length c]
 have HB : Hid (Below w.heap.size w (w.alloc (.cells #[.slice A ws.length c] 28))) := (zB _ _).alloc (zL _) _
 have hz : (w.alloc (.cells #[.slice A ws.length c] 28)).heap.size = w.heap.size + 1 := by simp
 have c0 := (r0.cell 0).trans (show (#[Value.slice A ws.length c])[0]? = some (.slice A ws.length c) from rfl)
 have hA1 := hA.below HB.out
 have hlt := r0.lt
 have HF : Hid (Calls Tryz.prog 91 #[.int .i64 (ws.length : Nat), .func (.func 121) #[] #[.pointer (some ⟨w.heap.size, 0, none⟩)]] (w.alloc (.cells #[.slice A ws.length c] 28)) fun e w' => ∃ n, e = .returned (.map (some (w.heap.size + 1))) ∧ FMap w' (w.heap.size + 1) n (idx (ws.map Prod.fst)) ∧ Below (w.heap.size + 1) (w.alloc (.cells #[.slice A ws.length c] 28)) w' ∧ w.heap.size + 1 < w'.heap.size) := by
  have h := firsts_any (ws.map Prod.fst) 121 #[.pointer (some ⟨w.heap.size, 0, none⟩)] (w.alloc (.cells #[.slice A ws.length c] 28)) (by simpa using hl) hs (fun _ _ => by kernel_rfl) fun j W hj hW =>
   indices1_any A c ws w.heap.size j W ((hW.cell (p := ⟨w.heap.size, 0, none⟩) hlt).trans c0) (hA1.below hW) (by simpa using hj) hl
  rw [hz, List.length_map] at h
  exact h
 have HBO := HB.out
 clear hA hs hA1 hz r0 hlt
 generalize ws.length = n at *
 generalize ws.map Prod.fst = nm at *
 go_enter Tryz.func96, Tryz.ntmps96
 go_upto_region 1 with fail
 change Code.wp _ _ _ _ (w.alloc (.cells #[.slice A n c] 28))
 generalize w.alloc (.cells #[.slice A n c] 28) = w1 at *
 go_wp2_with (go_at_call 91; refine HF.out.mono ?_; rintro e w2 ⟨m, rfl, hf, hb, hl2⟩; have HR := zh hf; have HB2 := zh hb; have HL2 := zh hl2; clear hf hb hl2)
 go_ret
 exact ⟨m, rfl, HR.out, HBO.trans (HB2.out.mono (by omega)), HL2.out⟩
theorem liveIn_any (s : Sc) (w : World) (h : ScOk w s) :
 Calls Tryz.prog 45 #[.agg (scv s)] w fun e w' => ∃ B1 B2, e = .returned (.agg (lvv B1 B2)) ∧ w.heap.size ≤ B1 ∧ w.heap.size ≤ B2 ∧ LiveOk w' (idx s.lnms) (idx s.vnms) B1 B2 ∧ Below w.heap.size w w' := by
 have r0 : RowAt ((w.alloc (.cells (scv s) 25)).alloc (.cells #[.map none, .map none] 85)) w.heap.size 25 (scv s) := (RowAt.new w _ _).alloc _
 have q0 : RowAt ((w.alloc (.cells (scv s) 25)).alloc (.cells #[.map none, .map none] 85)) (w.heap.size + 1) 85 #[.map none, .map none] := by
  have h := RowAt.new (w.alloc (.cells (scv s) 25)) 85 #[.map none, .map none]
  rw [show (w.alloc (.cells (scv s) 25)).heap.size = w.heap.size + 1 by simp] at h
  exact h
 have HB : Hid (Below w.heap.size w ((w.alloc (.cells (scv s) 25)).alloc (.cells #[.map none, .map none] 85))) := ((zB _ _).alloc (zL _) _).alloc (by simp) _
 refine cHid fun Q' hQ => ?_
 have HQ := zh hQ; clear hQ
 go_enter Tryz.func45, Tryz.ntmps45
 go_upto_region 1 with fail
 change Code.wp _ _ _ _ ((w.alloc (.cells (scv s) 25)).alloc (.cells #[.map none, .map none] 85))
 generalize (w.alloc (.cells (scv s) 25)).alloc (.cells #[.map none, .map none] 85) = w1 at *
 have C0 : ∀ W, Below (w.heap.size + 1) w1 W → W.cell? ⟨w.heap.size, 0, none⟩ = some (.slice s.LA s.ls.length s.lc) := fun W hW => (hW.cell (p := ⟨w.heap.size, 0, none⟩) (by show w.heap.size < _; omega)).trans (r0.cell 0)
 have C1 : ∀ W, Below (w.heap.size + 1) w1 W → W.cell? ⟨w.heap.size, 1, none⟩ = some (.slice s.VA s.vs.length s.vc) := fun W hW => (hW.cell (p := ⟨w.heap.size, 1, none⟩) (by show w.heap.size < _; omega)).trans (r0.cell 1)
 have H1 : Hid (∀ W, Below (w.heap.size + 1) w1 W → Calls Tryz.prog 91 #[.int .i64 (s.ls.length : Nat), .func (.func 92) #[] #[.pointer (some ⟨w.heap.size, 0, none⟩)]] W fun e w' => ∃ n, e = .returned (.map (some W.heap.size)) ∧ FMap w' W.heap.size n (idx s.lnms) ∧ Below W.heap.size W w' ∧ W.heap.size < w'.heap.size) := zh fun W hW => by
  have hh := firsts_any s.lnms 92 #[.pointer (some ⟨w.heap.size, 0, none⟩)] W (by have := h.lfew; simp [Sc.lnms]; omega) h.lnm (fun _ _ => by kernel_rfl) fun j V hj hV =>
   live1_any s w.heap.size j V ((hV.cell (p := ⟨w.heap.size, 0, none⟩) (by have := hW.size; have := r0.lt; show w.heap.size < _; omega)).trans (C0 W hW)) (((h.below (HB.out.trans (hW.mono (by omega)))).lats).below hV) (by simpa [Sc.lnms] using hj) h.lfew
  rw [show s.lnms.length = s.ls.length by simp [Sc.lnms]] at hh
  exact hh
 have H2 : Hid (∀ W, Below (w.heap.size + 1) w1 W → Calls Tryz.prog 91 #[.int .i64 (s.vs.length : Nat), .func (.func 93) #[] #[.pointer (some ⟨w.heap.size, 0, none⟩)]] W fun e w' => ∃ n, e = .returned (.map (some W.heap.size)) ∧ FMap w' W.heap.size n (idx s.vnms) ∧ Below W.heap.size W w' ∧ W.heap.size < w'.heap.size) := zh fun W hW => by
  have hh := firsts_any s.vnms 93 #[.pointer (some ⟨w.heap.size, 0, none⟩)] W (by have := h.vfew; simp [Sc.vnms]; omega) h.vnm (fun _ _ => by kernel_rfl) fun j V hj hV =>
   live2_any s w.heap.size j V ((hV.cell (p := ⟨w.heap.size, 1, none⟩) (by have := hW.size; have := r0.lt; show w.heap.size < _; omega)).trans (C1 W hW)) (((h.below (HB.out.trans (hW.mono (by omega)))).vars).below hV) (by simpa [Sc.vnms] using hj) h.vfew
  rw [show s.vnms.length = s.vs.length by simp [Sc.vnms]] at hh
  exact hh
 clear h
 have HQ0 := zh q0
 have HQLT := zh q0.lt
 clear r0 q0
 generalize s.ls.length = ln at *
 generalize s.vs.length = vn at *
 have HSv0 : Hid (Below (w.heap.size + 1) w1 w1.drew) := zh (zB _ _).drew
 have HQRv0 : Hid (RowAt w1.drew (w.heap.size + 1) 85 #[.map none, .map none]) := HQ0
 refine wp_region_ou (fun w' => Below (w.heap.size + 1) w1 w') ((.take 0 (.take 1 (.take 2 (.take 3 (.take 5 (.take 6 (.take 7 (.take 8 (.solo 4 (.solo 9 (.take 10 (.solo 11 .nil))))))))))))) (by kernel_rfl) (by kernel_rfl) rfl (by kernel_rfl) HSv0.out ?_
 generalize w1.drew = v0 at HSv0 HQRv0 ⊢
 iterate 8
  (refine wpOU_step (zO rfl) ?_)
  (first
        | (refine wpOU_skip (by rfl) ?_)
        | (refine wpOU_take (v := ?_) (by rfl) ?_ ?_; rotate_left 1; (intro wx hSx; have hc_0 := C0 wx hSx; have hc_1 := C1 wx hSx; go_simp; try with_reducible rfl)))
  (try simp only [Act.put, zA4, zA5, zA6])
 (refine wpOU_solo (zO rfl) ?_)
 intro K hK
 go_simp
 go_at_call 91
 refine (H1.out v0 HSv0.out).mono ?_
 rintro e v1 ⟨m1, rfl, hf, hb, hlt⟩
 have HSv1 := zh (HSv0.out.trans (hb.mono (by have := HSv0.out.size; have := HQLT.out; omega)))
 have HF1 := zh hf
 have HZ1 : Hid (w.heap.size + 1 < v0.heap.size) := zh (by have := HSv0.out.size; have := HQLT.out; omega)
 have HQRv1 := zh (HQRv0.out.below hb (by have := HZ1.out; omega))
 have HL1 := zh hlt
 generalize hgb : v0.heap.size = B1 at *
 clear hb hf hlt hgb
 refine hK.out _ _ HSv1.out ?_
 clear hK K
 (try simp only [Act.put, zA4, zA5, zA6])
 (refine wpOU_solo (zO rfl) ?_)
 intro K hK
 go_simp
 go_at_call 91
 refine (H2.out v1 HSv1.out).mono ?_
 rintro e v2 ⟨m2, rfl, hf, hb, hlt⟩
 have HSv2 := zh (HSv1.out.trans (hb.mono (by have := HSv1.out.size; have := HQLT.out; omega)))
 have HF2 := zh hf
 have HZ2 : Hid (w.heap.size + 1 < v1.heap.size) := zh (by have := HSv1.out.size; have := HQLT.out; omega)
 have HQRv2 := zh (HQRv1.out.below hb (by have := HZ2.out; omega))
 have HL2 := zh hlt
 have HF3 := zh (HF1.out.below hb HF1.out.lt)
 generalize hgb : v1.heap.size = B2 at *
 clear hb hf hlt hgb
 refine hK.out _ _ HSv2.out ?_
 clear hK K
 (try simp only [Act.put, zA4, zA5, zA6])
 iterate 1
  (refine wpOU_step (zO rfl) ?_)
  (first
        | (refine wpOU_skip (by rfl) ?_)
        | (refine wpOU_take (v := ?_) (by rfl) ?_ ?_; rotate_left 1; (intro wx hSx; have hc_0 := C0 wx hSx; have hc_1 := C1 wx hSx; go_simp; try with_reducible rfl)))
  (try simp only [Act.put, zA4, zA5, zA6])
 (refine wpOU_solo (zO rfl) ?_)
 intro K hK
 rw [if_pos (by rfl)]
 have hq2 : RowAt v2 (w.heap.size + 1) 85 #[.map none, .map none] := HQRv2.out
 refine wp_store_row _ _ _ rfl (w.heap.size + 1) (lvv B1 B2) rfl rfl _ _ hq2 (by kernel_rfl) rfl (by simp [lvv, Value.oneCell']) ?_
 have hr3 := hq2.setRow (lvv B1 B2)
 have HR3 := zh hr3
 have HSv3 : Hid (Below (w.heap.size + 1) w1 (v2.setRow (w.heap.size + 1) (lvv B1 B2))) := zh (below_setRow HSv2.out (by omega) _)
 have HF4 : Hid (FMap (v2.setRow (w.heap.size + 1) (lvv B1 B2)) B1 m1 (idx s.lnms)) := zh (HF3.out.same (setRow_other _ _ _ _ (by have := HZ1.out; omega)))
 have HF5 : Hid (FMap (v2.setRow (w.heap.size + 1) (lvv B1 B2)) B2 m2 (idx s.vnms)) := zh (HF2.out.same (setRow_other _ _ _ _ (by have := HZ2.out; omega)))
 clear hq2 hr3
 refine hK.out _ _ HSv3.out ?_
 clear hK K
 (try simp only [Act.put, zA4, zA5, zA6])
 generalize v2.setRow (w.heap.size + 1) (lvv B1 B2) = v3 at *
 refine wpOU_done ?_
 go_wp2_with fail
 exact bodyPost_ret (retRow rfl _ _ (w.heap.size + 1) _ _ (0, 0) _ rfl HR3.out Tryz.underlying85 rfl (by kernel_rfl)) rfl (HQ.out _ _ ⟨B1, B2, rfl, by have := HZ1.out; omega, by have := HZ2.out; omega, ⟨m1, m2, HF4.out, HF5.out⟩, HB.out.trans (HSv3.out.mono (by omega))⟩)
end
section
open Go.RowKit
def wd0 : ByteArray × Int := (⟨#[]⟩, 0)
def wtx (ws : List (ByteArray × Int)) (i : Nat) : List ByteArray := (ws.take i).map Prod.fst
theorem wtx_succ {ws : List (ByteArray × Int)} {i : Nat} (h : i < ws.length) : wtx ws (i + 1) = wtx ws i ++ [(ws.getD i wd0).1] := by
 unfold wtx
 rw [List.take_succ_eq_append_getElem h, List.map_append, List.getD_eq_getElem?_getD, List.getElem?_eq_getElem h]
 rfl
theorem stexts_any (A : Option Addr) (c : Nat) (ws : List (ByteArray × Int)) (w : World) (hl : ws.length ≤ 4294967296) (hA : Sl w w.heap.size A (ws.flatMap wdC)) :
 Calls Tryz.prog 61 #[.slice A ws.length c] w fun e w' => ∃ X d, e = .returned (.slice X ws.length d) ∧ w'.ownsRow w.heap.size 9 1 (.slice X ws.length d) ws.length (scells (ws.map Prod.fst)) ∧ Below w.heap.size w w' := by
 have HA : Hid (Ls wdC w A ws) := zh hA; clear hA
 refine cHid fun Q' hQ => ?_
 have HQ := zh hQ; clear hQ
 generalize hn : ws.length = n at *
 have HN := zh hn; clear hn
 go_enter Tryz.func61, Tryz.ntmps61
 go_wp2_with fail
 go_loopw [3, 8, 5] (fun sv iv _ wr => ∃ (i d : Nat) (X : Option Addr), i ≤ n ∧ iv = .int .i64 (i : Int) ∧ sv = .slice X i d ∧ Hid (wr.ownsRow w.heap.size 9 1 (.slice X i d) i (scells (wtx ws i))) ∧ Hid (Below w.heap.size w wr)) (fun _ iv _ _ => n - (intOf iv).toNat)
 case atStart => exact ⟨0, 0, none, by omega, rfl, rfl, World.ownsRow_nil _ _ _ _, zB _ _⟩
 case round =>
  obtain ⟨i, d, X, hi, rfl, rfl, HO, HW⟩ := hrel
  by_cases hlt : i < n
  ·obtain ⟨b1, o1, rfl, _, hc1⟩ := (HA.out.below HW.out).at 2 (fun _ => rfl) (by omega) wd0 (i := i) (by rw [HN.out]; exact hlt)
   have p0 := hc1 i (by rw [HN.out]; exact hlt) 0 _ rfl
   have p1 := hc1 i (by rw [HN.out]; exact hlt) 1 _ rfl
   rw [Nat.add_zero] at p0
   have hin : (i : Int) < (n : Int) := by omega
   have HTK : Hid (wtx ws (i + 1) = wtx ws i ++ [(ws.getD i wd0).1]) := zh (wtx_succ (by rw [HN.out]; exact hlt))
   clear hc1
   have hbx : Below w.heap.size w (wr.alloc (.cells #[.string (ws.getD i wd0).1, .int .i64 (ws.getD i wd0).2] 27)) := HW.out.alloc HW.out.size _
   have hbx0 : Below wr.heap.size wr (wr.alloc (.cells #[.string (ws.getD i wd0).1, .int .i64 (ws.getD i wd0).2] 27)) := (zB _ _).alloc (zL _) _
   have HOx := zh (own_below HO.out hbx0 (zL _))
   have HBx := zh hbx
   obtain ⟨a0, a1, _, _⟩ := rw2 (RowAt.new wr 27 #[.string (ws.getD i wd0).1, .int .i64 (ws.getD i wd0).2])
   clear hbx hbx0
   generalize (ws.getD i wd0).1 = s1 at *
   generalize (ws.getD i wd0).2 = f1 at *
   go_upto_region 5 with fail
   change Code.wp _ _ _ _ (wr.alloc (.cells #[.string s1, .int .i64 f1] 27))
   generalize wr.alloc (.cells #[.string s1, .int .i64 f1] 27) = wc at *
   generalize wr.heap.size = gx at *
   clear p0 p1
   go_wp2_with (at_builtin; refine wpList_moreS _ rfl _ _ 69 rfl 9 (.string ⟨#[]⟩) 1 16 Tryz.underlying69 infoStrT rfl (by decide) w.heap.size X i d (scells (wtx ws i)) rfl ?c1 wc.heap.size [.string s1] rfl rfl ?c2 (by intro u hu; simp at hu; subst hu; rfl) ?c3 ?c4 ?c5 ?_)
   case c1 => exact own_below HOx.out ((zB _ _).alloc (zL _) _) (zL _)
   case c2 =>
        intro j u hu
        match j, hu with
        | 0, hu => exact ((RowAt.new wc 9 #[.string s1]).cell 0).trans hu
        | j + 1, hu => simp at hu
   case c3 => simp only [maxLen]; omega
   case c4 => omega
   case c5 => have := HBx.out.size; simp; omega
   intro X6 d6 w6 hown6 hb6 hg6 hat6
   have HO6 : Hid (w6.ownsRow w.heap.size 9 1 (.slice X6 (i + 1) d6) (i + 1) (scells (wtx ws (i + 1)))) := by
        rw [HTK.out, scs_app]; exact zh hown6
   have HB6 : Hid (Below w.heap.size w w6) := zh ((HBx.out.alloc HBx.out.size _).trans hb6)
   clear hown6 hb6 hg6 hat6
   go_wp2_with fail
   go_roundw
   case rel => exact ⟨i + 1, d6, X6, by omega, by go_num, rfl, HO6.out, HB6.out⟩
   case measure => simp [intOf]; omega
  ·obtain rfl : i = n := by omega
   have h := HO.out
   unfold wtx at h
   rw [List.take_of_length_le (by rw [HN.out]; omega)] at h
   have HS := zh h
   clear h
   go_wp2_with fail
   exact HQ.out _ _ ⟨X, d, rfl, HS.out, HW.out⟩
end
section
open Go.RowKit
theorem LiveOk.up {w w' : World} {fL fV : ByteArray → Int} {B1 B2 g : Nat} {v v' : Value} (h : LiveOk w fL fV B1 B2) (hu : Up g v v' w w') (h1 : B1 ≠ g ∧ v.ownBlock ≠ some B1) (h2 : B2 ≠ g ∧ v.ownBlock ≠ some B2) : LiveOk w' fL fV B1 B2 := by
 obtain ⟨n1, n2, h3, h4⟩ := h
 exact ⟨n1, n2, h3.up hu h1.1 h1.2, h4.up hu h2.1 h2.2⟩
theorem idx_own {xs : List ByteArray} {j : Nat} (hj : j < xs.length) : 0 ≤ idx xs (xs.getD j ⟨#[]⟩) := by
 unfold idx
 rcases NM.fst_cases (fun i => decide (xs.getD i ⟨#[]⟩ = xs.getD j ⟨#[]⟩)) xs.length with ⟨k, _, e, _, _⟩ | ⟨_, h0⟩
 ·rw [e]; omega
 ·exact absurd (h0 j hj) (by simp)
def nmS (fL fV : ByteArray → Int) (x : Cd) (i : Nat) : List (Int × Int) :=
 if x.op = 3 then [(clsF fL fV (x.ws.getD i wd0).1, (x.ws.getD i wd0).2)]
 else if (decide (idx x.txt (x.ws.getD i wd0).1 < i) || (dVar x.op && (clsF fL fV (x.ws.getD i wd0).1 != 3))) = true then [(3, (x.ws.getD i wd0).2)] else []
def namesK (fL fV : ByteArray → Int) (x : Cd) (k : Nat) : List (Int × Int) := (List.range k).flatMap (nmS fL fV x)
def namesF (fL fV : ByteArray → Int) (x : Cd) : List (Int × Int) := namesK fL fV x x.ws.length
theorem namesK_succ (fL fV : ByteArray → Int) (x : Cd) (k : Nat) : namesK fL fV x (k + 1) = namesK fL fV x k ++ nmS fL fV x k := by
 unfold namesK
 rw [List.range_succ, List.flatMap_append]; simp
theorem nmS_len (fL fV : ByteArray → Int) (x : Cd) (k : Nat) : (nmS fL fV x k).length ≤ 1 := by
 unfold nmS
 split
 ·simp
 ·split <;> simp
theorem namesK_len (fL fV : ByteArray → Int) (x : Cd) (k : Nat) : (namesK fL fV x k).length ≤ k := by
 induction k with
 | zero => simp [namesK]
 | succ k ih =>
   rw [namesK_succ, zA7]
   have := nmS_len fL fV x k
   omega
theorem word_at {w : World} {K : Nat} {x : Cd} (h : CdOk w K x) (hK : K ≤ w.heap.size) {k : Nat} (hk : k < x.ws.length) : ∃ b o, x.A = some ⟨b, o, none⟩ ∧ w.cell? ⟨b, o + k * 2, none⟩ = some (.string (x.ws.getD k wd0).1) ∧ w.cell? ⟨b, o + k * 2 + 1, none⟩ = some (.int .i64 (x.ws.getD k wd0).2) := by
 obtain ⟨b, o, hA, _, hc⟩ := Ls.at (g := wdC) (h.ws.mono hK) 2 (fun _ => rfl) (by omega) wd0 hk
 refine ⟨b, o, hA, ?_, ?_⟩
 ·have := hc k hk 0 _ rfl
  rwa [Nat.add_zero] at this
 ·exact hc k hk 1 _ rfl
theorem txt_get (x : Cd) {k : Nat} (hk : k < x.ws.length) : x.txt.getD k ⟨#[]⟩ = (x.ws.getD k wd0).1 := getD_map' (d := wd0) Prod.fst hk
theorem checkNames_any (fL fV : ByteArray → Int) (B1 B2 : Nat) (x : Cd) (K : Nat) (w : World) (g b0 : Nat) (L : List (Int × Int)) (v : Value) (hL : LiveOk w fL fV B1 B2) (hx : CdOk w K x) (hKg : K ≤ g) (hr : Rp w g b0 L v) (hl : L.length ≤ 4294000000)
 (hB1 : B1 ≠ g ∧ v.ownBlock ≠ some B1) (hB2 : B2 ≠ g ∧ v.ownBlock ≠ some B2) :
 Calls Tryz.prog 47 #[.agg (lvv B1 B2), .agg (cdv x), .func (.func 44) #[] #[.pointer (some ⟨g, 0, none⟩)]] w fun e w' => ∃ v', e = .returned (.tuple #[]) ∧ Rp w' g b0 (L ++ namesF fL fV x) v' ∧ Up g v v' w w' := by
 obtain ⟨r0, q0, hb⟩ := two_rows w (lvv B1 B2) (cdv x) 85 34
 refine cHid fun Q' hQ => ?_
 have HQ := zh hQ; clear hQ
 have hglt := hr.box.lt
 have hnv : ∀ k, w.heap.size ≤ k → v.ownBlock ≠ some k := fun k hk => hr.blk hk
 go_enter Tryz.func47, Tryz.ntmps47
 go_upto_region 1 with fail
 change Code.wp _ _ _ _ ((w.alloc (.cells (lvv B1 B2) 85)).alloc (.cells (cdv x) 34))
 generalize (w.alloc (.cells (lvv B1 B2) 85)).alloc (.cells (cdv x) 34) = w1 at *
 have HLV1 := hL.below hb
 have hr1 := hr.below hb
 have hx1 := hx.below (hb.mono (by omega))
 have hq1 := q0.lt
 have d4 := (cd_cells q0).2.2.2.2.1
 have HIX := zh (indices_any x.A x.c x.ws w1 (by have := hx.wfew; omega) hx.wn (hx1.ws.mono (by omega)))
 go_upto_region 2 with (go_at_call 96; refine HIX.out.mono ?_; rintro e w2 ⟨nm, rfl, hfm, hb2, hlt2⟩)
 have HFM : Hid (FMap w2 (w1.heap.size + 1) nm (idx x.txt)) := zh hfm
 have HLV2 := zh (HLV1.below hb2)
 have HR2 := zh (hr1.below hb2)
 have HX2 := zh (hx1.below (hb2.mono (by omega)))
 have HRL := zh (r0.below hb2 r0.lt)
 have HQC := zh (q0.below hb2 q0.lt)
 have HU2w : Hid (Up g v v w w2) := zh (Up.below (by omega) (hb.trans (hb2.mono (by have := hb.size; omega))))
 have e4 := (cd_cells HQC.out).2.2.2.2.1
 have hM : w1.heap.size + 1 ≠ g := by omega
 have HMM : Hid (v.ownBlock ≠ some (w1.heap.size + 1)) := zh (hnv _ (by have := hb.size; omega))
 have HNV := zh hnv
 have HZ2 := zh hlt2
 generalize hMM : w1.heap.size + 1 = M at *
 have HWW : Hid (w.heap.size + 1 < M) := zh (by omega)
 clear d4 hfm hb2 HIX hx1 hr1 HLV1 r0 q0 hb hq1 hMM hlt2
 have HLS := zh hx.wfew
 have HMX : Hid (∀ k, k < x.ws.length → (x.ws.getD k wd0).1.size ≤ maxLen) := zh fun k hk => hx.wn _ (List.mem_map_of_mem (f := Prod.fst) (getD_mem' hk))
 have HIO : Hid (∀ k, k < x.ws.length → 0 ≤ idx x.txt (x.ws.getD k wd0).1) := zh fun k hk => by
  rw [← txt_get x hk]
  exact idx_own (by simpa [Cd.txt] using hk)
 have HN : Hid (namesF fL fV x = namesK fL fV x x.ws.length) := zh rfl
 clear hx hr hL
 generalize hn : x.ws.length = n at *
 have HLN := zh hn; clear hn
 generalize hXA : x.A = XA at *
 have HXA := zh hXA; clear hXA
 have HN0 : Hid (L ++ namesK fL fV x 0 = L) := zh (by simp [namesK])
 have HKL : Hid (∀ k, k ≤ n → (L ++ namesK fL fV x k).length ≤ 4294967296) := zh fun k hk => by
  have := namesK_len fL fV x k
  have := HLS.out
  rw [zA7]; omega
 go_upto_region 3 with fail
 go_loopw [8, 15] (fun _ kv wr => ∃ (k : Nat) (vr : Value), k ≤ n ∧ kv = .int .i64 k ∧ Hid (Rp wr g b0 (L ++ namesK fL fV x k) vr) ∧ Hid (Up g v vr w2 wr)) (fun _ kv _ => n - (intOf kv).toNat)
 case atStart =>
  refine ⟨0, v, by omega, rfl, ?_, zh (Up.refl _ _ _)⟩
  show Rp w2 g b0 (L ++ namesK fL fV x 0) v
  rw [HN0.out]; exact HR2.out
 case round =>
  obtain ⟨k, vr, hk, rfl, HR, HU⟩ := hrel
  by_cases hlt : k < n
  ·have hgr := HR.out.box.lt
   have HLT := zh hlt
   have HGG := zh hgr
   have hk16 : k < 65536 := by have := HLS.out; omega
   obtain ⟨b1, o1, hA, p0, p1⟩ := word_at (HX2.out.below (HU.out.low.mono hKg)) (by omega) (k := k) (by rw [HLN.out]; exact hlt)
   have HTK : Hid (namesK fL fV x (k + 1) = namesK fL fV x k ++ nmS fL fV x k) := zh (namesK_succ _ _ _ _)
   have HNSd : Hid (nmS fL fV x k = if x.op = 3 then [(clsF fL fV (x.ws.getD k wd0).1, (x.ws.getD k wd0).2)] else if (decide (idx x.txt (x.ws.getD k wd0).1 < k) || (dVar x.op && (clsF fL fV (x.ws.getD k wd0).1 != 3))) = true then [(3, (x.ws.getD k wd0).2)] else []) := zh rfl
   have HSM := zh (HMX.out k hlt)
   have hio := HIO.out k hlt
   have HLL := zh (HKL.out k hk)
   have hlk := (HFM.out.up HU.out hM HMM.out).look HSM.out
   rw [if_pos hio] at hlk
   have HUx : Hid (Up g vr vr wr (wr.alloc (.cells #[.string (x.ws.getD k wd0).1, .int .i64 (x.ws.getD k wd0).2] 27))) := zh (Up.below (by omega) ((zB _ _).alloc (zL _) _))
   have HRw := zh (HR.out.below (w' := wr.alloc (.cells #[.string (x.ws.getD k wd0).1, .int .i64 (x.ws.getD k wd0).2] 27)) ((zB _ _).alloc (zL _) _))
   have HWD := zh (RowAt.new wr 27 #[.string (x.ws.getD k wd0).1, .int .i64 (x.ws.getD k wd0).2])
   have HVN : Hid (vr.ownBlock ≠ some wr.heap.size) := zh (HR.out.blk (zL _))
   have hA2 : XA = some ⟨b1, o1, none⟩ := HXA.out.symm.trans hA
   clear hA
   subst hA2
   generalize (x.ws.getD k wd0).1 = s1 at *
   generalize (x.ws.getD k wd0).2 = f1 at *
   generalize nmS fL fV x k = NS at *
   go_upto_region 5 with fail
   change Code.wp _ _ _ _ (wr.alloc (.cells #[.string s1, .int .i64 f1] 27))
   have hlk2 := (FMap.up (HFM.out.up HU.out hM HMM.out) HUx.out hM (HU.out.ne (by have := HFM.out.lt; omega) HMM.out)).look HSM.out
   rw [if_pos hio] at hlk2
   have HLKW := zh hlk2
   generalize wr.alloc (.cells #[.string s1, .int .i64 f1] 27) = wc at *
   generalize hgx : wr.heap.size = gx at *
   have hB1g : B1 < w2.heap.size ∧ B2 < w2.heap.size := HLV2.out.lt
   have HLVc : Hid (LiveOk wc fL fV B1 B2) := zh ((HLV2.out.up HU.out hB1 hB2).up HUx.out ⟨hB1.1, HU.out.ne hB1g.1 hB1.2⟩ ⟨hB2.1, HU.out.ne hB1g.2 hB2.2⟩)
   have HUc : Hid (Up g v vr w2 wc) := zh (HU.out.trans HUx.out)
   have HRLc := zh (HRL.out.up HUc.out (by omega) (hnv _ (by omega)))
   have HQCc := zh (HQC.out.up HUc.out (by omega) (hnv _ (by omega)))
   have HGX := zh HWD.out.lt
   obtain ⟨k0, _, _, _, _, _, _⟩ := cd_cells HQCc.out
   obtain ⟨a0, a1, _, _⟩ := rw2 HWD.out
   have hgc : g < wc.heap.size := by have := HUx.out.size; omega
   have HGC := zh hgc
   have HLKC : Hid (Sem.run Tryz.prog (Instr.lookup 83 (.map (some M)) (.string s1) false) wc = .ok (.int .i64 (idx x.txt s1)) wc) := HLKW
   have HBK : Hid (idx x.txt s1 < k ↔ idx x.txt s1 < (k : Int)) := zh Iff.rfl
   clear hlk hlk2 HLKW p0 p1 hB1g hio hgx
   generalize idx x.txt s1 = q at *
   by_cases h3 : x.op = 3
   ·have hns : NS = [(clsF fL fV s1, f1)] := by rw [HNSd.out, if_pos h3]
    have HNS := zh hns
    clear hns HNSd
    have q3 : (x.op == 3) = true := by simp [h3]
    have H3 := zh h3; clear h3
    go_upto_region 6 with fail
    have C0 : ∀ W, (∃ v', Up g vr v' wc W) → W.cell? ⟨w.heap.size, 0, none⟩ = some (.map (some B1)) := fun W ⟨v', hu⟩ => ((HRLc.out.up hu (by omega) (HU.out.ne (by have := HZ2.out; have := HWW.out; omega) (hnv _ (by omega)))).cell 0).trans rfl
    have C1 : ∀ W, (∃ v', Up g vr v' wc W) → W.cell? ⟨w.heap.size, 1, none⟩ = some (.map (some B2)) := fun W ⟨v', hu⟩ => ((HRLc.out.up hu (by omega) (HU.out.ne (by have := HZ2.out; have := HWW.out; omega) (hnv _ (by omega)))).cell 1).trans rfl
    have C2 : ∀ W, (∃ v', Up g vr v' wc W) → W.cell? ⟨gx, 0, none⟩ = some (.string s1) := fun W ⟨v', hu⟩ => ((HWD.out.up hu (by have := HGG.out; omega) HVN.out).cell 0).trans rfl
    have C3 : ∀ W, (∃ v', Up g vr v' wc W) → W.cell? ⟨gx, 1, none⟩ = some (.int .i64 f1) := fun W ⟨v', hu⟩ => ((HWD.out.up hu (by have := HGG.out; omega) HVN.out).cell 1).trans rfl
    clear a0 a1 k0
    have HSz0 : Hid (∃ v', Up g vr v' wc wc.drew) := zh ⟨vr, Up.below (by omega) (zB _ _).drew⟩
    have HU0 : Hid (Up g vr vr wc wc.drew) := zh (Up.below (by omega) (zB _ _).drew)
    have HRP0 := zh (HRw.out.below (zB _ _).drew)
    have HLV := zh (HLVc.out.below (zB _ _).drew)
    have HE : Hid (Up g v vr w2 wc) := HUc
    refine wp_region_ou (fun w' => ∃ v', Up g vr v' wc w') ((.take 0 (.take 1 (.take 2 (.take 3 (.take 5 (.take 6 (.solo 4 (.solo 7 .nil))))))))) (by kernel_rfl) (by kernel_rfl) rfl (by kernel_rfl) HSz0.out ?_
    generalize wc.drew = z0 at *
    have hgv0 : g ≤ z0.heap.size := by have := HU0.out.size; omega
    iterate 6
     (refine wpOU_step (zO rfl) ?_)
     (first
      | (refine wpOU_skip (by rfl) ?_)
      | (refine wpOU_take (v := ?_) (by rfl) ?_ ?_; rotate_left 1; (intro wx hSx; have hc_0 := C0 wx hSx; have hc_1 := C1 wx hSx; have hc_2 := C2 wx hSx; have hc_3 := C3 wx hSx; go_simp; try with_reducible rfl)))
     (try simp only [Act.put, zA4, zA5, zA6])
    (refine wpOU_solo (zO rfl) ?_)
    intro K hK
    go_simp
    go_at_call 94
    refine (llattice_any fL fV B1 B2 s1 z0 HLV.out HSM.out).mono ?_
    rintro e z1 ⟨rfl, hb⟩
    have HRP1 := zh (HRP0.out.below hb)
    have HU1 := zh (HU0.out.trans (Up.below hgv0 hb))
    have HSz1 : Hid (∃ v', Up g vr v' wc z1) := zh ⟨_, HU1.out⟩
    clear hb
    refine hK.out _ _ HSz1.out ?_
    clear hK K
    (try simp only [Act.put, zA4, zA5, zA6])
    (refine wpOU_solo (zO rfl) ?_)
    intro K hK
    go_simp
    refine (report_any _ _ z1 g b0 _ vr HRP1.out HLL.out).mono ?_
    rintro e z2 ⟨v', rfl, hr2, hu2⟩
    have HRP2 := zh hr2
    have HU2 := zh (HU1.out.trans hu2)
    have HSz2 : Hid (∃ v', Up g vr v' wc z2) := zh ⟨_, HU2.out⟩
    clear hr2 hu2
    refine hK.out _ _ HSz2.out ?_
    clear hK K
    (try simp only [Act.put, zA4, zA5, zA6])
    refine wpOU_done ?_
    have HRP9 := HRP2
    generalize v' = v9 at *
    go_wp2_with fail
    go_roundw
    case rel =>
     refine ⟨k + 1, v9, by have := HLT.out; omega, by go_num, ?_, ?_⟩
     ·show Rp _ g b0 (L ++ namesK fL fV x (k + 1)) v9
      rw [HTK.out, ← List.append_assoc, HNS.out]; exact HRP9.out
     ·exact zh (HE.out.trans HU2.out)
    case measure => have := HLT.out; simp [intOf]; omega
   ·have q3 : (x.op == 3) = false := by simp [h3]
    have hns : NS = if (decide (q < (k : Int)) || (dVar x.op && (clsF fL fV s1 != 3))) = true then [(3, f1)] else [] := by rw [HNSd.out, if_neg h3]
    have HNS := zh hns
    have H3 := zh h3; clear h3 hns HNSd
    have hlk := HLKC.out
    have HDV := zh (declVars_any x.op wc)
    have HHC := zh (lhas_any fL fV B1 B2 s1 wc HLVc.out HSM.out)
    have ha1 : ∀ W, Below wc.heap.size wc W → W.cell? ⟨gx, 1, none⟩ = some (.int .i64 f1) := fun W hW => (hW.cell (p := ⟨gx, 1, none⟩) HGX.out).trans a1
    by_cases hq : q < (k : Int)
    ·have hns : NS = [(3, f1)] := by rw [HNS.out, zE hq]; simp
     clear HNS
     have HNS := zh hns; clear hns
     go_wp2_with fail
     refine (report_any _ _ wc g b0 _ vr HRw.out HLL.out).mono ?_
     rintro e w5 ⟨v9, rfl, hr2, hu2⟩
     have HRP9 := zh hr2
     have HU9 := zh (HUc.out.trans hu2)
     clear hr2 hu2
     go_wp2_with fail
     go_roundw
     case rel =>
      refine ⟨k + 1, v9, by have := HLT.out; omega, by go_num, ?_, ?_⟩
      ·show Rp _ g b0 (L ++ namesK fL fV x (k + 1)) v9
       rw [HTK.out, ← List.append_assoc, HNS.out]; exact HRP9.out
      ·exact zh HU9.out
     case measure => have := HLT.out; simp [intOf]; omega
    ·have hqf : decide (q < (k : Int)) = false := zF hq
     cases hdv : dVar x.op with
     | false =>
       have hns : NS = [] := by rw [HNS.out, hqf, hdv]; simp
       clear HNS
       have HNS := zh hns; clear hns
       rw [hdv] at HDV
       clear hqf
       go_wp2_with (go_at_call 41; refine HDV.out.mono ?_; rintro e w5 ⟨rfl, rfl⟩)
       generalize vr = v9 at *
       skip
       go_roundw
       case rel =>
        refine ⟨k + 1, v9, by have := HLT.out; omega, by go_num, ?_, ?_⟩
        ·show Rp _ g b0 (L ++ namesK fL fV x (k + 1)) v9
         rw [HTK.out, ← List.append_assoc, HNS.out]; exact (by rw [List.append_nil]; exact HRw.out)
        ·exact zh HUc.out
       case measure => have := HLT.out; simp [intOf]; omega
     | true =>
       rw [hdv] at HDV
       cases hc : clsF fL fV s1 != 3
       all_goals
        have hns : NS = if (clsF fL fV s1 != 3) = true then [(3, f1)] else [] := by rw [HNS.out, hqf, hdv]; simp
        rw [hc] at HHC hns
        clear HNS
        have HNS := zh hns; clear hns
        clear hqf hc
        go_wp2_with (first
            | (go_at_call 41; refine HDV.out.mono ?_; rintro e w5 ⟨rfl, rfl⟩)
            | (refine wpList_loadS (by rfl) _ _ rfl w.heap.size rfl _ _ _ HRLc.out Tryz.underlying85 rfl (by kernel_rfl) ?_)
            | (go_at_call 95; refine HHC.out.mono ?_; rintro e w5 ⟨rfl, hb5⟩; have a5 := ha1 _ hb5; have HR5 := zh (HRw.out.below hb5); have HU5 := zh (HUc.out.trans (Up.below (by have := HGC.out; omega) hb5)); clear hb5 a0 a1 k0))
       ·generalize vr = v9 at *
        skip
        go_roundw
        case rel =>
            refine ⟨k + 1, v9, by have := HLT.out; omega, by go_num, ?_, ?_⟩
            ·show Rp _ g b0 (L ++ namesK fL fV x (k + 1)) v9
             rw [HTK.out, ← List.append_assoc, HNS.out]; simp; exact HR5.out
            ·exact zh HU5.out
        case measure => have := HLT.out; simp [intOf]; omega
       ·refine (report_any _ _ w5 g b0 _ vr HR5.out HLL.out).mono ?_
        rintro e w6 ⟨v9, rfl, hr2, hu2⟩
        have HRP9 := zh hr2
        have HU9 := zh (HU5.out.trans hu2)
        clear hr2 hu2
        go_wp2_with fail
        go_roundw
        case rel =>
            refine ⟨k + 1, v9, by have := HLT.out; omega, by go_num, ?_, ?_⟩
            ·show Rp _ g b0 (L ++ namesK fL fV x (k + 1)) v9
             rw [HTK.out, ← List.append_assoc, HNS.out, if_pos trivial]; exact HRP9.out
            ·exact zh HU9.out
        case measure => have := HLT.out; simp [intOf]; omega
  ·obtain rfl : k = n := by omega
   have hfin : Rp wr g b0 (L ++ namesF fL fV x) vr := by rw [HN.out]; exact HR.out
   have HFIN := zh hfin; clear hfin
   go_wp2_with fail
   exact bodyPost_ret (results_none rfl _ _ _) rfl (HQ.out _ _ ⟨vr, rfl, HFIN.out, HU2w.out.trans HU.out⟩)
end
section
open Go.RowKit
def dshI (s : Sc) (t : ByteArray) : List Shp := if 0 ≤ idx s.lnms t then [(s.ls.getD (idx s.lnms t).toNat lat0).2] else []
def dshK (s : Sc) (ws : List (ByteArray × Int)) (k : Nat) : List Shp := (List.range k).flatMap fun i => dshI s (ws.getD i wd0).1
def dshF (s : Sc) (ws : List (ByteArray × Int)) : List Shp := dshK s ws ws.length
theorem dshK_succ (s : Sc) (ws : List (ByteArray × Int)) (k : Nat) : dshK s ws (k + 1) = dshK s ws k ++ dshI s (ws.getD k wd0).1 := by
 unfold dshK
 rw [List.range_succ, List.flatMap_append]; simp
theorem dshK_len (s : Sc) (ws : List (ByteArray × Int)) (k : Nat) : (dshK s ws k).length ≤ k := by
 induction k with
 | zero => simp [dshK]
 | succ k ih =>
   rw [dshK_succ, zA7]
   have : (dshI s (ws.getD k wd0).1).length ≤ 1 := by unfold dshI; split <;> simp
   omega
theorem dsh_mem {s : Sc} {ws : List (ByteArray × Int)} {y : Shp} (h : y ∈ dshF s ws) : ∃ l ∈ s.ls, l.2 = y := by
 unfold dshF dshK at h
 obtain ⟨i, _, hy⟩ := List.mem_flatMap.1 h
 unfold dshI at hy
 split at hy
 ·rename_i h0
  have hy2 : y = (s.ls.getD (idx s.lnms (ws.getD i wd0).1).toNat lat0).2 := by simpa using hy
  have hb := (idn_bd s.lnms s.lnms.length (ws.getD i wd0).1).2
  rw [idn_all] at hb
  have hlen : s.lnms.length = s.ls.length := by simp [Sc.lnms]
  exact ⟨_, getD_mem' (d := lat0) (i := (idx s.lnms (ws.getD i wd0).1).toNat) (by omega), hy2.symm⟩
 ·cases hy
theorem infoShS : (Tryz.prog.info? 49).map (fun i => (i.zero, i.size, i.bytes)) = some (some (.agg #[.bool false, .slice none 0 0]), 2, 32) := by kernel_rfl
theorem run_live0 (B1 B2 : Nat) (w : World) : (Instr.field 85 (.agg #[.map (some B1), .map (some B2)]) 0).run Tryz.prog w = .ok (.map (some B1)) w := by kernel_rfl
theorem denoted_any (s : Sc) (A : Option Addr) (c : Nat) (ws : List (ByteArray × Int)) (w : World) (h : ScOk w s) (hl : ws.length ≤ 65536) (hs : ∀ t ∈ ws.map Prod.fst, t.size ≤ maxLen) (hA : Sl w w.heap.size A (ws.flatMap wdC)) :
 Calls Tryz.prog 63 #[.agg (scv s), .slice A ws.length c] w fun e w' => ∃ X d, e = .returned (.slice X (dshF s ws).length d) ∧ w'.ownsRow w.heap.size 49 2 (.slice X (dshF s ws).length d) (dshF s ws).length (shcells (dshF s ws)) ∧ Below w.heap.size w w' := by
 have r0 := RowAt.new w 25 (scv s)
 have hb : Below w.heap.size w (w.alloc (.cells (scv s) 25)) := (zB _ _).alloc (zL _) _
 refine cHid fun Q' hQ => ?_
 have HQ := zh hQ; clear hQ
 go_enter Tryz.func63, Tryz.ntmps63
 go_upto_region 2 with fail
 change Code.wp _ _ _ _ (w.alloc (.cells (scv s) 25))
 generalize w.alloc (.cells (scv s) 25) = w1 at *
 have h1 := h.below hb
 have HLI := zh (liveIn_any s w1 h1)
 have HR0 := zh r0
 have hr0 := r0.lt
 have hls : s.ls.length ≤ 65536 := h.lfew
 have hlen : s.lnms.length = s.ls.length := by simp [Sc.lnms]
 clear r0
 have hlv0 := run_live0
 go_upto_region 4 with (first
  | (refine wpList_loadS (by rfl) _ _ rfl w.heap.size rfl _ _ _ HR0.out Tryz.underlying25 rfl (by kernel_rfl) ?_)
  | (go_at_call 45; refine HLI.out.mono ?_; rintro e w2 ⟨B1, B2, rfl, hB1, hB2, hlv, hb2⟩; have HB2 := zh (hb.trans (hb2.mono (by have := hb.size; omega))); have HBW := zh hb2; obtain ⟨n1, n2, hf1, _⟩ := hlv; have HFM := zh hf1; clear hb2 hf1 hB1 hB2; simp only [lvv]))
 have HR2 := zh (HR0.out.below HBW.out hr0)
 have HOK := zh (h.below HB2.out)
 have HWS : Hid (Ls wdC w A ws) := zh hA
 have HMX : Hid (∀ k, k < ws.length → (ws.getD k wd0).1.size ≤ maxLen) := zh fun k hk => hs _ (List.mem_map_of_mem (f := Prod.fst) (getD_mem' hk))
 have HFL := HFM.out.lt
 have HFLT := zh HFL; clear HFL
 have HD : Hid (dshF s ws = dshK s ws ws.length) := zh rfl
 have HKL : Hid (∀ k, (dshK s ws k).length ≤ k) := zh (dshK_len s ws)
 have HIB : Hid (∀ t, idx s.lnms t < s.ls.length) := zh fun t => by
  have := (idn_bd s.lnms s.lnms.length t).2
  rw [idn_all] at this
  omega
 clear h h1 hA hs HLI HR0 hlen
 generalize hn : ws.length = n at *
 have HLN := zh hn; clear hn
 have HZZ : Hid (w.heap.size < w2.heap.size) := zh (by have := HBW.out.size; omega)
 go_loopw [5, 8, 16] (fun sv _ kv wr => ∃ (k d : Nat) (X : Option Addr), k ≤ n ∧ kv = .int .i64 k ∧ sv = .slice X (dshK s ws k).length d ∧ Hid (wr.ownsRow w2.heap.size 49 2 (.slice X (dshK s ws k).length d) (dshK s ws k).length (shcells (dshK s ws k))) ∧ Hid (Below w2.heap.size w2 wr)) (fun _ _ kv _ => n - (intOf kv).toNat)
 case atStart => exact ⟨0, 0, none, by omega, rfl, rfl, World.ownsRow_nil _ _ _ _, zh (zB _ _)⟩
 case round =>
  obtain ⟨k, d, X, hk, rfl, rfl, HO, HW⟩ := hrel
  by_cases hlt : k < n
  ·have HLT := zh hlt
   obtain ⟨b1, o1, rfl, _, hc1⟩ := (HWS.out.below (HB2.out.trans (HW.out.mono (by have := HZZ.out; omega)))).at 2 (fun _ => rfl) (by omega) wd0 (i := k) (by rw [HLN.out]; exact hlt)
   have p0 := hc1 k (by rw [HLN.out]; exact hlt) 0 _ rfl
   have p1 := hc1 k (by rw [HLN.out]; exact hlt) 1 _ rfl
   rw [Nat.add_zero] at p0
   have hin : (k : Int) < (n : Int) := by omega
   have HTK : Hid (dshK s ws (k + 1) = dshK s ws k ++ dshI s (ws.getD k wd0).1) := zh (dshK_succ _ _ _)
   have HSM := zh (HMX.out k hlt)
   have hk16 : k < 65536 := by omega
   have hkl := HKL.out k
   have hib := HIB.out (ws.getD k wd0).1
   have HDI : Hid (dshI s (ws.getD k wd0).1 = if 0 ≤ idx s.lnms (ws.getD k wd0).1 then [(s.ls.getD (idx s.lnms (ws.getD k wd0).1).toNat lat0).2] else []) := zh rfl
   clear hc1
   have hbx : Below wr.heap.size wr (wr.alloc (.cells #[.string (ws.getD k wd0).1, .int .i64 (ws.getD k wd0).2] 27)) := (zB _ _).alloc (zL _) _
   have HOx := zh (own_below HO.out hbx (zL _))
   have HBx : Hid (Below w2.heap.size w2 (wr.alloc (.cells #[.string (ws.getD k wd0).1, .int .i64 (ws.getD k wd0).2] 27))) := zh (HW.out.alloc HW.out.size _)
   obtain ⟨a0, a1, _, _⟩ := rw2 (RowAt.new wr 27 #[.string (ws.getD k wd0).1, .int .i64 (ws.getD k wd0).2])
   clear hbx
   generalize dshI s (ws.getD k wd0).1 = DI at *
   generalize (ws.getD k wd0).1 = s1 at *
   generalize (ws.getD k wd0).2 = f1 at *
   generalize hLK1 : dshK s ws (k + 1) = LK1 at *
   have HK1 := zh hLK1; clear hLK1
   generalize dshK s ws k = LK at *
   go_upto_region 6 with fail
   change Code.wp _ _ _ _ (wr.alloc (.cells #[.string s1, .int .i64 f1] 27))
   generalize wr.alloc (.cells #[.string s1, .int .i64 f1] 27) = wc at *
   generalize wr.heap.size = gx at *
   have k1 := (HFM.out.below HBx.out HFLT.out).ok HSM.out
   have HRc := zh (HR2.out.below HBx.out (by have := HZZ.out; omega))
   obtain ⟨g0, g1, _, _⟩ := rw2 HRc.out
   clear p0 p1
   by_cases ha : 0 ≤ idx s.lnms s1
   ·obtain ⟨m, hm⟩ := Int.eq_ofNat_of_zero_le ha
    have hE : LK1 = LK ++ [(s.ls.getD m lat0).2] := by rw [HTK.out, HDI.out, if_pos ha, hm]; rfl
    rw [if_pos ha, zE ha] at k1
    rw [hm] at k1 hib
    have HE := zh hE
    have HA := zh ha; have HM := zh hm
    clear hE ha hm HTK HDI
    have hml : m < s.ls.length := by omega
    obtain ⟨b2, o2, hL, _, hc2⟩ := (HOK.out.lats.below HBx.out).at 3 (fun _ => rfl) (by omega) lat0 hml
    have q1 := hc2 m hml 1 _ rfl
    have q2 := hc2 m hml 2 _ rfl
    rw [hL] at g0
    have HLL : Hid (LK1.length = LK.length + 1) := zh (by rw [HE.out]; simp)
    have HFL : Hid (shcells LK1 = shcells LK ++ [.bool (s.ls.getD m lat0).2.t, .slice (s.ls.getD m lat0).2.A (s.ls.getD m lat0).2.fs.length (s.ls.getD m lat0).2.c]) := zh (by rw [HE.out]; simp [shcells, shc])
    clear hc2 hL HE
    generalize (s.ls.getD m lat0).2 = sh at *
    generalize shcells LK = CS at *
    generalize LK.length = ln at *
    generalize s.ls.length = lsn at *
    go_wp2_with (at_builtin; refine wpList_moreS _ rfl _ _ 107 rfl 49 (.agg #[.bool false, .slice none 0 0]) 2 32 Tryz.underlying107 infoShS rfl (by decide) w2.heap.size X ln d CS rfl ?c1 wc.heap.size [.bool sh.t, .slice sh.A sh.fs.length sh.c] rfl rfl ?c2 (by intro u hu; simp at hu; rcases hu with rfl | rfl <;> rfl) ?c3 ?c4 ?c5 ?_)
    case c1 => exact own_below HOx.out ((zB _ _).alloc (zL _) _) (zL _)
    case c2 =>
     intro j u hu
     have hr := RowAt.new wc 49 #[.bool sh.t, .slice sh.A sh.fs.length sh.c]
     match j, hu with
     | 0, hu => exact (hr.cell 0).trans hu
     | 1, hu => exact (hr.cell 1).trans hu
     | j + 2, hu => simp at hu
    case c3 => simp only [maxLen]; omega
    case c4 => omega
    case c5 => have := HBx.out.size; simp; omega
    intro X6 d6 w6 hown6 hb6 hg6 hat6
    have HO6 : Hid (w6.ownsRow w2.heap.size 49 2 (.slice X6 LK1.length d6) LK1.length (shcells LK1)) := by
     rw [HLL.out, HFL.out]; exact zh hown6
    have HB6 : Hid (Below w2.heap.size w2 w6) := zh ((HBx.out.alloc HBx.out.size _).trans hb6)
    clear hown6 hb6 hg6 hat6
    go_wp2_with fail
    go_roundw
    case rel => exact ⟨k + 1, d6, X6, by have := HLT.out; omega, by go_num, by rw [HK1.out, HLL.out], by rw [HK1.out]; exact HO6, HB6⟩
    case measure => have := HLT.out; simp [intOf]; omega
   ·have hE : LK1 = LK := by rw [HTK.out, HDI.out, if_neg ha]; simp
    have HE := zh hE
    rw [if_neg ha, zF ha] at k1
    have HA := zh ha
    clear hE ha HTK HDI
    go_wp2_with fail
    go_roundw
    case rel => exact ⟨k + 1, d, X, by have := HLT.out; omega, by go_num, by rw [HK1.out, HE.out], by rw [HK1.out, HE.out]; exact HOx, HBx⟩
    case measure => have := HLT.out; simp [intOf]; omega
  ·obtain rfl : k = n := by omega
   rw [← HD.out] at HO ⊢
   generalize dshF s ws = DF at *
   go_wp2_with fail
   exact HQ.out _ _ ⟨X, d, rfl, own_mono HO.out (by have := HZZ.out; omega), HB2.out.trans (HW.out.mono (by have := HZZ.out; omega))⟩
end
section
open Go.RowKit
def tooB (s : Sc) (x : Cd) : Bool :=
 if (dLat x.op && decide (16 ≤ s.ls.length)) = true then true
 else if x.op = 1 ∨ x.op = 2 ∨ x.op = 5 then decide (64 < x.ws.length)
 else if x.op = 4 then decide (8 < x.ws.length)
 else if x.op = 3 then decide (8 < (flat (dshF s x.ws)).length)
 else decide (64 < s.vs.length + x.ws.length)
theorem flat_succ (L : List Shp) (k : Nat) (h : k < L.length) : (flat (L.take (k + 1))).length = (flat (L.take k)).length + (L.getD k s0).fs.length := by
 rw [flat_take L k h, zA7]
theorem flat_bd (L : List Shp) (M k : Nat) (h : ∀ y ∈ L, y.fs.length ≤ M) : (flat (L.take k)).length ≤ k * M := by
 induction k with
 | zero => simp [flat]
 | succ k ih =>
   rw [Nat.succ_mul]
   by_cases hk : k < L.length
   ·rw [flat_succ L k hk]
    have := h _ (sget_mem hk)
    omega
   ·rw [List.take_of_length_le (by omega)]
    rw [List.take_of_length_le (by omega)] at ih
    omega
theorem tooMany_any (s : Sc) (x : Cd) (w : World) (h : ScOk w s) (hx : CdOk w w.heap.size x) :
 Calls Tryz.prog 51 #[.agg (scv s), .agg (cdv x)] w fun e w' => e = .returned (.bool (tooB s x)) ∧ Below w.heap.size w w' := by
 obtain ⟨r0, q0, hb⟩ := two_rows w (scv s) (cdv x) 25 34
 refine cHid fun Q' hQ => ?_
 have HQ := zh hQ; clear hQ
 have HB := zh hb
 have HT : Hid (tooB s x = if (dLat x.op && decide (16 ≤ s.ls.length)) = true then true else if x.op = 1 ∨ x.op = 2 ∨ x.op = 5 then decide (64 < x.ws.length) else if x.op = 4 then decide (8 < x.ws.length) else if x.op = 3 then decide (8 < (flat (dshF s x.ws)).length) else decide (64 < s.vs.length + x.ws.length)) := zh rfl
 have HDL := zh (declLat_any x.op)
 go_enter Tryz.func51, Tryz.ntmps51
 go_upto_region 1 with fail
 change Code.wp _ _ _ _ ((w.alloc (.cells (scv s) 25)).alloc (.cells (cdv x) 34))
 generalize (w.alloc (.cells (scv s) 25)).alloc (.cells (cdv x) 34) = w1 at *
 have HOK := zh (h.below hb)
 have HX := zh (hx.below hb)
 have HRS := zh r0
 have HRC := zh q0
 obtain ⟨c0, c1, _, _⟩ := rw2 r0
 obtain ⟨d0, d1, d2, d3, d4, d5, d6⟩ := cd_cells q0
 have hls : s.ls.length ≤ 65536 := h.lfew
 have hvs : s.vs.length ≤ 65536 := h.vfew
 have hws : x.ws.length ≤ 65536 := hx.wfew
 have HDN := zh (denoted_any s x.A x.c x.ws w1 HOK.out hws hx.wn (HX.out.ws.mono (by have := hb.size; omega)))
 have HSZ := zh hb.size
 clear h hx hb r0 q0 d1 d2 d3 d5 d6
 have HD := HDL.out w1
 cases hdl : dLat x.op && decide (16 ≤ s.ls.length) with
 | true =>
   rw [hdl] at HT
   have ht : tooB s x = true := by rw [HT.out]; simp
   rw [Bool.and_eq_true, decide_eq_true_eq] at hdl
   obtain ⟨h1, h2⟩ := hdl
   rw [h1] at HD
   rw [ht] at HQ
   have HD2 := zh HD; clear HD HT ht h1
   generalize s.ls.length = ln at *
   go_wp2_with (go_at_call 40; refine HD2.out.mono ?_; rintro e w2 ⟨rfl, rfl⟩)
   exact HQ.out _ _ ⟨rfl, HB.out⟩
 | false =>
   rw [hdl] at HT
   have ht : tooB s x = if x.op = 1 ∨ x.op = 2 ∨ x.op = 5 then decide (64 < x.ws.length) else if x.op = 4 then decide (8 < x.ws.length) else if x.op = 3 then decide (8 < (flat (dshF s x.ws)).length) else decide (64 < s.vs.length + x.ws.length) := by rw [HT.out]; simp
   have HT2 := zh ht
   have HD2 := zh HD; clear HD HT ht
   generalize tooB s x = TB at *
   have hor : dLat x.op = false ∨ ¬ (16 ≤ s.ls.length) := by
    rw [Bool.and_eq_false_iff, decide_eq_false_iff_not] at hdl
    exact hdl
   clear hdl
   by_cases hop : x.op = 1 ∨ x.op = 2 ∨ x.op = 5 ∨ x.op = 4 ∨ x.op = 3
   ·have h1 : dLat x.op = true := by unfold dLat; rw [decide_eq_true_eq]; omega
    have h2 : ¬ (16 ≤ s.ls.length) := by
        rcases hor with e | e
        ·rw [h1] at e; cases e
        ·exact e
    clear hor
    rw [h1] at HD2
    have h3 : s.ls.length < 16 := by omega
    clear h2 h1
    generalize hxo : x.op = op at *
    have HXO := zh hxo; clear hxo
    rcases hop with rfl | rfl | rfl | rfl | rfl
    ·have ht := HT2.out
     rw [if_pos (by simp)] at ht
     have HT3 := zh ht; clear ht HT2
     generalize x.ws.length = n at *
     generalize s.ls.length = ln at *
     go_wp2_with (go_at_call 40; refine HD2.out.mono ?_; rintro e w2 ⟨rfl, rfl⟩)
     exact HQ.out _ _ ⟨ret_eq (bool_eq (by rw [HT3.out, Bool.eq_iff_iff]; simp <;> omega)), HB.out⟩
    ·have ht := HT2.out
     rw [if_pos (by simp)] at ht
     have HT3 := zh ht; clear ht HT2
     generalize x.ws.length = n at *
     generalize s.ls.length = ln at *
     go_wp2_with (go_at_call 40; refine HD2.out.mono ?_; rintro e w2 ⟨rfl, rfl⟩)
     exact HQ.out _ _ ⟨ret_eq (bool_eq (by rw [HT3.out, Bool.eq_iff_iff]; simp <;> omega)), HB.out⟩
    ·have ht := HT2.out
     rw [if_pos (by simp)] at ht
     have HT3 := zh ht; clear ht HT2
     generalize x.ws.length = n at *
     generalize s.ls.length = ln at *
     go_wp2_with (go_at_call 40; refine HD2.out.mono ?_; rintro e w2 ⟨rfl, rfl⟩)
     exact HQ.out _ _ ⟨ret_eq (bool_eq (by rw [HT3.out, Bool.eq_iff_iff]; simp <;> omega)), HB.out⟩
    ·have ht := HT2.out
     rw [if_neg (by simp), if_pos rfl] at ht
     have HT3 := zh ht; clear ht HT2
     generalize x.ws.length = n at *
     generalize s.ls.length = ln at *
     go_wp2_with (go_at_call 40; refine HD2.out.mono ?_; rintro e w2 ⟨rfl, rfl⟩)
     exact HQ.out _ _ ⟨ret_eq (bool_eq (by rw [HT3.out, Bool.eq_iff_iff]; simp <;> omega)), HB.out⟩
    ·have ht := HT2.out
     rw [if_neg (by simp), if_neg (by decide), if_pos rfl] at ht
     have HT3 := zh ht; clear ht HT2
     have HFE : Hid (∀ y ∈ dshF s x.ws, y.fs.length ≤ 65536) := zh fun y hy => by
         obtain ⟨l, hl, rfl⟩ := dsh_mem hy
         exact (HOK.out.sh l hl).few
     have HLD := zh (dshK_len s x.ws x.ws.length)
     have HDD : Hid (dshF s x.ws = dshK s x.ws x.ws.length) := zh rfl
     rw [← HDD.out] at HLD
     generalize dshF s x.ws = DF at *
     generalize x.ws.length = n at *
     generalize s.ls.length = ln at *
     have hdn : DF.length ≤ 65536 := by have := HLD.out; omega
     have HFT : Hid (∀ k, k < DF.length → (flat (DF.take (k + 1))).length = (flat (DF.take k)).length + (DF.getD k s0).fs.length) := zh (flat_succ DF)
     have HFB : Hid (∀ k, (flat (DF.take k)).length ≤ k * 65536) := zh fun k => flat_bd DF 65536 k HFE.out
     have HFA : Hid ((flat (DF.take DF.length)).length = (flat DF).length) := zh (by rw [List.take_length])
     have HF0 : Hid ((flat (DF.take 0)).length = 0) := zh rfl
     have HGF : Hid (∀ k, k < DF.length → (DF.getD k s0).fs.length ≤ 65536) := zh fun k hk => HFE.out _ (sget_mem hk)
     go_wp2_with (first
         | (go_at_call 40; refine HD2.out.mono ?_; rintro e w2 ⟨rfl, rfl⟩)
         | (refine wpList_loadS (by rfl) _ _ rfl w.heap.size rfl _ _ _ HRS.out Tryz.underlying25 rfl (by kernel_rfl) ?_)
         | (go_at_call 63; refine HDN.out.mono ?_; rintro e w3 ⟨X, d, rfl, hown, hb3⟩; have HSL := zh (Sl.of_own hown); have HB3 := zh hb3; clear hown hb3))
     generalize hdl : DF.length = dl at *
     have HDL2 := zh hdl; clear hdl
     go_loopw [5, 7, 40] (fun sv _ kv wr => ∃ k : Nat, k ≤ dl ∧ kv = .int .i64 k ∧ sv = .int .i64 ((flat (DF.take k)).length : Nat) ∧ Hid (Below w3.heap.size w3 wr)) (fun _ _ kv _ => dl - (intOf kv).toNat)
     case atStart => exact ⟨0, by omega, rfl, by rw [HF0.out]; rfl, zh (zB _ _)⟩
     case round =>
         obtain ⟨k, hk, rfl, rfl, HW⟩ := hrel
         by_cases hlt : k < dl
         ·have HLT := zh hlt
          have hsl := (Sl.below HSL.out HW.out)
          have hat : ∀ j u, (shc (DF.getD k s0))[j]? = some u → (shcells DF)[k * 2 + j]? = some u := fun j u hu => by
            have hj : j < 2 := by have := (List.getElem?_eq_some_iff.1 hu).1; simpa [shc] using this
            rw [shcells_at DF k j (by first | exact hlt | (rw [HDL2.out]; exact hlt)) hj]; exact hu
          obtain ⟨b, o, rfl, _, hc⟩ := hsl (fun e => by have := hat 0 _ rfl; rw [e] at this; simp at this)
          have p0 := hc _ _ (hat 0 _ rfl)
          have p1 := hc _ _ (hat 1 _ rfl)
          rw [← Nat.add_assoc] at p0 p1
          rw [Nat.add_zero] at p0
          have HFS := zh (HFT.out k hlt)
          have hf1 := HFB.out k
          have hf2 := HGF.out k hlt
          have hk16 : k < 65536 := by omega
          have HBx : Hid (Below w3.heap.size w3 (wr.alloc (.cells #[.bool (DF.getD k s0).t, .slice (DF.getD k s0).A (DF.getD k s0).fs.length (DF.getD k s0).c] 49))) := zh (HW.out.alloc HW.out.size _)
          obtain ⟨a0, a1, _, _⟩ := rw2 (RowAt.new wr 49 #[.bool (DF.getD k s0).t, .slice (DF.getD k s0).A (DF.getD k s0).fs.length (DF.getD k s0).c])
          clear hc hat hsl
          generalize (DF.getD k s0).t = t1 at *
          generalize (DF.getD k s0).A = A1 at *
          generalize (DF.getD k s0).fs.length = l1 at *
          generalize (DF.getD k s0).c = cc1 at *
          generalize hfk : (flat (DF.take (k + 1))).length = fk1 at *
          have HFK := zh hfk; clear hfk
          generalize (flat (DF.take k)).length = fk at *
          go_upto_region 15 with fail
          change Code.wp _ _ _ _ (wr.alloc (.cells #[.bool t1, .slice A1 l1 cc1] 49))
          generalize wr.alloc (.cells #[.bool t1, .slice A1 l1 cc1] 49) = wc at *
          generalize wr.heap.size = gx at *
          clear p0 p1
          go_wp2_with fail
          go_roundw
          case rel => exact ⟨k + 1, by have := HLT.out; omega, by go_num, by rw [HFK.out, HFS.out]; go_num, HBx⟩
          case measure => have := HLT.out; simp [intOf]; omega
         ·obtain rfl : k = dl := by omega
          have hf1 := HFB.out k
          rw [HFA.out] at hf1 ⊢
          generalize (flat DF).length = fl at *
          go_wp2_with fail
          exact HQ.out _ _ ⟨ret_eq (bool_eq (by rw [HT3.out, Bool.eq_iff_iff]; simp <;> omega)), HB.out.trans ((HB3.out.mono HSZ.out).trans (HW.out.mono (by have := HSZ.out; have := HB3.out.size; omega)))⟩
   ·have h1 : dLat x.op = false := by unfold dLat; rw [decide_eq_false_iff_not]; omega
    rw [h1] at HD2
    have ht := HT2.out
    rw [if_neg (by omega), if_neg (by omega), if_neg (by omega)] at ht
    have HT3 := zh ht; clear ht HT2
    have n1 : (x.op == 1) = false := by simp; omega
    have n2 : (x.op == 2) = false := by simp; omega
    have n3 : (x.op == 3) = false := by simp; omega
    have n4 : (x.op == 4) = false := by simp; omega
    have n5 : (x.op == 5) = false := by simp; omega
    clear hop hor h1
    generalize x.op = op at *
    generalize x.ws.length = n at *
    generalize s.vs.length = vn at *
    generalize s.ls.length = ln at *
    go_wp2_with (go_at_call 40; refine HD2.out.mono ?_; rintro e w2 ⟨rfl, rfl⟩)
    exact HQ.out _ _ ⟨ret_eq (bool_eq (by rw [HT3.out, Bool.eq_iff_iff]; simp <;> omega)), HB.out⟩
end
section
open Go.RowKit
def pw0 : (ByteArray × Int) × (ByteArray × Int) := (wd0, wd0)
def prS (x : Cd) (y : ByteArray × Int) : List (Int × Int) := if 0 ≤ idx x.txt y.1 then [] else [(3, y.2)]
def pairsK (x : Cd) (k : Nat) : List (Int × Int) := (List.range k).flatMap fun i => prS x (x.ps.getD i pw0).1 ++ prS x (x.ps.getD i pw0).2
def pairsF (x : Cd) : List (Int × Int) := pairsK x x.ps.length
theorem pairsK_succ (x : Cd) (k : Nat) : pairsK x (k + 1) = pairsK x k ++ (prS x (x.ps.getD k pw0).1 ++ prS x (x.ps.getD k pw0).2) := by
 unfold pairsK
 rw [List.range_succ, List.flatMap_append]; simp
theorem prS_len (x : Cd) (y : ByteArray × Int) : (prS x y).length ≤ 1 := by
 unfold prS
 split <;> simp
theorem pairsK_len (x : Cd) (k : Nat) : (pairsK x k).length ≤ 2 * k := by
 induction k with
 | zero => simp [pairsK]
 | succ k ih =>
   rw [pairsK_succ, zA7, zA7]
   have := prS_len x (x.ps.getD k pw0).1
   have := prS_len x (x.ps.getD k pw0).2
   omega
theorem pair_at {w : World} {K : Nat} {x : Cd} (h : CdOk w K x) (hK : K ≤ w.heap.size) {k : Nat} (hk : k < x.ps.length) : ∃ b o, x.B = some ⟨b, o, none⟩ ∧ w.rangeAt b (o + k * 4) (pwC (x.ps.getD k pw0)) := by
 obtain ⟨b, o, hA, _, hc⟩ := Ls.at (g := pwC) (h.ps.mono hK) 4 (fun _ => rfl) (by omega) pw0 hk
 exact ⟨b, o, hA, hc k hk⟩
theorem idxP1 (s1 s2 : ByteArray) (f1 f2 : Int) (w : World) : (Instr.index 74 (.agg (pwC ((s1, f1), (s2, f2))).toArray) (.int .i64 0)).run Tryz.prog w = .ok (.agg #[.string s1, .int .i64 f1]) w := by kernel_rfl
theorem idxP2 (s1 s2 : ByteArray) (f1 f2 : Int) (w : World) : (Instr.index 74 (.agg (pwC ((s1, f1), (s2, f2))).toArray) (.int .i64 1)).run Tryz.prog w = .ok (.agg #[.string s2, .int .i64 f2]) w := by kernel_rfl
theorem checkPairs_any (x : Cd) (K : Nat) (w : World) (g b0 : Nat) (L : List (Int × Int)) (v : Value) (hx : CdOk w K x) (hKg : K ≤ g) (hr : Rp w g b0 L v) (hl : L.length ≤ 4294000000) :
 Calls Tryz.prog 48 #[.agg (cdv x), .func (.func 44) #[] #[.pointer (some ⟨g, 0, none⟩)]] w fun e w' => ∃ v', e = .returned (.tuple #[]) ∧ Rp w' g b0 (L ++ pairsF x) v' ∧ Up g v v' w w' := by
 have q0 := RowAt.new w 34 (cdv x)
 have hb : Below w.heap.size w (w.alloc (.cells (cdv x) 34)) := (zB _ _).alloc (zL _) _
 refine cHid fun Q' hQ => ?_
 have HQ := zh hQ; clear hQ
 have hglt := hr.box.lt
 have hnv : ∀ k, w.heap.size ≤ k → v.ownBlock ≠ some k := fun k hk => hr.blk hk
 go_enter Tryz.func48, Tryz.ntmps48
 go_upto_region 1 with fail
 change Code.wp _ _ _ _ (w.alloc (.cells (cdv x) 34))
 generalize w.alloc (.cells (cdv x) 34) = w1 at *
 have hr1 := hr.below hb
 have hx1 := hx.below (hb.mono (by omega))
 have hq1 := q0.lt
 have d4 := (cd_cells q0).2.2.2.2.1
 have HIX := zh (indices_any x.A x.c x.ws w1 (by have := hx.wfew; omega) hx.wn (hx1.ws.mono (by omega)))
 go_upto_region 2 with (go_at_call 96; refine HIX.out.mono ?_; rintro e w2 ⟨nm, rfl, hfm, hb2, hlt2⟩)
 have HFM : Hid (FMap w2 (w1.heap.size + 1) nm (idx x.txt)) := zh hfm
 have HR2 := zh (hr1.below hb2)
 have HX2 := zh (hx1.below (hb2.mono (by omega)))
 have HQC := zh (q0.below hb2 q0.lt)
 have HU2w : Hid (Up g v v w w2) := zh (Up.below (by omega) (hb.trans (hb2.mono (by have := hb.size; omega))))
 have e5 := (cd_cells HQC.out).2.2.2.2.2.1
 have hM : w1.heap.size + 1 ≠ g := by omega
 have HMM : Hid (v.ownBlock ≠ some (w1.heap.size + 1)) := zh (hnv _ (by have := hb.size; omega))
 have HNV := zh hnv
 have HZ2 := zh hlt2
 generalize hMM : w1.heap.size + 1 = M at *
 have HWW : Hid (w.heap.size < M) := zh (by omega)
 clear d4 hfm hb2 HIX hx1 hr1 q0 hb hq1 hMM hlt2
 have HLS := zh hx.pfew
 have HMX : Hid (∀ k, k < x.ps.length → (x.ps.getD k pw0).1.1.size ≤ maxLen ∧ (x.ps.getD k pw0).2.1.size ≤ maxLen) := zh fun k hk => hx.pn _ (getD_mem' hk)
 have HN : Hid (pairsF x = pairsK x x.ps.length) := zh rfl
 clear hx hr
 generalize hn : x.ps.length = n at *
 have HLN := zh hn; clear hn
 generalize hXA : x.B = XA at *
 have HXA := zh hXA; clear hXA
 have HN0 : Hid (L ++ pairsK x 0 = L) := zh (by simp [pairsK])
 have HKL : Hid (∀ k, k ≤ n → (L ++ pairsK x k).length ≤ 4294966000) := zh fun k hk => by
  have := pairsK_len x k
  have := HLS.out
  rw [zA7]; omega
 have hn16 : n ≤ 65536 := HLS.out
 go_upto_region 3 with fail
 go_loopw [6, 17] (fun _ kv wr => ∃ (k : Nat) (vr : Value), k ≤ n ∧ kv = .int .i64 k ∧ Hid (Rp wr g b0 (L ++ pairsK x k) vr) ∧ Hid (Up g v vr w2 wr)) (fun _ kv _ => n - (intOf kv).toNat)
 case atStart =>
  refine ⟨0, v, by omega, rfl, ?_, zh (Up.refl _ _ _)⟩
  show Rp w2 g b0 (L ++ pairsK x 0) v
  rw [HN0.out]; exact HR2.out
 case round =>
  obtain ⟨k, vr, hk, rfl, HR, HU⟩ := hrel
  by_cases hlt : k < n
  ·have hgr := HR.out.box.lt
   have HLT := zh hlt
   have HGG := zh hgr
   obtain ⟨b1, o1, hA, hrg⟩ := pair_at (HX2.out.below (HU.out.low.mono hKg)) (by omega) (k := k) (by rw [HLN.out]; exact hlt)
   have hA2 : XA = some ⟨b1, o1, none⟩ := HXA.out.symm.trans hA
   clear hA
   subst hA2
   have HTK : Hid (pairsK x (k + 1) = pairsK x k ++ (prS x (x.ps.getD k pw0).1 ++ prS x (x.ps.getD k pw0).2)) := zh (pairsK_succ _ _)
   have HM1 := zh (HMX.out k hlt).1
   have HM2 := zh (HMX.out k hlt).2
   have HP1 : Hid (∀ y, prS x y = if 0 ≤ idx x.txt y.1 then [] else [(3, y.2)]) := zh fun _ => rfl
   have HLL := zh (HKL.out k hk)
   have HRG := zh hrg; clear hrg
   generalize x.ps.getD k pw0 = pr at *
   obtain ⟨⟨s1, f1⟩, ⟨s2, f2⟩⟩ := pr
   have e1 := HP1.out (s1, f1)
   have e2 := HP1.out (s2, f2)
   simp only at e1 e2
   have HW1 := zh (RowAt.new wr 74 (pwC ((s1, f1), (s2, f2))).toArray)
   have HB1 : Hid (Below wr.heap.size wr (wr.alloc (.cells (pwC ((s1, f1), (s2, f2))).toArray 74))) := zh ((zB _ _).alloc (zL _) _)
   have hk16 : k < 65536 := by omega
   have HVN : Hid (vr.ownBlock ≠ some wr.heap.size) := zh (HR.out.blk (zL _))
   have HRr := zh (HR.out)
   clear HB1 HW1
   go_wp2_with (first
        | (refine wpList_ldIn (by rfl) _ _ rfl b1 (o1 + k * 4) rfl _ _ HRG.out Tryz.underlying74 rfl (by kernel_rfl) ?_)
        | (refine wpList_stRow (by rfl) _ _ _ rfl wr.heap.size (pwC ((s1, f1), (s2, f2))).toArray rfl rfl _ _ (RowAt.new _ _ _) (by kernel_rfl) rfl (by simp [pwC, Value.oneCell']) ?_; intro wc rc he; have HWC := zh rc; have hbw : Below wr.heap.size wr wc := ((zB _ _).alloc (zL _) _).trans (he.below (zL _)); have HRc := zh (HR.out.below hbw); have HUc := zh (HU.out.trans (Up.below (by have := HGG.out; omega) hbw)); clear rc he hbw)
        | (refine wpList_loadS (by rfl) _ _ rfl wr.heap.size rfl _ _ _ HWC.out Tryz.underlying74 rfl (by kernel_rfl) ?_))
   have hp1 := idxP1 s1 s2 f1 f2
   have hp2 := idxP2 s1 s2 f1 f2
   refine wp_loop_rounds 3 ?_
   rw [rounds_succ]
   have hal : Below wc.heap.size wc (wc.alloc (.cells #[.string s1, .int .i64 f1] 27)) := (zB _ _).alloc (zL _) _
   have HR1 := zh (HRc.out.below hal)
   have HU1 := zh (HUc.out.trans (Up.below (by have := HRc.out.box.lt; omega) hal))
   have HA1 := zh (RowAt.new wc 27 #[.string s1, .int .i64 f1])
   go_upto_region 8 with fail
   change Code.wp _ _ _ _ (wc.alloc (.cells #[.string s1, .int .i64 f1] 27))
   clear hal
   generalize wc.alloc (.cells #[.string s1, .int .i64 f1] 27) = y1a at *
   generalize wc.heap.size = gx1 at *
   obtain ⟨a0, a1, _, _⟩ := rw2 HA1.out
   have hlk := (HFM.out.up HU1.out hM HMM.out).ok HM1.out
   by_cases hi1 : 0 ≤ idx x.txt s1
   ·rw [if_pos hi1, zE hi1] at hlk
    rw [if_pos hi1] at e1
    have HI1 := zh hi1
    clear hi1
    go_wp2_with fail
    clear hlk a0 a1
    rw [rounds_succ]
    have hal : Below y1a.heap.size y1a (y1a.alloc (.cells #[.string s2, .int .i64 f2] 27)) := (zB _ _).alloc (zL _) _
    have HR2 := zh (HR1.out.below hal)
    have HU2 := zh (HU1.out.trans (Up.below (by have := HR1.out.box.lt; omega) hal))
    have HA2 := zh (RowAt.new y1a 27 #[.string s2, .int .i64 f2])
    go_upto_region 8 with fail
    change Code.wp _ _ _ _ (y1a.alloc (.cells #[.string s2, .int .i64 f2] 27))
    clear hal
    generalize y1a.alloc (.cells #[.string s2, .int .i64 f2] 27) = y2a at *
    generalize y1a.heap.size = gx2 at *
    obtain ⟨a0, a1, _, _⟩ := rw2 HA2.out
    have hlk := (HFM.out.up HU2.out hM HMM.out).ok HM2.out
    by_cases hi2 : 0 ≤ idx x.txt s2
    ·rw [if_pos hi2, zE hi2] at hlk
     rw [if_pos hi2] at e2
     have HI2 := zh hi2
     clear hi2
     go_wp2_with fail
     clear hlk a0 a1
     rw [rounds_succ]
     go_wp2_with fail
     have HE9 : Hid (pairsK x (k + 1) = pairsK x k ++ ([])) := zh (by rw [HTK.out, e1, e2]; try simp)
     have HRP9 := zh HR2.out
     have HU9 := zh HU2.out
     go_roundw
     case rel =>
      refine ⟨k + 1, vr, by have := HLT.out; omega, by go_num, ?_, HU9⟩
      show Rp _ g b0 (L ++ pairsK x (k + 1)) vr
      rw [HE9.out]; have h := HRP9.out; simp only [List.append_assoc, List.append_nil, List.cons_append, List.nil_append] at h ⊢; exact h
     case measure => have := HLT.out; simp [intOf]; omega
    ·rw [if_neg hi2, zF hi2] at hlk
     rw [if_neg hi2] at e2
     have HI2 := zh hi2
     clear hi2
     go_wp2_with fail
     refine (report_any _ _ y2a g b0 _ vr HR2.out (by have := HLL.out; simp only [zA7, zA8, zA9] at this ⊢; omega)).mono ?_
     rintro e z2 ⟨v2, rfl, hr2, hu2⟩
     have HRz2 := zh hr2
     have HUz2 := zh (HU2.out.trans hu2)
     clear hr2 hu2 hlk a0 a1
     go_wp2_with fail
     rw [rounds_succ]
     go_wp2_with fail
     have HE9 : Hid (pairsK x (k + 1) = pairsK x k ++ ([(3, f2)])) := zh (by rw [HTK.out, e1, e2]; try simp)
     have HRP9 := zh HRz2.out
     have HU9 := zh HUz2.out
     go_roundw
     case rel =>
      refine ⟨k + 1, v2, by have := HLT.out; omega, by go_num, ?_, HU9⟩
      show Rp _ g b0 (L ++ pairsK x (k + 1)) v2
      rw [HE9.out]; have h := HRP9.out; simp only [List.append_assoc, List.append_nil, List.cons_append, List.nil_append] at h ⊢; exact h
     case measure => have := HLT.out; simp [intOf]; omega
   ·rw [if_neg hi1, zF hi1] at hlk
    rw [if_neg hi1] at e1
    have HI1 := zh hi1
    clear hi1
    go_wp2_with fail
    refine (report_any _ _ y1a g b0 _ vr HR1.out (by have := HLL.out; simp only [zA7, zA8, zA9] at this ⊢; omega)).mono ?_
    rintro e z1 ⟨v1, rfl, hr2, hu2⟩
    have HRz1 := zh hr2
    have HUz1 := zh (HU1.out.trans hu2)
    clear hr2 hu2 hlk a0 a1
    go_wp2_with fail
    rw [rounds_succ]
    have hal : Below z1.heap.size z1 (z1.alloc (.cells #[.string s2, .int .i64 f2] 27)) := (zB _ _).alloc (zL _) _
    have HR2 := zh (HRz1.out.below hal)
    have HU2 := zh (HUz1.out.trans (Up.below (by have := HRz1.out.box.lt; omega) hal))
    have HA2 := zh (RowAt.new z1 27 #[.string s2, .int .i64 f2])
    go_upto_region 8 with fail
    change Code.wp _ _ _ _ (z1.alloc (.cells #[.string s2, .int .i64 f2] 27))
    clear hal
    generalize z1.alloc (.cells #[.string s2, .int .i64 f2] 27) = y2b at *
    generalize z1.heap.size = gx2 at *
    obtain ⟨a0, a1, _, _⟩ := rw2 HA2.out
    have hlk := (HFM.out.up HU2.out hM HMM.out).ok HM2.out
    by_cases hi2 : 0 ≤ idx x.txt s2
    ·rw [if_pos hi2, zE hi2] at hlk
     rw [if_pos hi2] at e2
     have HI2 := zh hi2
     clear hi2
     go_wp2_with fail
     clear hlk a0 a1
     rw [rounds_succ]
     go_wp2_with fail
     have HE9 : Hid (pairsK x (k + 1) = pairsK x k ++ ([(3, f1)])) := zh (by rw [HTK.out, e1, e2]; try simp)
     have HRP9 := zh HR2.out
     have HU9 := zh HU2.out
     go_roundw
     case rel =>
      refine ⟨k + 1, v1, by have := HLT.out; omega, by go_num, ?_, HU9⟩
      show Rp _ g b0 (L ++ pairsK x (k + 1)) v1
      rw [HE9.out]; have h := HRP9.out; simp only [List.append_assoc, List.append_nil, List.cons_append, List.nil_append] at h ⊢; exact h
     case measure => have := HLT.out; simp [intOf]; omega
    ·rw [if_neg hi2, zF hi2] at hlk
     rw [if_neg hi2] at e2
     have HI2 := zh hi2
     clear hi2
     go_wp2_with fail
     refine (report_any _ _ y2b g b0 _ v1 HR2.out (by have := HLL.out; simp only [zA7, zA8, zA9] at this ⊢; omega)).mono ?_
     rintro e z2 ⟨v2, rfl, hr2, hu2⟩
     have HRz2 := zh hr2
     have HUz2 := zh (HU2.out.trans hu2)
     clear hr2 hu2 hlk a0 a1
     go_wp2_with fail
     rw [rounds_succ]
     go_wp2_with fail
     have HE9 : Hid (pairsK x (k + 1) = pairsK x k ++ ([(3, f1)] ++ [(3, f2)])) := zh (by rw [HTK.out, e1, e2]; try simp)
     have HRP9 := zh HRz2.out
     have HU9 := zh HUz2.out
     go_roundw
     case rel =>
      refine ⟨k + 1, v2, by have := HLT.out; omega, by go_num, ?_, HU9⟩
      show Rp _ g b0 (L ++ pairsK x (k + 1)) v2
      rw [HE9.out]; have h := HRP9.out; simp only [List.append_assoc, List.append_nil, List.cons_append, List.nil_append] at h ⊢; exact h
     case measure => have := HLT.out; simp [intOf]; omega
  ·obtain rfl : k = n := by omega
   have hfin : Rp wr g b0 (L ++ pairsF x) vr := by rw [HN.out]; exact HR.out
   have HFIN := zh hfin; clear hfin
   go_wp2_with fail
   exact bodyPost_ret (results_none rfl _ _ _) rfl (HQ.out _ _ ⟨vr, rfl, HFIN.out, HU2w.out.trans HU.out⟩)
end
section
open Go.RowKit RM
theorem pcells_flat : ∀ (xs : List (Int × Int)), pcells xs = xs.flatMap ftC
 | [] => rfl
 | q :: xs => by rw [List.flatMap_cons, ← pcells_flat xs]; rfl
theorem pts2 (n : Int) : pts ((pts n : Nat) : Int) = pts n := by
 have := pts_le n
 unfold pts at *
 split <;> (repeat' split at *) <;> omega
theorem cz2 (n : Int) (l : List Nat) : cz ((pts n : Nat) : Int) l = cz n l := by unfold cz; rw [pts2]
def prI (x : Cd) (p : (ByteArray × Int) × (ByteArray × Int)) : List (Int × Int) := if 0 ≤ idx x.txt p.1.1 then (if 0 ≤ idx x.txt p.2.1 then [(idx x.txt p.1.1, idx x.txt p.2.1)] else []) else []
def prK (x : Cd) (k : Nat) : List (Int × Int) := (List.range k).flatMap fun i => prI x (x.ps.getD i pw0)
def prR (x : Cd) : List (Int × Int) := prK x x.ps.length
def relF (x : Cd) : List Nat := cz (x.ws.length : Nat) (ofR (x.ws.length : Nat) (prR x))
theorem prK_succ (x : Cd) (k : Nat) : prK x (k + 1) = prK x k ++ prI x (x.ps.getD k pw0) := by
 unfold prK
 rw [List.range_succ, List.flatMap_append]; simp
theorem prI_len (x : Cd) (p : (ByteArray × Int) × (ByteArray × Int)) : (prI x p).length ≤ 1 := by
 unfold prI
 split
 ·split <;> simp
 ·simp
theorem prK_len (x : Cd) (k : Nat) : (prK x k).length ≤ k := by
 induction k with
 | zero => simp [prK]
 | succ k ih =>
   rw [prK_succ, zA7]
   have := prI_len x (x.ps.getD k pw0)
   omega
theorem relF_rw (x : Cd) : RW (relF x) := RW.mk _ _
theorem infoPrS : (Tryz.prog.info? 141).map (fun i => (i.zero, i.size, i.bytes)) = some (some (.agg #[.int .i64 0, .int .i64 0]), 2, 16) := by kernel_rfl
theorem relation_any (x : Cd) (w : World) (hx : CdOk w w.heap.size x) :
 Calls Tryz.prog 50 #[.agg (cdv x)] w fun e w' => e = .returned (.agg (rv ((pts (x.ws.length : Nat) : Nat) : Int) (relF x))) ∧ Below w.heap.size w w' := by
 obtain ⟨r0, q0, hb⟩ := two_rows w (cdv x) (rv 0 zs) 34 92
 refine cHid fun Q' hQ => ?_
 have HQ := zh hQ; clear hQ
 go_enter Tryz.func50, Tryz.ntmps50
 go_upto_region 1 with fail
 change Code.wp _ _ _ _ ((w.alloc (.cells (cdv x) 34)).alloc (.cells (rv 0 zs) 92))
 generalize (w.alloc (.cells (cdv x) 34)).alloc (.cells (rv 0 zs) 92) = w1 at *
 have hx1 := hx.below hb
 have hq1 := q0.lt
 have d4 := (cd_cells r0).2.2.2.2.1
 have HIX := zh (indices_any x.A x.c x.ws w1 (by have := hx.wfew; omega) hx.wn (hx1.ws.mono (by omega)))
 go_upto_region 3 with (go_at_call 96; refine HIX.out.mono ?_; rintro e w2 ⟨nm, rfl, hfm, hb2, hlt2⟩)
 have HFM : Hid (FMap w2 (w1.heap.size + 1) nm (idx x.txt)) := zh hfm
 have HX2 := zh (hx1.below (hb2.mono (by omega)))
 have HQC := zh (r0.below hb2 r0.lt)
 have HQR := zh (q0.below hb2 q0.lt)
 have HB2 : Hid (Below w.heap.size w w2) := zh (hb.trans (hb2.mono (by have := hb.size; omega)))
 have e4 := (cd_cells HQC.out).2.2.2.2.1
 have e5 := (cd_cells HQC.out).2.2.2.2.2.1
 have HZ2 := zh hlt2
 generalize hMM : w1.heap.size + 1 = M at *
 have HWW : Hid (w.heap.size + 1 < M) := zh (by omega)
 clear d4 hfm hb2 HIX hx1 r0 q0 hb hq1 hMM hlt2
 have HLS := zh hx.pfew
 have HMX : Hid (∀ k, k < x.ps.length → (x.ps.getD k pw0).1.1.size ≤ maxLen ∧ (x.ps.getD k pw0).2.1.size ≤ maxLen) := zh fun k hk => hx.pn _ (getD_mem' hk)
 have HR : Hid (prR x = prK x x.ps.length) := zh rfl
 clear hx
 generalize hn : x.ps.length = n at *
 have HLN := zh hn; clear hn
 generalize hXA : x.B = XA at *
 have HXA := zh hXA; clear hXA
 have hn16 : n ≤ 65536 := HLS.out
 have HKL : Hid (∀ k, (prK x k).length ≤ k) := zh (prK_len x)
 go_upto_region 4 with fail
 go_loopw [4, 6, 17] (fun sv _ kv wr => ∃ (k d : Nat) (X : Option Addr), k ≤ n ∧ kv = .int .i64 k ∧ sv = .slice X (prK x k).length d ∧ Hid (wr.ownsRow w2.heap.size 141 2 (.slice X (prK x k).length d) (prK x k).length ((prK x k).flatMap ftC)) ∧ Hid (Below w2.heap.size w2 wr)) (fun _ _ kv _ => n - (intOf kv).toNat)
 case atStart => exact ⟨0, 0, none, by omega, rfl, rfl, World.ownsRow_nil _ _ _ _, zh (zB _ _)⟩
 case round =>
  obtain ⟨k, d, X, hk, rfl, rfl, HO, HW⟩ := hrel
  by_cases hlt : k < n
  ·have HLT := zh hlt
   obtain ⟨b1, o1, hA, hrg⟩ := pair_at (HX2.out.below (HW.out.mono (by have := HB2.out.size; omega))) (by have := HW.out.size; have := HB2.out.size; omega) (k := k) (by rw [HLN.out]; exact hlt)
   have hA2 : XA = some ⟨b1, o1, none⟩ := HXA.out.symm.trans hA
   clear hA
   subst hA2
   have HTK : Hid (prK x (k + 1) = prK x k ++ prI x (x.ps.getD k pw0)) := zh (prK_succ _ _)
   have HM1 := zh (HMX.out k hlt).1
   have HM2 := zh (HMX.out k hlt).2
   have HP1 : Hid (∀ y, prI x y = if 0 ≤ idx x.txt y.1.1 then (if 0 ≤ idx x.txt y.2.1 then [(idx x.txt y.1.1, idx x.txt y.2.1)] else []) else []) := zh fun _ => rfl
   have HRG := zh hrg; clear hrg
   have hk16 : k < 65536 := by omega
   have hkl := HKL.out k
   generalize x.ps.getD k pw0 = pr at *
   obtain ⟨⟨s1, f1⟩, ⟨s2, f2⟩⟩ := pr
   have e1 := HP1.out ((s1, f1), (s2, f2))
   simp only at e1 HM1 HM2
   generalize hLK1 : prK x (k + 1) = LK1 at *
   have HK1 := zh hLK1; clear hLK1
   generalize prK x k = LK at *
   generalize prI x ((s1, f1), (s2, f2)) = PI at *
   go_upto_region 6 with (first
        | (refine wpList_ldIn (by rfl) _ _ rfl b1 (o1 + k * 4) rfl _ _ HRG.out Tryz.underlying74 rfl (by kernel_rfl) ?_)
        | (refine wpList_stRow (by rfl) _ _ _ rfl wr.heap.size (pwC ((s1, f1), (s2, f2))).toArray rfl rfl _ _ (RowAt.new _ _ _) (by kernel_rfl) rfl (by simp [pwC, Value.oneCell']) ?_; intro wc rc he; have HWC := zh rc; have hbw : Below wr.heap.size wr wc := ((zB _ _).alloc (zL _) _).trans (he.below (zL _)); have HOc := zh (own_below HO.out hbw (zL _)); have HWc := zh (HW.out.trans (hbw.mono HW.out.size)); clear rc he hbw))
   have c0 := (HWC.out.cell 0).trans (show (pwC ((s1, f1), (s2, f2))).toArray[0]? = some (.string s1) from rfl)
   have c2 := (HWC.out.cell 2).trans (show (pwC ((s1, f1), (s2, f2))).toArray[2]? = some (.string s2) from rfl)
   have hm2 := HFM.out.below HWc.out HZ2.out
   have k1 := hm2.ok HM1.out
   have k2 := hm2.ok HM2.out
   clear hm2
   generalize idx x.txt s1 = a at *
   generalize idx x.txt s2 = b at *
   by_cases ha : 0 ≤ a
   ·rw [if_pos ha, zE ha] at k1
    rw [if_pos ha] at e1
    have HA := zh ha; clear ha
    by_cases hb : 0 ≤ b
    ·rw [if_pos hb, zE hb] at k2
     rw [if_pos hb] at e1
     have HBB := zh hb; clear hb
     have HE := zh (HTK.out.trans (by rw [e1] : LK ++ PI = LK ++ [(a, b)]))
     have HLL : Hid (LK1.length = LK.length + 1) := zh (by rw [HE.out]; simp)
     have HFL : Hid (LK1.flatMap ftC = LK.flatMap ftC ++ [.int .i64 a, .int .i64 b]) := zh (by rw [HE.out]; simp [ftC])
     clear e1
     generalize LK.flatMap ftC = CS at *
     generalize LK.length = ln at *
     go_wp2_with (at_builtin; refine wpList_moreS _ rfl _ _ 139 rfl 141 (.agg #[.int .i64 0, .int .i64 0]) 2 16 Tryz.underlying139 infoPrS rfl (by decide) w2.heap.size X ln d CS rfl ?c1 wc.heap.size [.int .i64 a, .int .i64 b] rfl rfl ?c2 (by intro u hu; simp at hu; rcases hu with rfl | rfl <;> rfl) ?c3 ?c4 ?c5 ?_)
     case c1 => exact own_below HOc.out ((zB _ _).alloc (zL _) _) (zL _)
     case c2 =>
      intro j u hu
      have hr := RowAt.new wc 141 #[.int .i64 a, .int .i64 b]
      match j, hu with
      | 0, hu => exact (hr.cell 0).trans hu
      | 1, hu => exact (hr.cell 1).trans hu
      | j + 2, hu => simp at hu
     case c3 => simp only [maxLen]; omega
     case c4 => omega
     case c5 => have := HWc.out.size; simp; omega
     intro X6 d6 w6 hown6 hb6 hg6 hat6
     have HO6 : Hid (w6.ownsRow w2.heap.size 141 2 (.slice X6 LK1.length d6) LK1.length (LK1.flatMap ftC)) := by
      rw [HLL.out, HFL.out]; exact zh hown6
     have HB6 : Hid (Below w2.heap.size w2 w6) := zh ((HWc.out.alloc HWc.out.size _).trans hb6)
     clear hown6 hb6 hg6 hat6
     go_wp2_with fail
     go_roundw
     case rel => exact ⟨k + 1, d6, X6, by have := HLT.out; omega, by go_num, by rw [HK1.out, HLL.out], by rw [HK1.out]; exact HO6, HB6⟩
     case measure => have := HLT.out; simp [intOf]; omega
    ·rw [if_neg hb, zF hb] at k2
     rw [if_neg hb] at e1
     have HBB := zh hb; clear hb
     have HE : Hid (LK1 = LK) := zh (HTK.out.trans (by rw [e1]; simp))
     clear e1
     go_wp2_with fail
     go_roundw
     case rel => exact ⟨k + 1, d, X, by have := HLT.out; omega, by go_num, by rw [HK1.out, HE.out], by rw [HK1.out, HE.out]; exact HOc, HWc⟩
     case measure => have := HLT.out; simp [intOf]; omega
   ·rw [if_neg ha, zF ha] at k1
    rw [if_neg ha] at e1
    have HA := zh ha; clear ha
    have HE : Hid (LK1 = LK) := zh (HTK.out.trans (by rw [e1]; simp))
    clear e1
    by_cases hb : 0 ≤ b
    ·rw [if_pos hb, zE hb] at k2
     have HBB := zh hb; clear hb
     go_wp2_with fail
     go_roundw
     case rel => exact ⟨k + 1, d, X, by have := HLT.out; omega, by go_num, by rw [HK1.out, HE.out], by rw [HK1.out, HE.out]; exact HOc, HWc⟩
     case measure => have := HLT.out; simp [intOf]; omega
    ·rw [if_neg hb, zF hb] at k2
     have HBB := zh hb; clear hb
     go_wp2_with fail
     go_roundw
     case rel => exact ⟨k + 1, d, X, by have := HLT.out; omega, by go_num, by rw [HK1.out, HE.out], by rw [HK1.out, HE.out]; exact HOc, HWc⟩
     case measure => have := HLT.out; simp [intOf]; omega
  ·obtain rfl : k = n := by omega
   have hC : Hid (RowAt wr w.heap.size 34 (cdv x)) := zh (HQC.out.below HW.out HQC.out.lt)
   have hR : Hid (RowAt wr (w.heap.size + 1) 92 (rv 0 zs)) := zh (HQR.out.below HW.out HQR.out.lt)
   have g4 := (cd_cells hC.out).2.2.2.2.1
   have hkl := HKL.out k
   have HOF := zh (rof_any (x.ws.length : Nat) X d (prK x k) wr (by omega) (by
        show Sl wr wr.heap.size X (pcells (prK x k))
        rw [pcells_flat]; exact Sl.of_own HO.out))
   rw [← HR.out] at HOF ⊢
   generalize hpl : (prR x).length = pl at *
   have HCL := zh (rclosure_any ((pts (x.ws.length : Nat) : Nat) : Int) (ofR (x.ws.length : Nat) (prR x)) (rw_ofR _ _))
   rw [pts2, cz2] at HCL
   have HRW : Hid (RW (relF x)) := zh (relF_rw x)
   have HRF : Hid (relF x = cz (x.ws.length : Nat) (ofR (x.ws.length : Nat) (prR x))) := zh rfl
   rw [← HRF.out] at HCL
   generalize relF x = rl at *
   generalize ofR ((x.ws.length : Nat) : Int) (prR x) = r2 at *
   generalize hpt : ((pts ((x.ws.length : Nat) : Int) : Nat) : Int) = pt at *
   generalize x.ws.length = wn at *
   clear e4 e5
   go_wp2_with (first
        | (go_at_call 103; refine HOF.out.mono ?_; rintro e w5 ⟨rfl, hb5⟩; have HB5 := zh hb5; clear hb5)
        | (go_at_call 102; refine (HCL.out w5).mono ?_; rintro e w6 ⟨rfl, hb6⟩; have HB6 := zh hb6; have hR6 := zh ((hR.out.below HB5.out hR.out.lt).below hb6 (by have := HB5.out.size; have := hR.out.lt; omega)); clear hb6)
        | (refine wpList_stRow (by rfl) _ _ _ rfl (w.heap.size + 1) (rv pt rl) rfl rfl _ _ hR6.out (by rw [rv_size _ HRW.out]; kernel_rfl) (by rw [rv_size _ HRW.out, rv_size _ RW.zs]) (rv_one _ _) ?_; intro w7 r7 he))
   have hfin := HW.out
   exact bodyPost_ret (retRow rfl _ _ (w.heap.size + 1) _ _ (0, 0) _ rfl r7 Tryz.underlying92 rfl (by rw [rv_size _ HRW.out]; kernel_rfl)) rfl (HQ.out _ _ ⟨rfl, HB2.out.trans ((hfin.mono (by have := HB2.out.size; omega)).trans ((HB5.out.mono (by have := HB2.out.size; have := hfin.size; omega)).trans ((HB6.out.mono (by have := HB2.out.size; have := hfin.size; have := HB5.out.size; omega)).trans (he.below (by omega)))))⟩)
end
section
open Go.RowKit RM
def ordF (x : Cd) : List (Int × Int) := if (decide (x.op = 5) && (decide (x.ws.length ≤ 64) && !latB ((pts (x.ws.length : Nat) : Nat) : Int) (relF x))) = true then [(5, x.pp)] else []
def limF (s : Sc) (x : Cd) : List (Int × Int) := if tooB s x = true then [(7, x.p)] else []
def faultF (s : Sc) (x : Cd) : Int × Int := if (dLat x.op || dVar x.op) = true then lstF (nameF (idx s.lnms) (idx s.vnms) x ++ namesF (idx s.lnms) (idx s.vnms) x ++ pairsF x ++ ordF x ++ limF s x) else (0, 0)
theorem nameF_len (fL fV : ByteArray → Int) (x : Cd) : (nameF fL fV x).length ≤ 1 := by
 unfold nameF
 split
 ·simp
 ·split <;> simp
theorem three_rows (w : World) (cs ds es : Array Value) (t u v : TypeId) : RowAt (((w.alloc (.cells cs t)).alloc (.cells ds u)).alloc (.cells es v)) w.heap.size t cs ∧ RowAt (((w.alloc (.cells cs t)).alloc (.cells ds u)).alloc (.cells es v)) (w.heap.size + 1) u ds ∧ RowAt (((w.alloc (.cells cs t)).alloc (.cells ds u)).alloc (.cells es v)) (w.heap.size + 2) v es ∧ Below w.heap.size w (((w.alloc (.cells cs t)).alloc (.cells ds u)).alloc (.cells es v)) := by
 obtain ⟨h1, h2, h3⟩ := two_rows w cs ds t u
 refine ⟨h1.alloc _, h2.alloc _, ?_, h3.alloc h3.size _⟩
 have h := RowAt.new ((w.alloc (.cells cs t)).alloc (.cells ds u)) v es
 rw [show ((w.alloc (.cells cs t)).alloc (.cells ds u)).heap.size = w.heap.size + 2 by simp] at h
 exact h
end
section
open Go.RowKit
theorem infoLatS : (Tryz.prog.info? 51).map (fun i => (i.zero, i.size, i.bytes)) = some (some (.agg #[.string ⟨#[]⟩, .bool false, .slice none 0 0]), 3, 48) := by kernel_rfl
theorem infoVarS : (Tryz.prog.info? 55).map (fun i => (i.zero, i.size, i.bytes)) = some (some (.agg #[.string ⟨#[]⟩, .int .i64 0, .int .i64 0]), 3, 32) := by kernel_rfl
theorem cloneLat_any (A : Option Addr) (n c : Nat) (cs : List Value) (w : World) (hl : cs.length = n * 3) (h1 : ∀ u ∈ cs, u.oneCell' = true) (hn : n ≤ 65536) (hA : Sl w w.heap.size A cs) (hnil : A = none → n = 0 ∧ c = 0) :
 Calls Tryz.prog 87 #[.slice A n c] w fun e w' => ∃ A' c', e = .returned (.slice A' n c') ∧ w'.ownsRow w.heap.size 51 3 (.slice A' n c') n cs ∧ Below w.heap.size w w' := by
 have q : ∀ (w : World) (a : Option Addr) (n c n' c' : Nat), (binOp .eql 22 (.slice a n c) (.slice none n' c')).run Tryz.prog w = .ok (.bool a.isNone) w := fun w a n c n' c' => Lib.run_eql_slice_nil w _ _ a n c n' c' Tryz.underlying22
 cases A with
 | none =>
   obtain ⟨rfl, rfl⟩ := hnil rfl
   have hcs : cs = [] := List.eq_nil_of_length_eq_zero (by omega)
   subst hcs
   clear hA hl h1
   go_enter Tryz.func87, Tryz.ntmps87
   go_wp2_with fail
   go_ret
   exact ⟨none, 0, rfl, World.ownsRow_nil _ _ _ _, zB _ _⟩
 | some ad =>
   obtain ⟨i0, hi, hz0, hz1, hz2⟩ := info_parts infoLatS
   have HI := zh hi; have HZ0 := zh hz0; have HZ1 := zh hz1; have HZ2 := zh hz2
   clear hi hz0 hz1 hz2 hnil
   have HNEW : Hid (∀ o j u, cs[j]? = some u → (w.alloc o).cell? (ad.add j) = some u) := fun o j u hj => by
    obtain ⟨b, off, e, _, hc⟩ := hA (fun e => by rw [e] at hj; simp at hj)
    injection e with e
    subst e
    rw [Addr.add_lit]
    exact Lib.cell?_alloc_some _ (hc j u hj)
   have H1 := zh h1
   clear hA h1
   go_enter Tryz.func87, Tryz.ntmps87
   go_wp2_with (at_builtin; refine wpList_append_own _ rfl _ _ 22 rfl w.heap.size 51 i0 _ 3 48 Tryz.underlying22 HI.out HZ0.out HZ1.out HZ2.out (by kernel_rfl) (by decide) _ _ _ rfl (World.ownsRow_made w #[] 0 (zL _) (Nat.zero_le _) rfl) ad n c cs rfl hl (HNEW.out _) H1.out (by unfold maxLen; omega) (by omega) (by simp) ?_)
   intro v' w1 hown hgrow _
   have hb : Below w.heap.size w w1 := ((zB _ w).alloc (zL _) _).grown hgrow (by simp) (by intro k hk; simp [Value.ownBlock] at hk; omega)
   replace hown : w1.ownsRow w.heap.size 51 3 v' n cs := by simpa using hown
   obtain ⟨A', c', rfl, _, _⟩ := own_form hown
   have HO := zh hown; have HB := zh hb
   clear hown hb hgrow
   go_wp2_with fail
   go_ret
   exact ⟨A', c', rfl, HO.out, HB.out⟩
theorem cloneVar_any (A : Option Addr) (n c : Nat) (cs : List Value) (w : World) (hl : cs.length = n * 3) (h1 : ∀ u ∈ cs, u.oneCell' = true) (hn : n ≤ 65536) (hA : Sl w w.heap.size A cs) (hnil : A = none → n = 0 ∧ c = 0) :
 Calls Tryz.prog 88 #[.slice A n c] w fun e w' => ∃ A' c', e = .returned (.slice A' n c') ∧ w'.ownsRow w.heap.size 55 3 (.slice A' n c') n cs ∧ Below w.heap.size w w' := by
 have q : ∀ (w : World) (a : Option Addr) (n c n' c' : Nat), (binOp .eql 23 (.slice a n c) (.slice none n' c')).run Tryz.prog w = .ok (.bool a.isNone) w := fun w a n c n' c' => Lib.run_eql_slice_nil w _ _ a n c n' c' Tryz.underlying23
 cases A with
 | none =>
   obtain ⟨rfl, rfl⟩ := hnil rfl
   have hcs : cs = [] := List.eq_nil_of_length_eq_zero (by omega)
   subst hcs
   clear hA hl h1
   go_enter Tryz.func88, Tryz.ntmps88
   go_wp2_with fail
   go_ret
   exact ⟨none, 0, rfl, World.ownsRow_nil _ _ _ _, zB _ _⟩
 | some ad =>
   obtain ⟨i0, hi, hz0, hz1, hz2⟩ := info_parts infoVarS
   have HI := zh hi; have HZ0 := zh hz0; have HZ1 := zh hz1; have HZ2 := zh hz2
   clear hi hz0 hz1 hz2 hnil
   have HNEW : Hid (∀ o j u, cs[j]? = some u → (w.alloc o).cell? (ad.add j) = some u) := fun o j u hj => by
    obtain ⟨b, off, e, _, hc⟩ := hA (fun e => by rw [e] at hj; simp at hj)
    injection e with e
    subst e
    rw [Addr.add_lit]
    exact Lib.cell?_alloc_some _ (hc j u hj)
   have H1 := zh h1
   clear hA h1
   go_enter Tryz.func88, Tryz.ntmps88
   go_wp2_with (at_builtin; refine wpList_append_own _ rfl _ _ 23 rfl w.heap.size 55 i0 _ 3 32 Tryz.underlying23 HI.out HZ0.out HZ1.out HZ2.out (by kernel_rfl) (by decide) _ _ _ rfl (World.ownsRow_made w #[] 0 (zL _) (Nat.zero_le _) rfl) ad n c cs rfl hl (HNEW.out _) H1.out (by unfold maxLen; omega) (by omega) (by simp) ?_)
   intro v' w1 hown hgrow _
   have hb : Below w.heap.size w w1 := ((zB _ w).alloc (zL _) _).grown hgrow (by simp) (by intro k hk; simp [Value.ownBlock] at hk; omega)
   replace hown : w1.ownsRow w.heap.size 55 3 v' n cs := by simpa using hown
   obtain ⟨A', c', rfl, _, _⟩ := own_form hown
   have HO := zh hown; have HB := zh hb
   clear hown hb hgrow
   go_wp2_with fail
   go_ret
   exact ⟨A', c', rfl, HO.out, HB.out⟩
theorem latC_len (l : List (ByteArray × Shp)) : (l.flatMap latC).length = l.length * 3 := by
 induction l with
 | nil => rfl
 | cons x l ih => rw [List.flatMap_cons, zA7, ih, zA8]; show 3 + _ = _; omega
theorem varC_len (l : List (ByteArray × Int × Int)) : (l.flatMap varC).length = l.length * 3 := by
 induction l with
 | nil => rfl
 | cons x l ih => rw [List.flatMap_cons, zA7, ih, zA8]; show 3 + _ = _; omega
theorem latC_one (l : List (ByteArray × Shp)) : ∀ u ∈ l.flatMap latC, u.oneCell' = true := fun u hu => by
 obtain ⟨x, _, hx⟩ := List.mem_flatMap.1 hu
 simp only [latC, List.mem_cons, List.not_mem_nil, or_false] at hx
 rcases hx with rfl | rfl | rfl <;> rfl
theorem varC_one (l : List (ByteArray × Int × Int)) : ∀ u ∈ l.flatMap varC, u.oneCell' = true := fun u hu => by
 obtain ⟨x, _, hx⟩ := List.mem_flatMap.1 hu
 simp only [varC, List.mem_cons, List.not_mem_nil, or_false] at hx
 rcases hx with rfl | rfl | rfl <;> rfl
structure LatO (w : World) (B : Nat) (l : ByteArray × Shp) : Prop where
 own : w.ownsRow B 100 67 (.slice l.2.A l.2.fs.length l.2.c) l.2.fs.length (fscells l.2.fs)
 fac : ∀ g ∈ l.2.fs, FacO w B g
def lcore (l : ByteArray × Shp) : ByteArray × Bool × List Fac := (l.1, l.2.t, l.2.fs.map core)
structure ScN (w : World) (B : Nat) (s' s : Sc) : Prop where
 lown : w.ownsRow B 51 3 (.slice s'.LA s'.ls.length s'.lc) s'.ls.length (s'.ls.flatMap latC)
 vown : w.ownsRow B 55 3 (.slice s'.VA s'.vs.length s'.vc) s'.vs.length (s'.vs.flatMap varC)
 lats : ∀ l ∈ s'.ls, LatO w B l
 le : s'.ls.map lcore = s.ls.map lcore
 ve : s'.vs = s.vs
theorem LatO.below {w w' : World} {B : Nat} {l : ByteArray × Shp} (h : LatO w B l) (hb : Below w.heap.size w w') : LatO w' B l := ⟨own_below h.own hb (zL _), fun g hg => (h.fac g hg).below hb (zL _)⟩
theorem own_some {w : World} {base size n c : Nat} {e : TypeId} {A : Option Addr} {cs : List Value} (h : w.ownsRow base e size (.slice A n c) n cs) (hn : 0 < n) : ∃ b, A = some ⟨b, 0, none⟩ ∧ base ≤ b ∧ b < w.heap.size := by
 rcases h.2 with ⟨hv, h0⟩ | ⟨g, cap, cur, hv, hg, hh, _⟩
 ·omega
 ·injection hv with h1 _ _
  exact ⟨g, h1, hg, (Array.getElem?_eq_some_iff.1 hh).1⟩
theorem one_shape (w : World) (sh : Shp) : Sl (w.alloc (.cells #[.bool sh.t, .slice sh.A sh.fs.length sh.c] 49)) (w.alloc (.cells #[.bool sh.t, .slice sh.A sh.fs.length sh.c] 49)).heap.size (some ⟨w.heap.size, 0, none⟩) (shcells [sh]) := fun _ => by
 have hr := RowAt.new w 49 #[.bool sh.t, .slice sh.A sh.fs.length sh.c]
 refine ⟨w.heap.size, 0, rfl, hr.lt, fun j u hu => ?_⟩
 rw [Nat.zero_add, hr.cell j]
 have : shcells [sh] = [.bool sh.t, .slice sh.A sh.fs.length sh.c] := by simp [shcells, shc]
 rw [this] at hu
 simpa using hu
theorem set_app (a b : List Value) (m : Nat) (u : Value) : (a ++ b).set (a.length + m) u = a ++ b.set m u := by
 rw [List.set_append_right _ _ (by omega), Nat.add_sub_cancel_left]
theorem lat_set (l1 l2 : List (ByteArray × Shp)) (nm : ByteArray) (sh : Shp) (A2 : Option Addr) (c2 : Nat) (gs : List Fac) :
 ((((l1 ++ (nm, sh) :: l2).flatMap latC).set (l1.length * 3 + 1) (.bool true)).set (l1.length * 3 + 1 + 1) (.slice A2 gs.length c2)).set (l1.length * 3 + 1) (.bool sh.t) = ((l1 ++ [(nm, (⟨sh.t, A2, c2, gs⟩ : Shp))]) ++ l2).flatMap latC := by
 have hl := latC_len l1
 rw [← hl, List.flatMap_append, List.flatMap_cons, List.flatMap_append, List.flatMap_append]
 generalize l1.flatMap latC = a
 generalize l2.flatMap latC = b
 rw [set_app a _ 1, show a.length + 1 + 1 = a.length + 2 from rfl, set_app a _ 2, set_app a _ 1]
 simp [latC]
theorem scopied_any (s : Sc) (w : World) (h : ScOk w s) :
 Calls Tryz.prog 39 #[.agg (scv s)] w fun e w' => ∃ s', e = .returned (.agg (scv s')) ∧ ScN w' w.heap.size s' s ∧ Below w.heap.size w w' := by
 obtain ⟨r0, z0, hb⟩ := two_rows w (scv s) #[.slice none 0 0, .slice none 0 0] 25 25
 refine cHid fun Q' hQ => ?_
 have HQ := zh hQ; clear hQ
 go_enter Tryz.func39, Tryz.ntmps39
 go_upto_region 1 with fail
 change Code.wp _ _ _ _ ((w.alloc (.cells (scv s) 25)).alloc (.cells #[.slice none 0 0, .slice none 0 0] 25))
 generalize (w.alloc (.cells (scv s) 25)).alloc (.cells #[.slice none 0 0, .slice none 0 0] 25) = w1 at *
 have h1 := h.below hb
 have HOK := zh h1
 have HZR := zh z0
 have hz := z0.lt
 have C0 : ∀ W, Below w1.heap.size w1 W → W.cell? ⟨w.heap.size, 0, none⟩ = some (.slice s.LA s.ls.length s.lc) := fun W hW => (hW.cell (p := ⟨w.heap.size, 0, none⟩) r0.lt).trans (r0.cell 0)
 have C1 : ∀ W, Below w1.heap.size w1 W → W.cell? ⟨w.heap.size, 1, none⟩ = some (.slice s.VA s.vs.length s.vc) := fun W hW => (hW.cell (p := ⟨w.heap.size, 1, none⟩) r0.lt).trans (r0.cell 1)
 have HC1 : Hid (∀ W, Below w1.heap.size w1 W → Calls Tryz.prog 87 #[.slice s.LA s.ls.length s.lc] W fun e w' => ∃ A' c', e = .returned (.slice A' s.ls.length c') ∧ w'.ownsRow W.heap.size 51 3 (.slice A' s.ls.length c') s.ls.length (s.ls.flatMap latC) ∧ Below W.heap.size W w') := zh fun W hW =>
  cloneLat_any _ _ _ _ W (latC_len _) (latC_one _) h.lfew (h1.lats.below hW) fun e => by
   refine ⟨?_, h.lnil e⟩
   rcases Nat.eq_zero_or_pos s.ls.length with h0 | h0
   ·exact h0
   ·obtain ⟨b, o, hA, _⟩ := h1.lats.at 3 (fun _ => rfl) (by omega) lat0 h0
    rw [e] at hA; cases hA
 have HC2 : Hid (∀ W, Below w1.heap.size w1 W → Calls Tryz.prog 88 #[.slice s.VA s.vs.length s.vc] W fun e w' => ∃ A' c', e = .returned (.slice A' s.vs.length c') ∧ w'.ownsRow W.heap.size 55 3 (.slice A' s.vs.length c') s.vs.length (s.vs.flatMap varC) ∧ Below W.heap.size W w') := zh fun W hW =>
  cloneVar_any _ _ _ _ W (varC_len _) (varC_one _) h.vfew (h1.vars.below hW) fun e => by
   refine ⟨?_, h.vnil e⟩
   rcases Nat.eq_zero_or_pos s.vs.length with h0 | h0
   ·exact h0
   ·obtain ⟨b, o, hA, _⟩ := h1.vars.at 3 (fun _ => rfl) (by omega) var0 h0
    rw [e] at hA; cases hA
 have HLF := zh h.lfew
 clear h h1 r0 z0
 have HTY1 : Hid (51 ≠ 25) := zh (by show (51 : Nat) ≠ 25; decide)
 have HTY2 : Hid (55 ≠ 25) := zh (by show (55 : Nat) ≠ 25; decide)
 generalize hLC : s.ls.flatMap latC = LC at *
 generalize hVC : s.vs.flatMap varC = VC at *
 have HLC := zh hLC; have HVC := zh hVC; clear hLC hVC
 generalize hln : s.ls.length = ln at *
 generalize hvn : s.vs.length = vn at *
 have HLN := zh hln; have HVN := zh hvn; clear hln hvn
 go_cut [3] from 6 to 12 (fun v3 wx => ∃ (X1 X2 : Option Addr) (d1 d2 g3 : Nat), v3 = .pointer (some ⟨g3, 0, none⟩) ∧ Hid (Below w1.heap.size w1 wx) ∧ Hid (RowAt wx g3 25 #[.slice X1 ln d1, .slice X2 vn d2]) ∧ Hid (wx.ownsRow w1.heap.size 51 3 (.slice X1 ln d1) ln LC) ∧ Hid (wx.ownsRow w1.heap.size 55 3 (.slice X2 vn d2) vn VC) ∧ w1.heap.size ≤ g3)
 case first =>
  have HSv0 : Hid (Below w1.heap.size w1 w1.drew) := zh (zB _ _).drew
  refine wp_region_ou (fun w' => Below w1.heap.size w1 w') ((.take 0 (.take 1 (.take 3 (.take 4 (.two 2 (.two 5 (.take 6 (.solo 7 (.solo 8 .nil))) 7 (.solo 5 (.take 6 (.solo 8 .nil)))) 7 (.solo 2 (.solo 5 (.take 6 (.solo 8 .nil)))))))))) (by kernel_rfl) (by kernel_rfl) rfl (by kernel_rfl) HSv0.out ?_
  generalize w1.drew = v0 at HSv0 ⊢
  iterate 4
   (refine wpOU_step (zO rfl) ?_)
   (first
    | (refine wpOU_skip (by rfl) ?_)
    | (refine wpOU_take (v := ?_) (by rfl) ?_ ?_; rotate_left 1; (intro wx hSx; have hc_0 := C0 wx hSx; have hc_1 := C1 wx hSx; go_simp; try with_reducible rfl)))
   (try simp only [Act.put, zA4, zA5, zA6])
  refine wpOU_two ?_ ?_
  ·(refine wpOU_solo (zO rfl) ?_)
   intro K hK
   go_simp
   go_at_call 87
   refine (HC1.out v0 HSv0.out).mono ?_
   rintro e v1 ⟨X1, d1, rfl, hown, hb⟩
   have HSv1 := zh (HSv0.out.trans (hb.mono HSv0.out.size))
   have HW1v1 := zh (own_mono hown HSv0.out.size)
   clear hown hb
   refine hK.out _ _ HSv1.out ?_
   clear hK K
   (try simp only [Act.put, zA4, zA5, zA6])
   refine wpOU_two ?_ ?_
   ·(refine wpOU_solo (zO rfl) ?_)
    intro K hK
    go_simp
    go_at_call 88
    refine (HC2.out v1 HSv1.out).mono ?_
    rintro e v2 ⟨X2, d2, rfl, hown, hb⟩
    have HSv2 := zh (HSv1.out.trans (hb.mono HSv1.out.size))
    have HW2v2 := zh (own_mono hown HSv1.out.size)
    have HW1v2 := zh (own_below HW1v1.out hb (zL _))
    clear hown hb
    refine hK.out _ _ HSv2.out ?_
    clear hK K
    (try simp only [Act.put, zA4, zA5, zA6])
    iterate 1
     (refine wpOU_step (zO rfl) ?_)
     (first
           | (refine wpOU_skip (by rfl) ?_)
           | (refine wpOU_take (v := ?_) (by rfl) ?_ ?_; rotate_left 1; (intro wx hSx; have hc_0 := C0 wx hSx; have hc_1 := C1 wx hSx; go_simp; try with_reducible rfl)))
     (try simp only [Act.put, zA4, zA5, zA6])
    (refine wpOU_solo (zO rfl) ?_)
    intro K hK
    go_simp
    have hb : Below v2.heap.size v2 (v2.alloc (.cells #[.slice none 0 0, .slice none 0 0] 25)) := (zB _ _).alloc (zL _) _
    have HSv3 : Hid (Below w1.heap.size w1 (v2.alloc (.cells #[.slice none 0 0, .slice none 0 0] 25))) := zh (HSv2.out.trans (hb.mono HSv2.out.size))
    have HR3v3 := zh (RowAt.new v2 25 #[.slice none 0 0, .slice none 0 0])
    have HZ3 : Hid (w1.heap.size ≤ v2.heap.size) := zh HSv2.out.size
    have HW1v3 := zh (own_below HW1v2.out hb (zL _))
    have HW2v3 := zh (own_below HW2v2.out hb (zL _))
    clear hb
    refine hK.out _ _ HSv3.out ?_
    clear hK K
    (try simp only [Act.put, zA4, zA5, zA6])
    generalize hgb : v2.heap.size = g3 at *
    generalize (v2.alloc (.cells #[.slice none 0 0, .slice none 0 0] 25)) = v3 at *
    clear hgb
    (refine wpOU_solo (zO rfl) ?_)
    intro K hK
    rw [if_pos (by rfl)]
    refine wp_store_row _ _ _ rfl g3 #[.slice X1 ln d1, .slice X2 vn d2] rfl rfl _ _ HR3v3.out (by kernel_rfl) rfl (by simp [Value.oneCell']) ?_
    have HSv9 : Hid (Below w1.heap.size w1 (v3.setRow g3 #[.slice X1 ln d1, .slice X2 vn d2])) := zh (HSv3.out.trans (Else.below (Else.setRow v3 g3 _) HZ3.out))
    have HR4 := zh (HR3v3.out.setRow #[.slice X1 ln d1, .slice X2 vn d2])
    have HW6 : Hid ((v3.setRow g3 #[.slice X1 ln d1, .slice X2 vn d2]).ownsRow w1.heap.size 51 3 (.slice X1 ln d1) ln LC) := zh (own_same HW1v3.out fun b _ hv => setRow_other _ _ _ _ (fun e => own_ne2 HW1v3.out HR3v3.out HTY1.out (by rw [← e]; exact hv)))
    have HW7 : Hid ((v3.setRow g3 #[.slice X1 ln d1, .slice X2 vn d2]).ownsRow w1.heap.size 55 3 (.slice X2 vn d2) vn VC) := zh (own_same HW2v3.out fun b _ hv => setRow_other _ _ _ _ (fun e => own_ne2 HW2v3.out HR3v3.out HTY2.out (by rw [← e]; exact hv)))
    refine hK.out _ _ HSv9.out ?_
    clear hK K
    (try simp only [Act.put, zA4, zA5, zA6])
    generalize v3.setRow g3 #[.slice X1 ln d1, .slice X2 vn d2] = v9 at *
    refine wpOU_done ?_
    go_wp2
    go_meet
    case rel => exact ⟨X1, X2, d1, d2, g3, rfl, HSv9, HR4, HW6, HW7, HZ3.out⟩
   ·(refine wpOU_solo (zO rfl) ?_)
    intro K hK
    go_simp
    have hb : Below v1.heap.size v1 (v1.alloc (.cells #[.slice none 0 0, .slice none 0 0] 25)) := (zB _ _).alloc (zL _) _
    have HSv2 : Hid (Below w1.heap.size w1 (v1.alloc (.cells #[.slice none 0 0, .slice none 0 0] 25))) := zh (HSv1.out.trans (hb.mono HSv1.out.size))
    have HR3v2 := zh (RowAt.new v1 25 #[.slice none 0 0, .slice none 0 0])
    have HZ3 : Hid (w1.heap.size ≤ v1.heap.size) := zh HSv1.out.size
    have HW1v2 := zh (own_below HW1v1.out hb (zL _))
    clear hb
    refine hK.out _ _ HSv2.out ?_
    clear hK K
    (try simp only [Act.put, zA4, zA5, zA6])
    generalize hgb : v1.heap.size = g3 at *
    generalize (v1.alloc (.cells #[.slice none 0 0, .slice none 0 0] 25)) = v2 at *
    clear hgb
    (refine wpOU_solo (zO rfl) ?_)
    intro K hK
    go_simp
    go_at_call 88
    refine (HC2.out v2 HSv2.out).mono ?_
    rintro e v3 ⟨X2, d2, rfl, hown, hb⟩
    have HSv3 := zh (HSv2.out.trans (hb.mono HSv2.out.size))
    have HW2v3 := zh (own_mono hown HSv2.out.size)
    have HW1v3 := zh (own_below HW1v2.out hb (zL _))
    have HR3v3 := zh (HR3v2.out.below hb HR3v2.out.lt)
    clear hown hb
    refine hK.out _ _ HSv3.out ?_
    clear hK K
    (try simp only [Act.put, zA4, zA5, zA6])
    iterate 1
     (refine wpOU_step (zO rfl) ?_)
     (first
           | (refine wpOU_skip (by rfl) ?_)
           | (refine wpOU_take (v := ?_) (by rfl) ?_ ?_; rotate_left 1; (intro wx hSx; have hc_0 := C0 wx hSx; have hc_1 := C1 wx hSx; go_simp; try with_reducible rfl)))
     (try simp only [Act.put, zA4, zA5, zA6])
    (refine wpOU_solo (zO rfl) ?_)
    intro K hK
    rw [if_pos (by rfl)]
    refine wp_store_row _ _ _ rfl g3 #[.slice X1 ln d1, .slice X2 vn d2] rfl rfl _ _ HR3v3.out (by kernel_rfl) rfl (by simp [Value.oneCell']) ?_
    have HSv9 : Hid (Below w1.heap.size w1 (v3.setRow g3 #[.slice X1 ln d1, .slice X2 vn d2])) := zh (HSv3.out.trans (Else.below (Else.setRow v3 g3 _) HZ3.out))
    have HR4 := zh (HR3v3.out.setRow #[.slice X1 ln d1, .slice X2 vn d2])
    have HW6 : Hid ((v3.setRow g3 #[.slice X1 ln d1, .slice X2 vn d2]).ownsRow w1.heap.size 51 3 (.slice X1 ln d1) ln LC) := zh (own_same HW1v3.out fun b _ hv => setRow_other _ _ _ _ (fun e => own_ne2 HW1v3.out HR3v3.out HTY1.out (by rw [← e]; exact hv)))
    have HW7 : Hid ((v3.setRow g3 #[.slice X1 ln d1, .slice X2 vn d2]).ownsRow w1.heap.size 55 3 (.slice X2 vn d2) vn VC) := zh (own_same HW2v3.out fun b _ hv => setRow_other _ _ _ _ (fun e => own_ne2 HW2v3.out HR3v3.out HTY2.out (by rw [← e]; exact hv)))
    refine hK.out _ _ HSv9.out ?_
    clear hK K
    (try simp only [Act.put, zA4, zA5, zA6])
    generalize v3.setRow g3 #[.slice X1 ln d1, .slice X2 vn d2] = v9 at *
    refine wpOU_done ?_
    go_wp2
    go_meet
    case rel => exact ⟨X1, X2, d1, d2, g3, rfl, HSv9, HR4, HW6, HW7, HZ3.out⟩
  ·(refine wpOU_solo (zO rfl) ?_)
   intro K hK
   go_simp
   have hb : Below v0.heap.size v0 (v0.alloc (.cells #[.slice none 0 0, .slice none 0 0] 25)) := (zB _ _).alloc (zL _) _
   have HSv1 : Hid (Below w1.heap.size w1 (v0.alloc (.cells #[.slice none 0 0, .slice none 0 0] 25))) := zh (HSv0.out.trans (hb.mono HSv0.out.size))
   have HR3v1 := zh (RowAt.new v0 25 #[.slice none 0 0, .slice none 0 0])
   have HZ3 : Hid (w1.heap.size ≤ v0.heap.size) := zh HSv0.out.size
   clear hb
   refine hK.out _ _ HSv1.out ?_
   clear hK K
   (try simp only [Act.put, zA4, zA5, zA6])
   generalize hgb : v0.heap.size = g3 at *
   generalize (v0.alloc (.cells #[.slice none 0 0, .slice none 0 0] 25)) = v1 at *
   clear hgb
   (refine wpOU_solo (zO rfl) ?_)
   intro K hK
   go_simp
   go_at_call 87
   refine (HC1.out v1 HSv1.out).mono ?_
   rintro e v2 ⟨X1, d1, rfl, hown, hb⟩
   have HSv2 := zh (HSv1.out.trans (hb.mono HSv1.out.size))
   have HW1v2 := zh (own_mono hown HSv1.out.size)
   have HR3v2 := zh (HR3v1.out.below hb HR3v1.out.lt)
   clear hown hb
   refine hK.out _ _ HSv2.out ?_
   clear hK K
   (try simp only [Act.put, zA4, zA5, zA6])
   (refine wpOU_solo (zO rfl) ?_)
   intro K hK
   go_simp
   go_at_call 88
   refine (HC2.out v2 HSv2.out).mono ?_
   rintro e v3 ⟨X2, d2, rfl, hown, hb⟩
   have HSv3 := zh (HSv2.out.trans (hb.mono HSv2.out.size))
   have HW2v3 := zh (own_mono hown HSv2.out.size)
   have HR3v3 := zh (HR3v2.out.below hb HR3v2.out.lt)
   have HW1v3 := zh (own_below HW1v2.out hb (zL _))
   clear hown hb
   refine hK.out _ _ HSv3.out ?_
   clear hK K
   (try simp only [Act.put, zA4, zA5, zA6])
   iterate 1
        (refine wpOU_step (zO rfl) ?_)
        (first
         | (refine wpOU_skip (by rfl) ?_)
         | (refine wpOU_take (v := ?_) (by rfl) ?_ ?_; rotate_left 1; (intro wx hSx; have hc_0 := C0 wx hSx; have hc_1 := C1 wx hSx; go_simp; try with_reducible rfl)))
        (try simp only [Act.put, zA4, zA5, zA6])
   (refine wpOU_solo (zO rfl) ?_)
   intro K hK
   rw [if_pos (by rfl)]
   refine wp_store_row _ _ _ rfl g3 #[.slice X1 ln d1, .slice X2 vn d2] rfl rfl _ _ HR3v3.out (by kernel_rfl) rfl (by simp [Value.oneCell']) ?_
   have HSv9 : Hid (Below w1.heap.size w1 (v3.setRow g3 #[.slice X1 ln d1, .slice X2 vn d2])) := zh (HSv3.out.trans (Else.below (Else.setRow v3 g3 _) HZ3.out))
   have HR4 := zh (HR3v3.out.setRow #[.slice X1 ln d1, .slice X2 vn d2])
   have HW6 : Hid ((v3.setRow g3 #[.slice X1 ln d1, .slice X2 vn d2]).ownsRow w1.heap.size 51 3 (.slice X1 ln d1) ln LC) := zh (own_same HW1v3.out fun b _ hv => setRow_other _ _ _ _ (fun e => own_ne2 HW1v3.out HR3v3.out HTY1.out (by rw [← e]; exact hv)))
   have HW7 : Hid ((v3.setRow g3 #[.slice X1 ln d1, .slice X2 vn d2]).ownsRow w1.heap.size 55 3 (.slice X2 vn d2) vn VC) := zh (own_same HW2v3.out fun b _ hv => setRow_other _ _ _ _ (fun e => own_ne2 HW2v3.out HR3v3.out HTY2.out (by rw [← e]; exact hv)))
   refine hK.out _ _ HSv9.out ?_
   clear hK K
   (try simp only [Act.put, zA4, zA5, zA6])
   generalize v3.setRow g3 #[.slice X1 ln d1, .slice X2 vn d2] = v9 at *
   refine wpOU_done ?_
   go_wp2
   go_meet
   case rel => exact ⟨X1, X2, d1, d2, g3, rfl, HSv9, HR4, HW6, HW7, HZ3.out⟩
 case rest =>
  obtain ⟨X1, X2, d1, d2, g3, rfl, HS3, HR3, HL3, HV3, HG3⟩ := hcut
  have hg3 := HR3.out.lt
  have HTY4 : Hid (55 ≠ 51) := zh (by show (55 : Nat) ≠ 51; decide)
  have HTY5 : Hid (100 ≠ 51) := zh (by show (100 : Nat) ≠ 51; decide)
  have HTY6 : Hid (9 ≠ 51) := zh (by show (9 : Nat) ≠ 51; decide)
  have HL0 : Hid (wc.ownsRow w1.heap.size 51 3 (.slice X1 ln d1) ln (([] ++ s.ls.drop 0).flatMap latC)) := zh (by rw [List.nil_append, List.drop_zero, HLC.out]; exact HL3.out)
  have hl16 : ln ≤ 65536 := HLF.out
  have HSHf : Hid (∀ k, k < ln → ∀ W, Below w1.heap.size w1 W → ShOk W (s.ls.getD k lat0).2) := zh fun k hk W hW => (HOK.out.sh _ (getD_mem' (by rw [HLN.out]; exact hk))).below hW
  have HDR : Hid (∀ k, k < ln → s.ls.drop k = s.ls.getD k lat0 :: s.ls.drop (k + 1)) := zh fun k hk => by
   have hk2 : k < s.ls.length := by rw [HLN.out]; exact hk
   rw [List.drop_eq_getElem_cons hk2, List.getD_eq_getElem?_getD, List.getElem?_eq_getElem hk2]; rfl
  have HTK : Hid (∀ k, k < ln → s.ls.take (k + 1) = s.ls.take k ++ [s.ls.getD k lat0]) := zh fun k hk => by
   have hk2 : k < s.ls.length := by rw [HLN.out]; exact hk
   rw [List.take_succ_eq_append_getElem hk2, List.getD_eq_getElem?_getD, List.getElem?_eq_getElem hk2]; rfl
  have c3 := (HR3.out.cell 0).trans (show (#[Value.slice X1 ln d1, .slice X2 vn d2])[0]? = some (.slice X1 ln d1) from rfl)
  go_wp2_with fail
  clear c3
  go_loopw [5, 16] (fun _ kv wr => ∃ (k : Nat) (NL : List (ByteArray × Shp)), k ≤ ln ∧ kv = .int .i64 k ∧ NL.length = k ∧ Hid (Below w1.heap.size w1 wr) ∧ Hid (RowAt wr g3 25 #[.slice X1 ln d1, .slice X2 vn d2]) ∧ Hid (wr.ownsRow w1.heap.size 51 3 (.slice X1 ln d1) ln ((NL ++ s.ls.drop k).flatMap latC)) ∧ Hid (wr.ownsRow w1.heap.size 55 3 (.slice X2 vn d2) vn VC) ∧ Hid (∀ l ∈ NL, LatO wr w1.heap.size l) ∧ Hid (NL.map lcore = (s.ls.take k).map lcore)) (fun _ kv _ => ln - (intOf kv).toNat)
  case atStart => exact ⟨0, [], by omega, rfl, rfl, HS3, HR3, HL0, HV3, zh (fun l hl => by cases hl), zh rfl⟩
  case round =>
   clear HS3 HR3 HL0 HV3 HL3 hg3
   obtain ⟨k, NL, hk, rfl, hnl, HSr, HRr, HLr, HVr, HNr, HEr⟩ := hrel
   by_cases hlt : k < ln
   ·have HLT := zh hlt
    obtain ⟨bL, rfl, hbL, hbLt⟩ := own_some HLr.out (by omega)
    have HBL := zh hbL; have HBLt := zh hbLt
    have HNLn := zh hnl
    have hdr := HDR.out k hlt
    have HSH := zh (HSHf.out k hlt)
    have HTKk := zh (HTK.out k hlt)
    rw [hdr] at HLr
    have hcur : ∀ j, j < 3 → ((NL ++ s.ls.getD k lat0 :: s.ls.drop (k + 1)).flatMap latC)[k * 3 + j]? = (latC (s.ls.getD k lat0))[j]? := fun j hj => by
     rw [flat_at latC 3 (fun _ => rfl) lat0 _ k j (by simp; omega) hj]
     congr 2
     rw [List.getD_eq_getElem?_getD, List.getElem?_append_right (by omega), hnl, Nat.sub_self]; rfl
    have HLS2 : Hid (∀ A2 c2 gs, ((((NL ++ s.ls.getD k lat0 :: s.ls.drop (k + 1)).flatMap latC).set (k * 3 + 1) (.bool true)).set (k * 3 + 1 + 1) (.slice A2 (List.length gs) c2)).set (k * 3 + 1) (.bool (s.ls.getD k lat0).2.t) = ((NL ++ [((s.ls.getD k lat0).1, (⟨(s.ls.getD k lat0).2.t, A2, c2, gs⟩ : Shp))]) ++ s.ls.drop (k + 1)).flatMap latC) := zh fun A2 c2 gs => by
     have := lat_set NL (s.ls.drop (k + 1)) (s.ls.getD k lat0).1 (s.ls.getD k lat0).2 A2 c2 gs
     rw [hnl] at this
     exact this
    generalize (NL ++ s.ls.getD k lat0 :: s.ls.drop (k + 1)).flatMap latC = CUR at *
    generalize s.ls.getD k lat0 = el at *
    obtain ⟨nm, sh⟩ := el
    have HAT : Hid (CUR[k * 3]? = some (.string nm) ∧ CUR[k * 3 + 1]? = some (.bool sh.t) ∧ CUR[k * 3 + 1 + 1]? = some (.slice sh.A sh.fs.length sh.c)) := zh ⟨hcur 0 (by omega), hcur 1 (by omega), hcur 2 (by omega)⟩
    have p0 := ownS_at HLr.out HAT.out.1
    have p1 := ownS_at HLr.out HAT.out.2.1
    have p2 := ownS_at HLr.out HAT.out.2.2
    have HFW : Hid ((flat [sh]).length ≤ 65536) := zh (by simp [flat]; exact (HSH.out _ HSr.out).few)
    have c3 := (HRr.out.cell 0).trans (show (#[Value.slice (some ⟨bL, 0, none⟩) ln d1, .slice X2 vn d2])[0]? = some (.slice (some ⟨bL, 0, none⟩) ln d1) from rfl)
    have hk16 : k < 65536 := by omega
    clear hcur hdr hnl
    have hbx : Below wr.heap.size wr (wr.alloc (.cells #[.string nm, .bool sh.t, .slice sh.A sh.fs.length sh.c] 51)) := (zB _ _).alloc (zL _) _
    have HSx := zh (HSr.out.trans (hbx.mono HSr.out.size))
    have HRx := zh (HRr.out.below hbx HRr.out.lt)
    have HLx := zh (own_below HLr.out hbx (zL _))
    have HVx := zh (own_below HVr.out hbx (zL _))
    have HNx : Hid (∀ l ∈ NL, LatO (wr.alloc (.cells #[.string nm, .bool sh.t, .slice sh.A sh.fs.length sh.c] 51)) w1.heap.size l) := zh fun l hl => (HNr.out l hl).below hbx
    have HGl := zh (RowAt.new wr 51 #[.string nm, .bool sh.t, .slice sh.A sh.fs.length sh.c])
    have HNEl : Hid (bL ≠ wr.heap.size) := zh (by omega)
    have HSH2 : Hid (∀ W, Below w1.heap.size w1 W → ShOk W sh) := HSH
    clear HSH hbx hbL hbLt
    have HSH := HSH2
    clear HSH2
    go_upto_region 5 with fail
    change Code.wp _ _ _ _ (wr.alloc (.cells #[.string nm, .bool sh.t, .slice sh.A sh.fs.length sh.c] 51))
    generalize wr.alloc (.cells #[.string nm, .bool sh.t, .slice sh.A sh.fs.length sh.c] 51) = yx at *
    generalize wr.heap.size = gl at *
    clear p0 p1 p2 c3
    have C0 : ∀ W, (Below w1.heap.size w1 W ∧ RowAt W g3 25 #[.slice (some ⟨bL, 0, none⟩) ln d1, .slice X2 vn d2] ∧ RowAt W gl 51 #[.string nm, .bool sh.t, .slice sh.A sh.fs.length sh.c]) → W.cell? ⟨g3, 0, none⟩ = some (.slice (some ⟨bL, 0, none⟩) ln d1) := fun W h => (h.2.1.cell 0).trans rfl
    have C1 : ∀ W, (Below w1.heap.size w1 W ∧ RowAt W g3 25 #[.slice (some ⟨bL, 0, none⟩) ln d1, .slice X2 vn d2] ∧ RowAt W gl 51 #[.string nm, .bool sh.t, .slice sh.A sh.fs.length sh.c]) → W.cell? ⟨gl, 1, none⟩ = some (.bool sh.t) := fun W h => (h.2.2.cell 1).trans rfl
    have C2 : ∀ W, (Below w1.heap.size w1 W ∧ RowAt W g3 25 #[.slice (some ⟨bL, 0, none⟩) ln d1, .slice X2 vn d2] ∧ RowAt W gl 51 #[.string nm, .bool sh.t, .slice sh.A sh.fs.length sh.c]) → W.cell? ⟨gl, 2, none⟩ = some (.slice sh.A sh.fs.length sh.c) := fun W h => (h.2.2.cell 2).trans rfl
    have HSy0 : Hid (Below w1.heap.size w1 yx.drew ∧ RowAt yx.drew g3 25 #[.slice (some ⟨bL, 0, none⟩) ln d1, .slice X2 vn d2] ∧ RowAt yx.drew gl 51 #[.string nm, .bool sh.t, .slice sh.A sh.fs.length sh.c]) := zh ⟨HSx.out.drew, HRx.out, HGl.out⟩
    have HLy0 : Hid (yx.drew.ownsRow w1.heap.size 51 3 (.slice (some ⟨bL, 0, none⟩) ln d1) ln CUR) := HLx
    have HVy0 : Hid (yx.drew.ownsRow w1.heap.size 55 3 (.slice X2 vn d2) vn VC) := HVx
    have HNy0 : Hid (∀ l ∈ NL, LatO yx.drew w1.heap.size l) := zh fun l hl => (HNx.out l hl).below (zB _ _).drew
    refine wp_region_ou (fun W => Below w1.heap.size w1 W ∧ RowAt W g3 25 #[.slice (some ⟨bL, 0, none⟩) ln d1, .slice X2 vn d2] ∧ RowAt W gl 51 #[.string nm, .bool sh.t, .slice sh.A sh.fs.length sh.c]) ((.take 0 (.take 1 (.take 2 (.take 3 (.take 4 (.solo 5 (.solo 6 (.take 7 (.take 8 (.solo 9 .nil))))))))))) (by kernel_rfl) (by kernel_rfl) rfl (by kernel_rfl) HSy0.out ?_
    generalize yx.drew = y0 at *
    iterate 5
     (refine wpOU_step (zO rfl) ?_)
     (first
      | (refine wpOU_skip (by rfl) ?_)
      | (refine wpOU_take (v := ?_) (by rfl) ?_ ?_; rotate_left 1; (intro wx hSx; have hc_0 := C0 wx hSx; have hc_1 := C1 wx hSx; have hc_2 := C2 wx hSx; go_simp; try with_reducible rfl)))
     (try simp only [Act.put, zA4, zA5, zA6])
    (refine wpOU_solo (zO rfl) ?_)
    intro K hK
    go_simp
    have hb : Below y0.heap.size y0 (y0.alloc (.cells #[.bool sh.t, .slice sh.A sh.fs.length sh.c] 49)) := (zB _ _).alloc (zL _) _
    have HSy1 : Hid (Below w1.heap.size w1 (y0.alloc (.cells #[.bool sh.t, .slice sh.A sh.fs.length sh.c] 49)) ∧ RowAt (y0.alloc (.cells #[.bool sh.t, .slice sh.A sh.fs.length sh.c] 49)) g3 25 #[.slice (some ⟨bL, 0, none⟩) ln d1, .slice X2 vn d2] ∧ RowAt (y0.alloc (.cells #[.bool sh.t, .slice sh.A sh.fs.length sh.c] 49)) gl 51 #[.string nm, .bool sh.t, .slice sh.A sh.fs.length sh.c]) := zh ⟨HSy0.out.1.trans (hb.mono HSy0.out.1.size), HSy0.out.2.1.below hb HSy0.out.2.1.lt, HSy0.out.2.2.below hb HSy0.out.2.2.lt⟩
    have HFy : Hid (Sl (y0.alloc (.cells #[.bool sh.t, .slice sh.A sh.fs.length sh.c] 49)) (y0.alloc (.cells #[.bool sh.t, .slice sh.A sh.fs.length sh.c] 49)).heap.size (some ⟨y0.heap.size, 0, none⟩) (shcells [sh]) ∧ ∀ y ∈ [sh], ShOk (y0.alloc (.cells #[.bool sh.t, .slice sh.A sh.fs.length sh.c] 49)) y) := zh ⟨one_shape y0 sh, fun y hy => by
     obtain rfl : y = sh := by simpa using hy
     exact HSH.out _ (HSy0.out.1.trans (hb.mono HSy0.out.1.size))⟩
    have HLy1 := zh (own_below HLy0.out hb (zL _))
    have HVy1 := zh (own_below HVy0.out hb (zL _))
    have HNy1 : Hid (∀ l ∈ NL, LatO (y0.alloc (.cells #[.bool sh.t, .slice sh.A sh.fs.length sh.c] 49)) w1.heap.size l) := zh fun l hl => (HNy0.out l hl).below hb
    clear hb
    refine hK.out _ _ HSy1.out ?_
    clear hK K
    (try simp only [Act.put, zA4, zA5, zA6])
    generalize hgb : y0.heap.size = g6 at *
    generalize (y0.alloc (.cells #[.bool sh.t, .slice sh.A sh.fs.length sh.c] 49)) = y1 at *
    clear hgb
    (refine wpOU_solo (zO rfl) ?_)
    intro K hK
    go_simp
    go_at_call 62
    have HPR := zh (product_any (some ⟨g6, 0, none⟩) 1 [sh] y1 HFy.out.1 HFy.out.2 (by simp) HFW.out)
    refine HPR.out.mono ?_
    rintro e y2 ⟨A2, c2, gs, rfl, hown, hfo, hcore, hb⟩
    have HSy2 : Hid (Below w1.heap.size w1 y2 ∧ RowAt y2 g3 25 #[.slice (some ⟨bL, 0, none⟩) ln d1, .slice X2 vn d2] ∧ RowAt y2 gl 51 #[.string nm, .bool sh.t, .slice sh.A sh.fs.length sh.c]) := zh ⟨HSy1.out.1.trans (hb.mono HSy1.out.1.size), HSy1.out.2.1.below hb HSy1.out.2.1.lt, HSy1.out.2.2.below hb HSy1.out.2.2.lt⟩
    have HLy2 := zh (own_below HLy1.out hb (zL _))
    have HVy2 := zh (own_below HVy1.out hb (zL _))
    have HNy2 : Hid (∀ l ∈ NL, LatO y2 w1.heap.size l) := zh fun l hl => (HNy1.out l hl).below hb
    have HNW : Hid (LatO y2 w1.heap.size (nm, ⟨sh.t, A2, c2, gs⟩)) := zh ⟨own_mono hown HSy1.out.1.size, fun g hg => (hfo g hg).mono HSy1.out.1.size⟩
    have HCR := zh hcore
    clear hown hfo hcore hb HPR
    refine hK.out _ _ HSy2.out ?_
    clear hK K
    (try simp only [Act.put, zA4, zA5, zA6])
    iterate 2
     (refine wpOU_step (zO rfl) ?_)
     (first
      | (refine wpOU_skip (by rfl) ?_)
      | (refine wpOU_take (v := ?_) (by rfl) ?_ ?_; rotate_left 1; (intro wx hSx; have hc_0 := C0 wx hSx; have hc_1 := C1 wx hSx; have hc_2 := C2 wx hSx; go_simp; try with_reducible rfl)))
     (try simp only [Act.put, zA4, zA5, zA6])
    (refine wpOU_solo (zO rfl) ?_)
    intro K hK
    have m1 := ownS_at HLy2.out HAT.out.2.1
    have m2 := ownS_at HLy2.out HAT.out.2.2
    have f1 := own_free HLy2.out (k * 3 + 1)
    have f2 := own_free HLy2.out (k * 3 + 1 + 1)
    obtain ⟨rs, hrs⟩ := ownS_row HLy2.out
    have HRS := zh hrs; clear hrs
    have HNE3 : Hid (bL ≠ g3) := zh fun e => own_ne2 HLy2.out HSy2.out.2.1 HTY1.out (by rw [← e]; rfl)
    have HOW : Hid ((((y2.setCell ⟨bL, k * 3 + 1, none⟩ (.bool true)).setCell ⟨bL, k * 3 + 1 + 1, none⟩ (.slice A2 gs.length c2))).ownsRow w1.heap.size 51 3 (.slice (some ⟨bL, 0, none⟩) ln d1) ln ((CUR.set (k * 3 + 1) (.bool true)).set (k * 3 + 1 + 1) (.slice A2 gs.length c2))) := zh (ownS_set (ownS_set HLy2.out _ _) _ _)
    have HFAR : Hid (∀ {base size n : Nat} {e : TypeId} {v : Value} {cs : List Value}, y2.ownsRow base e size v n cs → e ≠ 51 → ((y2.setCell ⟨bL, k * 3 + 1, none⟩ (.bool true)).setCell ⟨bL, k * 3 + 1 + 1, none⟩ (.slice A2 gs.length c2)).ownsRow base e size v n cs) := zh fun h ht => ownS_far (ownS_far h HRS.out ht _ _) (HRS.out.put _ _) ht _ _
    have HSy3 : Hid (Below w1.heap.size w1 ((y2.setCell ⟨bL, k * 3 + 1, none⟩ (.bool true)).setCell ⟨bL, k * 3 + 1 + 1, none⟩ (.slice A2 gs.length c2)) ∧ RowAt ((y2.setCell ⟨bL, k * 3 + 1, none⟩ (.bool true)).setCell ⟨bL, k * 3 + 1 + 1, none⟩ (.slice A2 gs.length c2)) g3 25 #[.slice (some ⟨bL, 0, none⟩) ln d1, .slice X2 vn d2] ∧ RowAt ((y2.setCell ⟨bL, k * 3 + 1, none⟩ (.bool true)).setCell ⟨bL, k * 3 + 1 + 1, none⟩ (.slice A2 gs.length c2)) gl 51 #[.string nm, .bool sh.t, .slice sh.A sh.fs.length sh.c]) := zh ⟨(HSy2.out.1.setCell (p := ⟨bL, k * 3 + 1, none⟩) HBL.out _).setCell (p := ⟨bL, k * 3 + 1 + 1, none⟩) HBL.out _, (HSy2.out.2.1.far (p := ⟨bL, k * 3 + 1, none⟩) HNE3.out _).far (p := ⟨bL, k * 3 + 1 + 1, none⟩) HNE3.out _, (HSy2.out.2.2.far (p := ⟨bL, k * 3 + 1, none⟩) HNEl.out _).far (p := ⟨bL, k * 3 + 1 + 1, none⟩) HNEl.out _⟩
    have HVy3 := zh (HFAR.out HVy2.out HTY4.out)
    have HNy3 : Hid (∀ l ∈ NL, LatO ((y2.setCell ⟨bL, k * 3 + 1, none⟩ (.bool true)).setCell ⟨bL, k * 3 + 1 + 1, none⟩ (.slice A2 gs.length c2)) w1.heap.size l) := zh fun l hl => ⟨HFAR.out (HNy2.out l hl).own HTY5.out, fun g hg => ⟨HFAR.out ((HNy2.out l hl).fac g hg).own HTY6.out, ((HNy2.out l hl).fac g hg).rows⟩⟩
    have HNW3 : Hid (LatO ((y2.setCell ⟨bL, k * 3 + 1, none⟩ (.bool true)).setCell ⟨bL, k * 3 + 1 + 1, none⟩ (.slice A2 gs.length c2)) w1.heap.size (nm, ⟨sh.t, A2, c2, gs⟩)) := zh ⟨HFAR.out HNW.out.own HTY5.out, fun g hg => ⟨HFAR.out (HNW.out.fac g hg).own HTY6.out, (HNW.out.fac g hg).rows⟩⟩
    simp only [sv]
    go_simp
    refine hK.out _ _ HSy3.out ?_
    clear hK K m1 m2 f1 f2 HFAR HRS
    (try simp only [Act.put, zA4, zA5, zA6])
    generalize ((y2.setCell ⟨bL, k * 3 + 1, none⟩ (.bool true)).setCell ⟨bL, k * 3 + 1 + 1, none⟩ (.slice A2 gs.length c2)) = y3 at *
    refine wpOU_done ?_
    obtain ⟨_, r1, r2, _, _, _⟩ := rw3 HSy3.out.2.2
    have c3 := (HSy3.out.2.1.cell 0).trans (show (#[Value.slice (some ⟨bL, 0, none⟩) ln d1, .slice X2 vn d2])[0]? = some (.slice (some ⟨bL, 0, none⟩) ln d1) from rfl)
    have m1 := ownS_at HOW.out (show ((CUR.set (k * 3 + 1) (.bool true)).set (k * 3 + 1 + 1) (.slice A2 gs.length c2))[k * 3 + 1]? = some (.bool true) from by
     have := (List.getElem?_eq_some_iff.1 HAT.out.2.1).1
     rw [List.getElem?_set_ne (by omega), List.getElem?_set_self this])
    have f1 := own_free HOW.out (k * 3 + 1)
    obtain ⟨rs, hrs⟩ := ownS_row HOW.out
    have HRS := zh hrs; clear hrs
    have HNE3 : Hid (bL ≠ g3) := zh fun e => own_ne2 HOW.out HSy3.out.2.1 HTY1.out (by rw [← e]; rfl)
    go_wp2_with fail
    have HOZ : Hid ((y3.setCell ⟨bL, k * 3 + 1, none⟩ (.bool sh.t)).ownsRow w1.heap.size 51 3 (.slice (some ⟨bL, 0, none⟩) ln d1) ln (((NL ++ [(nm, (⟨sh.t, A2, c2, gs⟩ : Shp))]) ++ s.ls.drop (k + 1)).flatMap latC)) := zh (by rw [← HLS2.out]; exact ownS_set HOW.out _ _)
    have HFAR : Hid (∀ {base size n : Nat} {e : TypeId} {v : Value} {cs : List Value}, y3.ownsRow base e size v n cs → e ≠ 51 → (y3.setCell ⟨bL, k * 3 + 1, none⟩ (.bool sh.t)).ownsRow base e size v n cs) := zh fun h ht => ownS_far h HRS.out ht _ _
    go_roundw
    case rel =>
     refine ⟨k + 1, NL ++ [(nm, (⟨sh.t, A2, c2, gs⟩ : Shp))], by have := HLT.out; omega, by go_num, by rw [zA7, HNLn.out]; rfl, zh (HSy3.out.1.setCell (p := ⟨bL, k * 3 + 1, none⟩) HBL.out _), zh (HSy3.out.2.1.far (p := ⟨bL, k * 3 + 1, none⟩) HNE3.out _), HOZ, zh (HFAR.out HVy3.out HTY4.out), zh fun l hl => ?_, ?_⟩
     ·rcases List.mem_append.1 hl with h | h
      ·exact ⟨HFAR.out (HNy3.out l h).own HTY5.out, fun g hg => ⟨HFAR.out ((HNy3.out l h).fac g hg).own HTY6.out, ((HNy3.out l h).fac g hg).rows⟩⟩
      ·obtain rfl : l = (nm, (⟨sh.t, A2, c2, gs⟩ : Shp)) := by simpa using h
       exact ⟨HFAR.out HNW3.out.own HTY5.out, fun g hg => ⟨HFAR.out (HNW3.out.fac g hg).own HTY6.out, (HNW3.out.fac g hg).rows⟩⟩
     ·show (NL ++ [(nm, (⟨sh.t, A2, c2, gs⟩ : Shp))]).map lcore = (s.ls.take (k + 1)).map lcore
      rw [HTKk.out, List.map_append, List.map_append, HEr.out]
      have hcc := HCR.out
      simp [lcore, flat] at hcc ⊢
      exact hcc
    case measure => have := HLT.out; simp [intOf]; omega
   ·obtain rfl : k = ln := by omega
    have hZ := HZR.out.below HSr.out HZR.out.lt
    have HZr := zh hZ; clear hZ
    have hdrop : s.ls.drop k = [] := List.drop_eq_nil_of_le (by rw [HLN.out]; omega)
    have htake : s.ls.take k = s.ls := List.take_of_length_le (by rw [HLN.out]; omega)
    have hL := HLr.out
    rw [hdrop, List.append_nil] at hL
    have hE := HEr.out
    rw [htake] at hE
    have hV := HVr.out
    rw [← HVC.out] at hV
    have HL9 := zh hL; have HE9 := zh hE; have HV9 := zh hV
    clear hL hE hV hdrop htake
    go_wp2_with (first
     | (refine wpList_loadS (by rfl) _ _ rfl g3 rfl _ _ _ HRr.out Tryz.underlying25 rfl (by kernel_rfl) ?_)
     | (refine wpList_stRow (by rfl) _ _ _ rfl (w.heap.size + 1) _ rfl rfl _ _ HZr.out (by kernel_rfl) rfl (by simp [Value.oneCell']) ?_; intro wz rz he))
    have hne : ∀ {size n : Nat} {e : TypeId} {v : Value} {cs : List Value}, wr.ownsRow w1.heap.size e size v n cs → wz.ownsRow w1.heap.size e size v n cs := fun h => own_same h fun b _ hv => he.block b (by have := (h.lt b hv).1; omega)
    have hBz : Below w.heap.size w wz := hb.trans ((HSr.out.mono (by omega)).trans (he.below (by omega)))
    have hm : ∀ {e : TypeId} {size n : Nat} {v : Value} {cs : List Value}, wr.ownsRow w1.heap.size e size v n cs → wz.ownsRow w.heap.size e size v n cs := fun h => own_mono (hne h) (by omega)
    refine bodyPost_ret (retRow rfl _ _ (w.heap.size + 1) _ _ (0, 0) _ rfl rz Tryz.underlying25 rfl (by kernel_rfl)) rfl (HQ.out _ _ ⟨⟨X1, d1, NL, X2, d2, s.vs⟩, ?_, ⟨?_, ?_, fun l hl => ⟨hm (HNr.out l hl).own, fun g hg => ⟨hm ((HNr.out l hl).fac g hg).own, ((HNr.out l hl).fac g hg).rows⟩⟩, HE9.out, rfl⟩, hBz⟩)
    ·simp only [scv]
     rw [hnl, HVN.out]
    ·show wz.ownsRow w.heap.size 51 3 (.slice X1 NL.length d1) NL.length (NL.flatMap latC)
     rw [hnl]; exact hm HL9.out
    ·show wz.ownsRow w.heap.size 55 3 (.slice X2 s.vs.length d2) s.vs.length (s.vs.flatMap varC)
     rw [HVN.out]; exact hm HV9.out
end
section
open Go.RowKit RM
theorem rw_range {l : List Nat} (h : RW l) : ∃ f : Nat → Nat, l = (List.range 64).map f := by
 refine ⟨fun i => l.getD i 0, List.ext_getElem? fun i => ?_⟩
 rw [List.getElem?_map]
 by_cases hi : i < 64
 ·rw [List.getElem?_range hi, List.getElem?_eq_getElem (by rw [h.1]; exact hi)]
  simp [List.getD_eq_getElem?_getD, List.getElem?_eq_getElem (show i < l.length by rw [h.1]; exact hi)]
 ·rw [List.getElem?_eq_none (by rw [h.1]; omega), List.getElem?_eq_none (by simp; omega)]; rfl
theorem built_range (kd n : Int) (f : Nat → Nat) (X : Option Addr) (m d : Nat) : Tryz.prog.built 100 [(0, .int .i64 kd), (1, .slice X m d), (2, .agg (rv n ((List.range 64).map f)))] = some (.mk (.int .i64 kd :: .slice X m d :: rvl n ((List.range 64).map f))) := by kernel_rfl
theorem built_fac (kd n : Int) (l : List Nat) (X : Option Addr) (d : Nat) (xs : List ByteArray) (m : Nat) (hm : xs.length = m) (hl : RW l) : Tryz.prog.built 100 [(0, .int .i64 kd), (1, .slice X m d), (2, .agg (rv n l))] = some (fv ⟨kd, X, d, xs, n, l⟩) := by
 obtain ⟨f, rfl⟩ := rw_range hl
 subst hm
 exact built_range kd n f X xs.length d
end
end Go.Proofs.YteachpfpcceamaaGreatDoor
