/- Texts that all the claims need. Conditions: those that each states. -/

import Derived.Test.YtppcjocmjpbmmaaGreatDoorCk7
import Derived.Test.YtppcjocmjpbmmaaGreatDoorCk16
set_option linter.unusedSimpArgs false
set_option linter.unusedVariables false
set_option maxRecDepth 100000
set_option maxHeartbeats 40000000
namespace Go.Proofs.YtppcjocmjpbmmaaGreatDoor
section
open Go.RowKit
structure Sc where
 LA : Option Addr
 lc : Nat
 ls : List (ByteArray × Shp)
 VA : Option Addr
 vc : Nat
 vs : List (ByteArray × Int × Int)
def latC (x : ByteArray × Shp) : List Value := [.string x.1, .bool x.2.t, .slice x.2.A x.2.fs.length x.2.c]
def lat0 : ByteArray × Shp := (⟨#[]⟩, s0)
def var0 : ByteArray × Int × Int := (⟨#[]⟩, 0, 0)
def scv (s : Sc) : Array Value := #[.slice s.LA s.ls.length s.lc, .slice s.VA s.vs.length s.vc]
def Sc.lnms (s : Sc) : List ByteArray := s.ls.map (·.1)
def Sc.vnms (s : Sc) : List ByteArray := s.vs.map (·.1)
theorem Sc.lget (s : Sc) {j : Nat} (hj : j < s.ls.length) : s.lnms.getD j ⟨#[]⟩ = (s.ls.getD j lat0).1 := getD_map' (d := lat0) Prod.fst hj
theorem Sc.vget (s : Sc) {j : Nat} (hj : j < s.vs.length) : s.vnms.getD j ⟨#[]⟩ = (s.vs.getD j var0).1 := getD_map' (d := var0) Prod.fst hj
structure ScOk (w : World) (s : Sc) : Prop where
 lats : Ls latC w s.LA s.ls
 sh : ∀ l ∈ s.ls, ShOk w l.2
 vars : Ls varC w s.VA s.vs
 lnil : s.LA = none → s.lc = 0
 vnil : s.VA = none → s.vc = 0
 lfew : s.ls.length ≤ 65536
 vfew : s.vs.length ≤ 65536
 lnm : ∀ x ∈ s.lnms, x.size ≤ maxLen
 vnm : ∀ x ∈ s.vnms, x.size ≤ maxLen
theorem ScOk.below {w w' : World} {s : Sc} (h : ScOk w s) (hb : Below w.heap.size w w') : ScOk w' s :=
 ⟨h.lats.below hb, fun l hl => (h.sh l hl).below hb, h.vars.below hb, h.lnil, h.vnil, h.lfew, h.vfew, h.lnm, h.vnm⟩
theorem indexLat_any (A : Option Addr) (c : Nat) (xs : List (ByteArray × Shp)) (d : ByteArray × Shp) (F : FuncId) (cap : Array Value) (p : Nat → Bool) (w : World) (hl : xs.length ≤ 4294967296) (hA : Ls latC w A xs)
 (hf : ∀ args w, (callFunc F args).run Tryz.prog w = .ok (.enter F args) w)
 (H : ∀ j W, j < xs.length → Below w.heap.size w W → Calls Tryz.prog F (#[.agg (latC (xs.getD j d)).toArray] ++ cap) W fun e W' => e = .returned (.bool (p j)) ∧ Below W.heap.size W W') :
 Calls Tryz.prog 89 #[.slice A xs.length c, .func (.func F) #[] cap] w fun e w' => e = .returned (.int .i64 (NM.fst p xs.length)) ∧ Below w.heap.size w w' := by
 have HH := zh H; clear H
 have HA := zh hA; clear hA
 generalize hn : xs.length = n at *
 have HN := zh hn; clear hn
 have HB0 : Hid (Below w.heap.size w w) := zB _ _
 go_enter Tryz.func89, Tryz.ntmps89
 go_wp2
 go_loopw [8] (fun iv wr => ∃ i : Nat, i ≤ n ∧ iv = .int .i64 i ∧ Hid (∀ j, j < i → p j = false) ∧ Hid (Below w.heap.size w wr)) (fun iv _ => n - (intOf iv).toNat)
 case atStart => exact ⟨0, by omega, rfl, fun j hj => by omega, HB0⟩
 case round =>
  clear HB0
  obtain ⟨i, hi, rfl, HF, HB⟩ := hrel
  by_cases hlt : i < n
  ·obtain ⟨b, o, rfl, _, hc⟩ := (HA.out.below HB.out).at 3 (fun _ => rfl) (by omega) d (i := i) (by rw [HN.out]; exact hlt)
   have HR := zh (hc i (by rw [HN.out]; exact hlt))
   clear hc
   have HC := zh (HH.out i wr hlt HB.out)
   generalize xs.getD i d = x at *
   cases hp : p i
   all_goals
        rw [hp] at HC
        have HP := zh hp; clear hp
        go_wp2_with (refine wpList_ldIn (by rfl) _ _ rfl b (o + i * 3) rfl _ _ HR.out Tryz.underlying46 rfl (by kernel_rfl) ?_)
        refine HC.out.mono ?_
        rintro e W ⟨rfl, hb⟩
        have HBW : Hid (Below w.heap.size w W) := zh (HB.out.trans (hb.mono HB.out.size))
        clear hb
        go_wp2
   ·go_roundw
    case rel =>
     refine ⟨i + 1, by omega, by go_num, ?_, HBW⟩
     show ∀ j, j < i + 1 → p j = false
     intro j hj
     by_cases hjk : j = i
     ·rw [hjk]; exact HP.out
     ·exact HF.out j (by omega)
    case measure => simp [intOf]; omega
   ·go_ret
    exact ⟨ret_eq (int_eq (NM.fst_hit hlt HP.out HF.out).symm), HBW.out⟩
  ·obtain rfl : i = n := by omega
   go_wp2
   go_ret
   exact ⟨ret_eq (int_eq (NM.fst_miss HF.out).symm), HB.out⟩
theorem indexVar_any (A : Option Addr) (c : Nat) (xs : List (ByteArray × Int × Int)) (d : ByteArray × Int × Int) (F : FuncId) (cap : Array Value) (p : Nat → Bool) (w : World) (hl : xs.length ≤ 4294967296) (hA : Ls varC w A xs)
 (hf : ∀ args w, (callFunc F args).run Tryz.prog w = .ok (.enter F args) w)
 (H : ∀ j W, j < xs.length → Below w.heap.size w W → Calls Tryz.prog F (#[.agg (varC (xs.getD j d)).toArray] ++ cap) W fun e W' => e = .returned (.bool (p j)) ∧ Below W.heap.size W W') :
 Calls Tryz.prog 91 #[.slice A xs.length c, .func (.func F) #[] cap] w fun e w' => e = .returned (.int .i64 (NM.fst p xs.length)) ∧ Below w.heap.size w w' := by
 have HH := zh H; clear H
 have HA := zh hA; clear hA
 generalize hn : xs.length = n at *
 have HN := zh hn; clear hn
 have HB0 : Hid (Below w.heap.size w w) := zB _ _
 go_enter Tryz.func91, Tryz.ntmps91
 go_wp2
 go_loopw [8] (fun iv wr => ∃ i : Nat, i ≤ n ∧ iv = .int .i64 i ∧ Hid (∀ j, j < i → p j = false) ∧ Hid (Below w.heap.size w wr)) (fun iv _ => n - (intOf iv).toNat)
 case atStart => exact ⟨0, by omega, rfl, fun j hj => by omega, HB0⟩
 case round =>
  clear HB0
  obtain ⟨i, hi, rfl, HF, HB⟩ := hrel
  by_cases hlt : i < n
  ·obtain ⟨b, o, rfl, _, hc⟩ := (HA.out.below HB.out).at 3 (fun _ => rfl) (by omega) d (i := i) (by rw [HN.out]; exact hlt)
   have HR := zh (hc i (by rw [HN.out]; exact hlt))
   clear hc
   have HC := zh (HH.out i wr hlt HB.out)
   generalize xs.getD i d = x at *
   cases hp : p i
   all_goals
        rw [hp] at HC
        have HP := zh hp; clear hp
        go_wp2_with (refine wpList_ldIn (by rfl) _ _ rfl b (o + i * 3) rfl _ _ HR.out Tryz.underlying49 rfl (by kernel_rfl) ?_)
        refine HC.out.mono ?_
        rintro e W ⟨rfl, hb⟩
        have HBW : Hid (Below w.heap.size w W) := zh (HB.out.trans (hb.mono HB.out.size))
        clear hb
        go_wp2
   ·go_roundw
    case rel =>
     refine ⟨i + 1, by omega, by go_num, ?_, HBW⟩
     show ∀ j, j < i + 1 → p j = false
     intro j hj
     by_cases hjk : j = i
     ·rw [hjk]; exact HP.out
     ·exact HF.out j (by omega)
    case measure => simp [intOf]; omega
   ·go_ret
    exact ⟨ret_eq (int_eq (NM.fst_hit hlt HP.out HF.out).symm), HBW.out⟩
  ·obtain rfl : i = n := by omega
   go_wp2
   go_ret
   exact ⟨ret_eq (int_eq (NM.fst_miss HF.out).symm), HB.out⟩
theorem scFind1_any (x : ByteArray × Shp) (t : ByteArray) (g : Nat) (w : World) (hg : w.cell? ⟨g, 0, none⟩ = some (.string t)) (hlt : g < w.heap.size) :
 Calls Tryz.prog 90 #[.agg (latC x).toArray, .pointer (some ⟨g, 0, none⟩)] w fun e w' => e = .returned (.bool (decide (x.1 = t))) ∧ Below w.heap.size w w' := by
 have heq := NM.str_eq x.1 t
 have r0 := RowAt.new w 46 (latC x).toArray
 have hb : Below w.heap.size w (w.alloc (.cells (latC x).toArray 46)) := (zB _ _).alloc (zL _) _
 have c0 := (r0.cell 0).trans (show (latC x).toArray[0]? = some (.string x.1) from rfl)
 have c1 := (hb.cell (p := ⟨g, 0, none⟩) hlt).trans hg
 have HB := zh hb
 clear hb hg r0
 go_enter Tryz.func90, Tryz.ntmps90
 go_upto_region 1 with fail
 change Code.wp _ _ _ _ (w.alloc (.cells (latC x).toArray 46))
 generalize w.alloc (.cells (latC x).toArray 46) = w1 at *
 cases hd : decide (x.1 = t)
 all_goals
  rw [hd] at heq
  go_wp2
  go_ret
  exact ⟨ret_eq (bool_eq hd.symm), HB.out⟩
theorem scFind2_any (x : ByteArray × Int × Int) (t : ByteArray) (g : Nat) (w : World) (hg : w.cell? ⟨g, 0, none⟩ = some (.string t)) (hlt : g < w.heap.size) :
 Calls Tryz.prog 92 #[.agg (varC x).toArray, .pointer (some ⟨g, 0, none⟩)] w fun e w' => e = .returned (.bool (decide (x.1 = t))) ∧ Below w.heap.size w w' := by
 have heq := NM.str_eq x.1 t
 have r0 := RowAt.new w 49 (varC x).toArray
 have hb : Below w.heap.size w (w.alloc (.cells (varC x).toArray 49)) := (zB _ _).alloc (zL _) _
 have c0 := (r0.cell 0).trans (show (varC x).toArray[0]? = some (.string x.1) from rfl)
 have c1 := (hb.cell (p := ⟨g, 0, none⟩) hlt).trans hg
 have HB := zh hb
 clear hb hg r0
 go_enter Tryz.func92, Tryz.ntmps92
 go_upto_region 1 with fail
 change Code.wp _ _ _ _ (w.alloc (.cells (varC x).toArray 49))
 generalize w.alloc (.cells (varC x).toArray 49) = w1 at *
 cases hd : decide (x.1 = t)
 all_goals
  rw [hd] at heq
  go_wp2
  go_ret
  exact ⟨ret_eq (bool_eq hd.symm), HB.out⟩
theorem scFind_any (s : Sc) (t : ByteArray) (w : World) (h : ScOk w s) :
 Calls Tryz.prog 62 #[.agg (scv s), .string t] w fun e w' => e = .returned (.tuple #[.int .i64 (idx s.lnms t), .int .i64 (idx s.vnms t)]) ∧ Below w.heap.size w w' := by
 have r0 : RowAt ((w.alloc (.cells (scv s) 52)).alloc (.cells #[.string t] 9)) w.heap.size 52 (scv s) := (RowAt.new w _ _).alloc _
 have q0 : RowAt ((w.alloc (.cells (scv s) 52)).alloc (.cells #[.string t] 9)) (w.heap.size + 1) 9 #[.string t] := by
  have h := RowAt.new (w.alloc (.cells (scv s) 52)) 9 #[.string t]
  rw [show (w.alloc (.cells (scv s) 52)).heap.size = w.heap.size + 1 by simp] at h
  exact h
 have HB : Hid (Below w.heap.size w ((w.alloc (.cells (scv s) 52)).alloc (.cells #[.string t] 9))) := ((zB _ _).alloc (zL _) _).alloc (by simp) _
 go_enter Tryz.func62, Tryz.ntmps62
 go_upto_region 1 with fail
 change Code.wp _ _ _ _ ((w.alloc (.cells (scv s) 52)).alloc (.cells #[.string t] 9))
 generalize (w.alloc (.cells (scv s) 52)).alloc (.cells #[.string t] 9) = w1 at *
 obtain ⟨c0, c1, _, _⟩ := rw2 r0
 have h1 := h.below HB.out
 have HH := zh h1
 have HL : Hid (Calls Tryz.prog 89 #[.slice s.LA s.ls.length s.lc, .func (.func 90) #[] #[.pointer (some ⟨w.heap.size + 1, 0, none⟩)]] w1 fun e w' => e = .returned (.int .i64 (idx s.lnms t)) ∧ Below w1.heap.size w1 w') := by
  have hE : idx s.lnms t = NM.fst (fun j => decide ((s.ls.getD j lat0).1 = t)) s.ls.length := by
   have h3 : s.lnms.length = s.ls.length := by simp [Sc.lnms]
   unfold idx
   rw [h3]
   exact NM.fst_congr fun j hj => by rw [s.lget hj]
  rw [hE]
  exact indexLat_any _ _ _ lat0 _ _ _ w1 (by have := h.lfew; omega) h1.lats (fun _ _ => by kernel_rfl) fun j W hj hW => scFind1_any _ t (w.heap.size + 1) W ((hW.cell (p := ⟨w.heap.size + 1, 0, none⟩) q0.lt).trans (q0.cell 0)) (by have := q0.lt; have := hW.size; omega)
 have HV : Hid (∀ W, Below w1.heap.size w1 W → Calls Tryz.prog 91 #[.slice s.VA s.vs.length s.vc, .func (.func 92) #[] #[.pointer (some ⟨w.heap.size + 1, 0, none⟩)]] W fun e w' => e = .returned (.int .i64 (idx s.vnms t)) ∧ Below W.heap.size W w') := fun W0 h0 => by
  have hE : idx s.vnms t = NM.fst (fun j => decide ((s.vs.getD j var0).1 = t)) s.vs.length := by
   have h3 : s.vnms.length = s.vs.length := by simp [Sc.vnms]
   unfold idx
   rw [h3]
   exact NM.fst_congr fun j hj => by rw [s.vget hj]
  rw [hE]
  exact indexVar_any _ _ _ var0 _ _ _ W0 (by have := h.vfew; omega) (h1.vars.below h0) (fun _ _ => by kernel_rfl) fun j W hj hW => scFind2_any _ t (w.heap.size + 1) W ((hW.cell (p := ⟨w.heap.size + 1, 0, none⟩) (by have := h0.size; have := q0.lt; show w.heap.size + 1 < _; omega)).trans ((h0.cell (p := ⟨w.heap.size + 1, 0, none⟩) q0.lt).trans (q0.cell 0))) (by have := q0.lt; have := h0.size; have := hW.size; omega)
 have HC1 : Hid (∀ W, Below w1.heap.size w1 W → W.cell? ⟨w.heap.size, 1, none⟩ = some (.slice s.VA s.vs.length s.vc)) := zh fun W hW => (hW.cell (p := ⟨w.heap.size, 1, none⟩) r0.lt).trans c1
 clear r0 q0 h1 c1 h
 go_wp2_with (go_at_call 89; refine HL.out.mono ?_; rintro e w2 ⟨rfl, hb⟩; have HB2 := zh hb; have hc1 := HC1.out _ hb; have HV2 := zh (HV.out _ hb); clear hb)
 refine HV2.out.mono ?_
 rintro e w3 ⟨rfl, hb⟩
 go_wp2
 go_ret2
 exact ⟨rfl, HB.out.trans ((HB2.out.mono HB.out.size).trans (hb.mono (by have := HB.out.size; have := HB2.out.size; omega)))⟩
end
section
open Go.RowKit RM
theorem three_rows (w : World) (cs ds es : Array Value) (t u v : TypeId) : RowAt (((w.alloc (.cells cs t)).alloc (.cells ds u)).alloc (.cells es v)) w.heap.size t cs ∧ RowAt (((w.alloc (.cells cs t)).alloc (.cells ds u)).alloc (.cells es v)) (w.heap.size + 1) u ds ∧ RowAt (((w.alloc (.cells cs t)).alloc (.cells ds u)).alloc (.cells es v)) (w.heap.size + 2) v es ∧ Below w.heap.size w (((w.alloc (.cells cs t)).alloc (.cells ds u)).alloc (.cells es v)) := by
 obtain ⟨h1, h2, h3⟩ := two_rows w cs ds t u
 refine ⟨h1.alloc _, h2.alloc _, ?_, h3.alloc h3.size _⟩
 have h := RowAt.new ((w.alloc (.cells cs t)).alloc (.cells ds u)) v es
 rw [show ((w.alloc (.cells cs t)).alloc (.cells ds u)).heap.size = w.heap.size + 2 by simp] at h
 exact h
end
end Go.Proofs.YtppcjocmjpbmmaaGreatDoor
