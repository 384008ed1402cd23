/- Texts that all the claims need. Conditions: those that each states. -/

import Derived.Test.YtebnfmfpejnkcaaGreatDoorSb17
set_option linter.unusedSimpArgs false
set_option linter.unusedVariables false
set_option maxRecDepth 100000
set_option maxHeartbeats 40000000
namespace Go.Proofs.YtebnfmfpejnkcaaGreatDoor
section
open Go.RowKit RM
theorem ScR.ok {w : World} {B : Nat} {s : Sc} {ll : List (ByteArray × Bool × List Fac)} {vv : List (ByteArray × Int × Int)} (h : ScR w B s ll vv) (h1 : s.ls.length ≤ 65536) (h2 : s.vs.length ≤ 65536) (h3 : ∀ l ∈ s.ls, l.2.fs.length ≤ 65536 ∧ ∀ f ∈ l.2.fs, f.names.length ≤ 65536) (h4 : ∀ x ∈ s.lnms, x.size ≤ maxLen) (h5 : ∀ x ∈ s.vnms, x.size ≤ maxLen) : ScOk w s :=
 ⟨Sl.of_own h.lown, fun l hl => ⟨⟨Sl.of_own (h.lats l hl).own, fun g hg => ((h.lats l hl).fac g hg).ok⟩, fun e => (own_nil (h.lats l hl).own e).2, (h3 l hl).1, (h3 l hl).2⟩, Sl.of_own h.vown, fun e => (own_nil h.lown e).2, fun e => (own_nil h.vown e).2, h1, h2, h4, h5⟩
def bk : ByteArray := ⟨#[107]⟩
def bx : ByteArray := ⟨#[120]⟩
def bab : List ByteArray := [⟨#[97]⟩, ⟨#[98]⟩]
def rest0 : List Value := [.int .i64 0, .int .i64 0, .string ⟨#[]⟩, .slice none 0 0, .slice none 0 0, .int .i64 0, .int .i64 0, .string ⟨#[]⟩, .slice none 0 0, .slice none 0 0]
def sc0 : Sc := ⟨none, 0, [], none, 0, []⟩
def cd0 (X : Option Addr) (d : Nat) : Cd := ⟨1, 0, (bk, 0), X, d, [(⟨#[97]⟩, 10), (⟨#[98]⟩, 11)], none, 0, [], 0, rest0⟩
def cd1 (X : Option Addr) (d : Nat) : Cd := ⟨6, 0, (bk, 0), X, d, [(bx, 10)], none, 0, [], 0, rest0⟩
def fac13 : Fac := ⟨1, none, 0, bab, 0, zs⟩
theorem al_0 (X : Option Addr) (d : Nat) : addL sc0 (cd0 X d) = [(bk, false, [fac13])] := by kernel_rfl
theorem av_0 (X : Option Addr) (d : Nat) : addV sc0 (cd0 X d) = [] := by kernel_rfl
theorem al_1 (X : Option Addr) (d : Nat) (LA VA : Option Addr) (lc vc : Nat) (sh : Shp) : addL ⟨LA, lc, [(bk, sh)], VA, vc, []⟩ (cd1 X d) = [lcore (bk, sh)] := by kernel_rfl
theorem av_1 (X : Option Addr) (d : Nat) (LA VA : Option Addr) (lc vc : Nat) (sh : Shp) : addV ⟨LA, lc, [(bk, sh)], VA, vc, []⟩ (cd1 X d) = [(bx, 1, 0)] := by kernel_rfl
theorem ft_1 (X : Option Addr) (d : Nat) (LA VA : Option Addr) (lc vc : Nat) (sh : Shp) : faultF ⟨LA, lc, [(bk, sh)], VA, vc, [(bx, 1, 0)]⟩ (cd1 X d) = (3, 10) := by kernel_rfl
theorem ix_1 (LA VA : Option Addr) (lc vc : Nat) (sh : Shp) : idx (Sc.lnms ⟨LA, lc, [(bk, sh)], VA, vc, [(bx, 1, 0)]⟩) bx = -1 ∧ idx (Sc.vnms ⟨LA, lc, [(bk, sh)], VA, vc, [(bx, 1, 0)]⟩) bx = 0 := ⟨by kernel_rfl, by kernel_rfl⟩
theorem rt_1 (LA VA : Option Addr) (lc vc : Nat) (sh : Shp) (h1 : sh.t = false) (h2 : sh.fs.map core = [fac13]) : rightSc ⟨LA, lc, [(bk, sh)], VA, vc, [(bx, 1, 0)]⟩ = true := by
 have hr : rightS sh.t sh.fs = true := by
  rw [← rightS_core, h1, h2]
  kernel_rfl
 have e : rightSc ⟨LA, lc, [(bk, sh)], VA, vc, [(bx, 1, 0)]⟩ = (decide (1 ≤ 16) && (decide (1 ≤ 64) && ((rightS sh.t sh.fs && true) && ([((bx, 1, 0) : ByteArray × Int × Int)].all (varB 1) && ([bk, bx].all NM.right && decide (twc [bk, bx] < 0)))))) := rfl
 have e2 : (decide (1 ≤ 16) && (decide (1 ≤ 64) && ((true && true) && ([((bx, 1, 0) : ByteArray × Int × Int)].all (varB 1) && ([bk, bx].all NM.right && decide (twc [bk, bx] < 0)))))) = true := by kernel_rfl
 rw [hr] at e
 exact e.trans e2
theorem one_lat {l : List (ByteArray × Shp)} (h : l.map lcore = [(bk, false, [fac13])]) : ∃ sh, l = [(bk, sh)] ∧ sh.t = false ∧ sh.fs.map core = [fac13] := by
 match l, h with
 | [x], h =>
   obtain ⟨n, sh⟩ := x
   simp only [List.map_cons, List.map_nil, lcore, List.cons.injEq, Prod.mk.injEq, and_true] at h
   obtain ⟨h1, h2, h3⟩ := h
   subst h1
   exact ⟨sh, rfl, h2, h3⟩
 | [], h => simp at h
 | _ :: _ :: _, h => simp at h
theorem fs_small {sh : Shp} (h : sh.fs.map core = [fac13]) : sh.fs.length ≤ 65536 ∧ ∀ f ∈ sh.fs, f.names.length ≤ 65536 := by
 have hl := congrArg List.length h
 rw [List.length_map] at hl
 refine ⟨by simp at hl; omega, fun f hf => ?_⟩
 have hc : core f ∈ [fac13] := by rw [← h]; exact List.mem_map_of_mem hf
 have hc2 : core f = fac13 := by simpa using hc
 have : f.names = bab := by
  have := congrArg Fac.names hc2
  exact this
 rw [this]
 decide
theorem cd_ok {w : World} {X : Option Addr} {d : Nat} {xs : List ByteArray} (op : Int) (hX : Sl w w.heap.size X ((wdsK xs xs.length).flatMap wdC)) (ws : List (ByteArray × Int)) (hw : wdsK xs xs.length = ws) (h1 : ws.length ≤ 65536) (h2 : ∀ t ∈ ws.map Prod.fst, t.size ≤ maxLen) : CdOk w w.heap.size ⟨op, 0, (bk, 0), X, d, ws, none, 0, [], 0, rest0⟩ :=
 ⟨by subst hw; exact hX, Sl.nil _ _ _, rfl, h1, Nat.zero_le _, (show bk.size ≤ maxLen from by decide), h2, fun p hp => by cases hp⟩
end
section
open Go.RowKit
structure ScIn (w : World) (s : Sc) : Prop where
 lats : Ls latC w s.LA s.ls
 fac : ∀ l ∈ s.ls, Facs w l.2.A l.2.fs ∧ (l.2.A = none → l.2.c = 0)
 vars : Ls varC w s.VA s.vs
 lnil : s.LA = none → s.lc = 0
 vnil : s.VA = none → s.vc = 0
 lnm : ∀ x ∈ s.lnms, x.size ≤ maxLen
 vnm : ∀ x ∈ s.vnms, x.size ≤ maxLen
 lmax : s.ls.length ≤ maxLen
 vmax : s.vs.length ≤ maxLen
theorem ScIn.below {w w' : World} {s : Sc} (h : ScIn w s) (hb : Below w.heap.size w w') : ScIn w' s :=
 ⟨h.lats.below hb, fun l hl => ⟨(h.fac l hl).1.below hb, (h.fac l hl).2⟩, h.vars.below hb, h.lnil, h.vnil, h.lnm, h.vnm, h.lmax, h.vmax⟩
def lBig (l : ByteArray × Shp) : Bool := bigShB l.2.fs || decide (40 < l.1.size)
def vBig (v : ByteArray × Int × Int) : Bool := decide (40 < v.1.size)
def bigSc (s : Sc) : Bool := decide (20 < s.ls.length) || (decide (80 < s.vs.length) || (s.ls.any lBig || s.vs.any vBig))
theorem any_yes {α : Type} {xs : List α} {p : α → Bool} {k : Nat} {d : α} (hk : k < xs.length) (h : p (xs.getD k d) = true) : xs.any p = true := by
 rw [List.any_eq_true]
 exact ⟨_, getD_mem' hk, h⟩
theorem any_no {α : Type} {xs : List α} {p : α → Bool} (d : α) (h : ∀ k, k < xs.length → p (xs.getD k d) = false) : xs.any p = false := by
 rw [List.any_eq_false]
 intro y hy
 obtain ⟨i, hi, rfl⟩ := List.mem_iff_getElem.1 hy
 have := h i hi
 rw [List.getD_eq_getElem?_getD, List.getElem?_eq_getElem hi] at this
 simpa using this
theorem ScIn.ok {w : World} {s : Sc} (h : ScIn w s) (hb : bigSc s = false) : ScOk w s := by
 unfold bigSc at hb
 simp only [Bool.or_eq_false_iff, decide_eq_false_iff_not] at hb
 obtain ⟨h1, h2, h3, _⟩ := hb
 refine ⟨h.lats, fun l hl => ?_, h.vars, h.lnil, h.vnil, by omega, by omega, h.lnm, h.vnm⟩
 have hl2 := (List.any_eq_false.1 h3) l hl
 unfold lBig at hl2
 simp only [Bool.not_eq_true, Bool.or_eq_false_iff, decide_eq_false_iff_not] at hl2
 obtain ⟨e1, e2⟩ := big_no hl2.1
 exact ⟨(h.fac l hl).1, (h.fac l hl).2, by omega, fun f hf => by have := e2 f hf; omega⟩
theorem bigSc_any (s : Sc) (w : World) (h : ScIn w s) :
 Calls Tryz.prog 11 #[.agg (scv s)] w fun e w' => e = .returned (.bool (bigSc s)) ∧ Below w.heap.size w w' := by
 have r0 := RowAt.new w 25 (scv s)
 have hb : Below w.heap.size w (w.alloc (.cells (scv s) 25)) := (zB _ _).alloc (zL _) _
 refine cHid fun Q' hQ => ?_
 have HQ := zh hQ; clear hQ
 have HD : Hid (bigSc s = (decide (20 < s.ls.length) || (decide (80 < s.vs.length) || (s.ls.any lBig || s.vs.any vBig)))) := zh rfl
 have HY1 : Hid (∀ k, k < s.ls.length → lBig (s.ls.getD k lat0) = true → bigSc s = true) := zh fun k hk h => by
  unfold bigSc; rw [any_yes hk h]; simp
 have HY2 : Hid (∀ k, k < s.vs.length → vBig (s.vs.getD k var0) = true → bigSc s = true) := zh fun k hk h => by
  unfold bigSc; rw [any_yes hk h]; simp
 have HNO : Hid (s.ls.length ≤ 20 → s.vs.length ≤ 80 → (∀ k, k < s.ls.length → lBig (s.ls.getD k lat0) = false) → (∀ k, k < s.vs.length → vBig (s.vs.getD k var0) = false) → bigSc s = false) := zh fun h1 h2 h3 h4 => by
  unfold bigSc
  rw [any_no lat0 h3, any_no var0 h4, zF (by omega), zF (by omega)]; rfl
 go_enter Tryz.func11, Tryz.ntmps11
 go_upto_region 1 with fail
 change Code.wp _ _ _ _ (w.alloc (.cells (scv s) 25))
 generalize w.alloc (.cells (scv s) 25) = w1 at *
 have HOK := zh (h.below hb)
 have HB := zh hb
 obtain ⟨c0, c1, _, _⟩ := rw2 r0
 have HR0L := zh r0.lt
 have hlm := h.lmax
 have hvm := h.vmax
 clear h hb r0
 generalize hln : s.ls.length = ln at *
 generalize hvn : s.vs.length = vn at *
 have HLN := zh hln; have HVN := zh hvn; clear hln hvn
 by_cases h20 : 20 < ln
 ·have hr : bigSc s = true := by rw [HD.out, zE h20]; simp
  rw [hr] at HQ
  clear HD hr
  go_wp2_with fail
  exact HQ.out _ _ ⟨rfl, HB.out⟩
 by_cases h80 : 80 < vn
 ·have hr : bigSc s = true := by rw [HD.out, zE h80]; simp
  rw [hr] at HQ
  clear HD hr
  go_wp2_with fail
  exact HQ.out _ _ ⟨rfl, HB.out⟩
 clear HD hlm hvm
 go_upto_region 3 with fail
 go_wp2_with fail
 go_loopw [4, 20] (fun _ kv wr => ∃ k : Nat, k ≤ ln ∧ kv = .int .i64 k ∧ Hid (Below w1.heap.size w1 wr) ∧ Hid (∀ j, j < k → lBig (s.ls.getD j lat0) = false)) (fun _ kv _ => ln - (intOf kv).toNat)
 case atStart => exact ⟨0, by omega, rfl, zh (zB _ _), zh fun j hj => by omega⟩
 case round =>
  obtain ⟨k, hk, rfl, HW, HG⟩ := hrel
  by_cases hlt : k < ln
  ·have HLT := zh hlt
   obtain ⟨b, o, hA, _, hc⟩ := (HOK.out.lats.below HW.out).at 3 (fun _ => rfl) (by omega) lat0 (i := k) (by rw [HLN.out]; exact hlt)
   have p0 := hc k (by rw [HLN.out]; exact hlt) 0 _ rfl
   have p1 := hc k (by rw [HLN.out]; exact hlt) 1 _ rfl
   have p2 := hc k (by rw [HLN.out]; exact hlt) 2 _ rfl
   rw [Nat.add_zero] at p0
   have HFC := zh ((HOK.out.fac _ (getD_mem' (d := lat0) (i := k) (by rw [HLN.out]; exact hlt))).1.below HW.out)
   have HYk := zh (HY1.out k hlt)
   have hbx : Below wr.heap.size wr (wr.alloc (.cells #[.string (s.ls.getD k lat0).1, .bool (s.ls.getD k lat0).2.t, .slice (s.ls.getD k lat0).2.A (s.ls.getD k lat0).2.fs.length (s.ls.getD k lat0).2.c] 53)) := (zB _ _).alloc (zL _) _
   have HWx : Hid (Below w1.heap.size w1 (wr.alloc (.cells #[.string (s.ls.getD k lat0).1, .bool (s.ls.getD k lat0).2.t, .slice (s.ls.getD k lat0).2.A (s.ls.getD k lat0).2.fs.length (s.ls.getD k lat0).2.c] 53))) := zh (HW.out.trans (hbx.mono HW.out.size))
   have HRX := zh (RowAt.new wr 53 #[.string (s.ls.getD k lat0).1, .bool (s.ls.getD k lat0).2.t, .slice (s.ls.getD k lat0).2.A (s.ls.getD k lat0).2.fs.length (s.ls.getD k lat0).2.c])
   have HBG := zh (bigS_any (s.ls.getD k lat0).2.t (s.ls.getD k lat0).2.A (s.ls.getD k lat0).2.c (s.ls.getD k lat0).2.fs _ (HFC.out.below hbx))
   have HGk : Hid (lBig (s.ls.getD k lat0) = false → ∀ j, j < k + 1 → lBig (s.ls.getD j lat0) = false) := zh fun h j hj => by
        by_cases e : j = k
        ·rw [e]; exact h
        ·exact HG.out j (by omega)
   have HLD : Hid (lBig (s.ls.getD k lat0) = (bigShB (s.ls.getD k lat0).2.fs || decide (40 < (s.ls.getD k lat0).1.size))) := zh rfl
   clear hc hbx
   generalize s.LA = LA at *
   subst hA
   generalize lBig (s.ls.getD k lat0) = lb at *
   generalize (s.ls.getD k lat0).1 = nm at *
   generalize (s.ls.getD k lat0).2 = sh at *
   generalize bigShB sh.fs = bb at *
   generalize sh.fs.length = fl at *
   go_upto_region 6 with fail
   change Code.wp _ _ _ _ (wr.alloc (.cells #[.string nm, .bool sh.t, .slice sh.A fl sh.c] 53))
   generalize wr.alloc (.cells #[.string nm, .bool sh.t, .slice sh.A fl sh.c] 53) = wc at *
   generalize wr.heap.size = gx at *
   obtain ⟨a0, a1, a2, _, _, _⟩ := rw3 HRX.out
   have HA0 : Hid (∀ W, Below wc.heap.size wc W → W.cell? ⟨gx, 0, none⟩ = some (.string nm)) := zh fun W hW => (hW.cell (p := ⟨gx, 0, none⟩) HRX.out.lt).trans a0
   clear p0 p1 p2
   cases bb with
   | true =>
     have hr : bigSc s = true := HYk.out (by rw [HLD.out]; simp)
     rw [hr] at HQ
     clear hr
     go_wp2_with (go_at_call 33; refine HBG.out.mono ?_; rintro e wd ⟨rfl, hbd⟩; have HBW := zh (HWx.out.trans (hbd.mono HWx.out.size)); clear hbd a0 a1 a2)
     exact HQ.out _ _ ⟨rfl, HB.out.trans (HBW.out.mono (by have := HR0L.out; omega))⟩
   | false =>
     by_cases h40 : 40 < nm.size
     ·have hr : bigSc s = true := HYk.out (by rw [HLD.out, zE h40]; simp)
      rw [hr] at HQ
      clear hr
      go_wp2_with (go_at_call 33; refine HBG.out.mono ?_; rintro e wd ⟨rfl, hbd⟩; have HBW := zh (HWx.out.trans (hbd.mono HWx.out.size)); have b0 := HA0.out _ hbd; clear hbd a0 a1 a2)
      exact HQ.out _ _ ⟨rfl, HB.out.trans (HBW.out.mono (by have := HR0L.out; omega))⟩
     ·have HGk1 := zh (HGk.out (by rw [HLD.out, zF h40]; rfl))
      go_wp2_with (go_at_call 33; refine HBG.out.mono ?_; rintro e wd ⟨rfl, hbd⟩; have HBW := zh (HWx.out.trans (hbd.mono HWx.out.size)); have b0 := HA0.out _ hbd; clear hbd a0 a1 a2)
      go_roundw
      case rel => exact ⟨k + 1, by have := HLT.out; omega, by go_num, HBW, HGk1⟩
      case measure => have := HLT.out; simp [intOf]; omega
  ·obtain rfl : k = ln := by omega
   have d1 : wr.cell? ⟨w.heap.size, 1, none⟩ = some (.slice s.VA vn s.vc) := (HW.out.cell (p := ⟨w.heap.size, 1, none⟩) HR0L.out).trans c1
   clear c0 c1
   go_wp2_with fail
   clear d1
   go_loopw [6, 37] (fun _ kv wq => ∃ m : Nat, m ≤ vn ∧ kv = .int .i64 m ∧ Hid (Below w1.heap.size w1 wq) ∧ Hid (∀ j, j < m → vBig (s.vs.getD j var0) = false)) (fun _ kv _ => vn - (intOf kv).toNat)
   case atStart => exact ⟨0, by omega, rfl, HW, zh fun j hj => by omega⟩
   case round =>
        clear HW
        obtain ⟨m, hm, rfl, HW, HG2⟩ := hrel
        by_cases hlt : m < vn
        ·have HLT := zh hlt
         obtain ⟨b, o, hA, _, hc⟩ := (HOK.out.vars.below HW.out).at 3 (fun _ => rfl) (by omega) var0 (i := m) (by rw [HVN.out]; exact hlt)
         have p0 := hc m (by rw [HVN.out]; exact hlt) 0 _ rfl
         have p1 := hc m (by rw [HVN.out]; exact hlt) 1 _ rfl
         have p2 := hc m (by rw [HVN.out]; exact hlt) 2 _ rfl
         rw [Nat.add_zero] at p0
         have HYm := zh (HY2.out m hlt)
         have HWx : Hid (Below w1.heap.size w1 (wr.alloc (.cells #[.string (s.vs.getD m var0).1, .int .i64 (s.vs.getD m var0).2.1, .int .i64 (s.vs.getD m var0).2.2] 55))) := zh (HW.out.alloc HW.out.size _)
         have HRX := zh (RowAt.new wr 55 #[.string (s.vs.getD m var0).1, .int .i64 (s.vs.getD m var0).2.1, .int .i64 (s.vs.getD m var0).2.2])
         have HGk : Hid (vBig (s.vs.getD m var0) = false → ∀ j, j < m + 1 → vBig (s.vs.getD j var0) = false) := zh fun h j hj => by
          by_cases e : j = m
          ·rw [e]; exact h
          ·exact HG2.out j (by omega)
         have HVD : Hid (vBig (s.vs.getD m var0) = decide (40 < (s.vs.getD m var0).1.size)) := zh rfl
         clear hc
         generalize s.VA = VA at *
         subst hA
         generalize vBig (s.vs.getD m var0) = vb at *
         generalize s.vs.getD m var0 = el at *
         obtain ⟨nm, kd, lt⟩ := el
         simp only at p0 p1 p2 HWx HRX HVD
         go_upto_region 12 with fail
         change Code.wp _ _ _ _ (wr.alloc (.cells #[.string nm, .int .i64 kd, .int .i64 lt] 55))
         generalize wr.alloc (.cells #[.string nm, .int .i64 kd, .int .i64 lt] 55) = wc at *
         generalize wr.heap.size = gx at *
         obtain ⟨a0, _, _, _, _, _⟩ := rw3 HRX.out
         clear p0 p1 p2
         by_cases h40 : 40 < nm.size
         ·have hr : bigSc s = true := HYm.out (by rw [HVD.out, zE h40])
          rw [hr] at HQ
          clear hr
          go_wp2_with fail
          exact HQ.out _ _ ⟨rfl, HB.out.trans (HWx.out.mono (by have := HR0L.out; omega))⟩
         ·have HGk1 := zh (HGk.out (by rw [HVD.out, zF h40]))
          go_wp2_with fail
          go_roundw
          case rel => exact ⟨m + 1, by have := HLT.out; omega, by go_num, HWx, HGk1⟩
          case measure => have := HLT.out; simp [intOf]; omega
        ·obtain rfl : m = vn := by omega
         have hr : bigSc s = false := HNO.out (by omega) (by omega) HG.out HG2.out
         rw [hr] at HQ
         clear hr
         go_wp2_with fail
         exact HQ.out _ _ ⟨rfl, HB.out.trans (HW.out.mono (by have := HR0L.out; omega))⟩
end
section
open Go.RowKit RM
theorem run_eql_ft (f : Int × Int) (w : World) : (binOp .eql 39 (.agg (ftv f)) (.agg (ftv f))).run Tryz.prog w = .ok (.bool true) w := by
 obtain ⟨a, b⟩ := f
 simp only [ftv]
 go_simp
theorem big_few {s : Sc} (h : bigSc s = false) : ∀ l ∈ s.ls, l.2.fs.length ≤ 12 := fun l hl => by
 unfold bigSc at h
 simp only [Bool.or_eq_false_iff] at h
 have h2 := h.2.2.1
 rw [List.any_eq_false] at h2
 have h3 := h2 l hl
 unfold lBig bigShB at h3
 simp at h3
 omega
theorem big_sum {s : Sc} (h : bigSc s = false) (ws : List (ByteArray × Int)) (hw : ws.length ≤ 100) : (flat (dshF s ws)).length ≤ 65536 := by
 have h1 : ∀ y ∈ dshF s ws, y.fs.length ≤ 12 := fun y hy => by
  obtain ⟨l, hl, rfl⟩ := dsh_mem hy
  exact big_few h l hl
 have h2 := flat_bd (dshF s ws) 12 (dshF s ws).length h1
 rw [List.take_length] at h2
 have h3 : (dshF s ws).length ≤ ws.length := dshK_len s ws ws.length
 omega
end
end Go.Proofs.YtebnfmfpejnkcaaGreatDoor
