/- Texts that all the claims need. Conditions: those that each states. -/

import Derived.Test.YtebnfmfpejnkcaaGreatDoorSk17
set_option linter.unusedSimpArgs false
set_option linter.unusedVariables false
set_option maxRecDepth 100000
set_option maxHeartbeats 40000000
namespace Go.Proofs.YtebnfmfpejnkcaaGreatDoor
section
open Go.RowKit RM
theorem ScR.ok {w : World} {B : Nat} {s : Sc} {ll : List (ByteArray × Bool × List Fac)} {vv : List (ByteArray × Int × Int)} (h : ScR w B s ll vv) (h1 : s.ls.length ≤ 65536) (h2 : s.vs.length ≤ 65536) (h3 : ∀ l ∈ s.ls, l.2.fs.length ≤ 65536 ∧ ∀ f ∈ l.2.fs, f.names.length ≤ 65536) (h4 : ∀ x ∈ s.lnms, x.size ≤ maxLen) (h5 : ∀ x ∈ s.vnms, x.size ≤ maxLen) : ScOk w s :=
 ⟨Sl.of_own h.lown, fun l hl => ⟨⟨Sl.of_own (h.lats l hl).own, fun g hg => ((h.lats l hl).fac g hg).ok⟩, fun e => (own_nil (h.lats l hl).own e).2, (h3 l hl).1, (h3 l hl).2⟩, Sl.of_own h.vown, fun e => (own_nil h.lown e).2, fun e => (own_nil h.vown e).2, h1, h2, h4, h5⟩
def bk : ByteArray := ⟨#[107]⟩
def bx : ByteArray := ⟨#[120]⟩
def bab : List ByteArray := [⟨#[97]⟩, ⟨#[98]⟩]
def rest0 : List Value := [.int .i64 0, .int .i64 0, .string ⟨#[]⟩, .slice none 0 0, .slice none 0 0, .int .i64 0, .int .i64 0, .string ⟨#[]⟩, .slice none 0 0, .slice none 0 0]
def sc0 : Sc := ⟨none, 0, [], none, 0, []⟩
def cd0 (X : Option Addr) (d : Nat) : Cd := ⟨1, 0, (bk, 0), X, d, [(⟨#[97]⟩, 10), (⟨#[98]⟩, 11)], none, 0, [], 0, rest0⟩
def cd1 (X : Option Addr) (d : Nat) : Cd := ⟨6, 0, (bk, 0), X, d, [(bx, 10)], none, 0, [], 0, rest0⟩
def fac13 : Fac := ⟨1, none, 0, bab, 0, zs⟩
theorem al_0 (X : Option Addr) (d : Nat) : addL sc0 (cd0 X d) = [(bk, false, [fac13])] := by kernel_rfl
theorem av_0 (X : Option Addr) (d : Nat) : addV sc0 (cd0 X d) = [] := by kernel_rfl
theorem al_1 (X : Option Addr) (d : Nat) (LA VA : Option Addr) (lc vc : Nat) (sh : Shp) : addL ⟨LA, lc, [(bk, sh)], VA, vc, []⟩ (cd1 X d) = [lcore (bk, sh)] := by kernel_rfl
theorem av_1 (X : Option Addr) (d : Nat) (LA VA : Option Addr) (lc vc : Nat) (sh : Shp) : addV ⟨LA, lc, [(bk, sh)], VA, vc, []⟩ (cd1 X d) = [(bx, 1, 0)] := by kernel_rfl
theorem ft_1 (X : Option Addr) (d : Nat) (LA VA : Option Addr) (lc vc : Nat) (sh : Shp) : faultF ⟨LA, lc, [(bk, sh)], VA, vc, [(bx, 1, 0)]⟩ (cd1 X d) = (3, 10) := by kernel_rfl
theorem ix_1 (LA VA : Option Addr) (lc vc : Nat) (sh : Shp) : idx (Sc.lnms ⟨LA, lc, [(bk, sh)], VA, vc, [(bx, 1, 0)]⟩) bx = -1 ∧ idx (Sc.vnms ⟨LA, lc, [(bk, sh)], VA, vc, [(bx, 1, 0)]⟩) bx = 0 := ⟨by kernel_rfl, by kernel_rfl⟩
theorem rt_1 (LA VA : Option Addr) (lc vc : Nat) (sh : Shp) (h1 : sh.t = false) (h2 : sh.fs.map core = [fac13]) : rightSc ⟨LA, lc, [(bk, sh)], VA, vc, [(bx, 1, 0)]⟩ = true := by
 have hr : rightS sh.t sh.fs = true := by
  rw [← rightS_core, h1, h2]
  kernel_rfl
 have e : rightSc ⟨LA, lc, [(bk, sh)], VA, vc, [(bx, 1, 0)]⟩ = (decide (1 ≤ 16) && (decide (1 ≤ 64) && ((rightS sh.t sh.fs && true) && ([((bx, 1, 0) : ByteArray × Int × Int)].all (varB 1) && ([bk, bx].all NM.right && decide (twc [bk, bx] < 0)))))) := rfl
 have e2 : (decide (1 ≤ 16) && (decide (1 ≤ 64) && ((true && true) && ([((bx, 1, 0) : ByteArray × Int × Int)].all (varB 1) && ([bk, bx].all NM.right && decide (twc [bk, bx] < 0)))))) = true := by kernel_rfl
 rw [hr] at e
 exact e.trans e2
theorem one_lat {l : List (ByteArray × Shp)} (h : l.map lcore = [(bk, false, [fac13])]) : ∃ sh, l = [(bk, sh)] ∧ sh.t = false ∧ sh.fs.map core = [fac13] := by
 match l, h with
 | [x], h =>
   obtain ⟨n, sh⟩ := x
   simp only [List.map_cons, List.map_nil, lcore, List.cons.injEq, Prod.mk.injEq, and_true] at h
   obtain ⟨h1, h2, h3⟩ := h
   subst h1
   exact ⟨sh, rfl, h2, h3⟩
 | [], h => simp at h
 | _ :: _ :: _, h => simp at h
theorem fs_small {sh : Shp} (h : sh.fs.map core = [fac13]) : sh.fs.length ≤ 65536 ∧ ∀ f ∈ sh.fs, f.names.length ≤ 65536 := by
 have hl := congrArg List.length h
 rw [List.length_map] at hl
 refine ⟨by simp at hl; omega, fun f hf => ?_⟩
 have hc : core f ∈ [fac13] := by rw [← h]; exact List.mem_map_of_mem hf
 have hc2 : core f = fac13 := by simpa using hc
 have : f.names = bab := by
  have := congrArg Fac.names hc2
  exact this
 rw [this]
 decide
theorem cd_ok {w : World} {X : Option Addr} {d : Nat} {xs : List ByteArray} (op : Int) (hX : Sl w w.heap.size X ((wdsK xs xs.length).flatMap wdC)) (ws : List (ByteArray × Int)) (hw : wdsK xs xs.length = ws) (h1 : ws.length ≤ 65536) (h2 : ∀ t ∈ ws.map Prod.fst, t.size ≤ maxLen) : CdOk w w.heap.size ⟨op, 0, (bk, 0), X, d, ws, none, 0, [], 0, rest0⟩ :=
 ⟨by subst hw; exact hX, Sl.nil _ _ _, rfl, h1, Nat.zero_le _, (show bk.size ≤ maxLen from by decide), h2, fun p hp => by cases hp⟩
end
section
open Go.RowKit
structure ScIn (w : World) (s : Sc) : Prop where
 lats : Ls latC w s.LA s.ls
 fac : ∀ l ∈ s.ls, Facs w l.2.A l.2.fs ∧ (l.2.A = none → l.2.c = 0)
 vars : Ls varC w s.VA s.vs
 lnil : s.LA = none → s.lc = 0
 vnil : s.VA = none → s.vc = 0
 lnm : ∀ x ∈ s.lnms, x.size ≤ maxLen
 vnm : ∀ x ∈ s.vnms, x.size ≤ maxLen
 lmax : s.ls.length ≤ maxLen
 vmax : s.vs.length ≤ maxLen
theorem ScIn.below {w w' : World} {s : Sc} (h : ScIn w s) (hb : Below w.heap.size w w') : ScIn w' s :=
 ⟨h.lats.below hb, fun l hl => ⟨(h.fac l hl).1.below hb, (h.fac l hl).2⟩, h.vars.below hb, h.lnil, h.vnil, h.lnm, h.vnm, h.lmax, h.vmax⟩
def lBig (l : ByteArray × Shp) : Bool := bigShB l.2.fs || decide (40 < l.1.size)
def vBig (v : ByteArray × Int × Int) : Bool := decide (40 < v.1.size)
def bigSc (s : Sc) : Bool := decide (20 < s.ls.length) || (decide (80 < s.vs.length) || (s.ls.any lBig || s.vs.any vBig))
theorem any_yes {α : Type} {xs : List α} {p : α → Bool} {k : Nat} {d : α} (hk : k < xs.length) (h : p (xs.getD k d) = true) : xs.any p = true := by
 rw [List.any_eq_true]
 exact ⟨_, getD_mem' hk, h⟩
theorem any_no {α : Type} {xs : List α} {p : α → Bool} (d : α) (h : ∀ k, k < xs.length → p (xs.getD k d) = false) : xs.any p = false := by
 rw [List.any_eq_false]
 intro y hy
 obtain ⟨i, hi, rfl⟩ := List.mem_iff_getElem.1 hy
 have := h i hi
 rw [List.getD_eq_getElem?_getD, List.getElem?_eq_getElem hi] at this
 simpa using this
theorem ScIn.ok {w : World} {s : Sc} (h : ScIn w s) (hb : bigSc s = false) : ScOk w s := by
 unfold bigSc at hb
 simp only [Bool.or_eq_false_iff, decide_eq_false_iff_not] at hb
 obtain ⟨h1, h2, h3, _⟩ := hb
 refine ⟨h.lats, fun l hl => ?_, h.vars, h.lnil, h.vnil, by omega, by omega, h.lnm, h.vnm⟩
 have hl2 := (List.any_eq_false.1 h3) l hl
 unfold lBig at hl2
 simp only [Bool.not_eq_true, Bool.or_eq_false_iff, decide_eq_false_iff_not] at hl2
 obtain ⟨e1, e2⟩ := big_no hl2.1
 exact ⟨(h.fac l hl).1, (h.fac l hl).2, by omega, fun f hf => by have := e2 f hf; omega⟩
theorem bigSc_any (s : Sc) (w : World) (h : ScIn w s) :
 Calls Tryz.prog 11 #[.agg (scv s)] w fun e w' => e = .returned (.bool (bigSc s)) ∧ Below w.heap.size w w' := by
 have r0 := RowAt.new w 25 (scv s)
 have hb : Below w.heap.size w (w.alloc (.cells (scv s) 25)) := (zB _ _).alloc (zL _) _
 refine cHid fun Q' hQ => ?_
 have HQ := zh hQ; clear hQ
 have HD : Hid (bigSc s = (decide (20 < s.ls.length) || (decide (80 < s.vs.length) || (s.ls.any lBig || s.vs.any vBig)))) := zh rfl
 have HY1 : Hid (∀ k, k < s.ls.length → lBig (s.ls.getD k lat0) = true → bigSc s = true) := zh fun k hk h => by
  unfold bigSc; rw [any_yes hk h]; simp
 have HY2 : Hid (∀ k, k < s.vs.length → vBig (s.vs.getD k var0) = true → bigSc s = true) := zh fun k hk h => by
  unfold bigSc; rw [any_yes hk h]; simp
 have HNO : Hid (s.ls.length ≤ 20 → s.vs.length ≤ 80 → (∀ k, k < s.ls.length → lBig (s.ls.getD k lat0) = false) → (∀ k, k < s.vs.length → vBig (s.vs.getD k var0) = false) → bigSc s = false) := zh fun h1 h2 h3 h4 => by
  unfold bigSc
  rw [any_no lat0 h3, any_no var0 h4, zF (by omega), zF (by omega)]; rfl
 go_enter Tryz.func11, Tryz.ntmps11
 go_upto_region 1 with fail
 change Code.wp _ _ _ _ (w.alloc (.cells (scv s) 25))
 generalize w.alloc (.cells (scv s) 25) = w1 at *
 have HOK := zh (h.below hb)
 have HB := zh hb
 obtain ⟨c0, c1, _, _⟩ := rw2 r0
 have HR0L := zh r0.lt
 have hlm := h.lmax
 have hvm := h.vmax
 clear h hb r0
 generalize hln : s.ls.length = ln at *
 generalize hvn : s.vs.length = vn at *
 have HLN := zh hln; have HVN := zh hvn; clear hln hvn
 by_cases h20 : 20 < ln
 ·have hr : bigSc s = true := by rw [HD.out, zE h20]; simp
  rw [hr] at HQ
  clear HD hr
  go_wp2_with fail
  exact HQ.out _ _ ⟨rfl, HB.out⟩
 by_cases h80 : 80 < vn
 ·have hr : bigSc s = true := by rw [HD.out, zE h80]; simp
  rw [hr] at HQ
  clear HD hr
  go_wp2_with fail
  exact HQ.out _ _ ⟨rfl, HB.out⟩
 clear HD hlm hvm
 go_upto_region 3 with fail
 go_wp2_with fail
 go_loopw [4, 20] (fun _ kv wr => ∃ k : Nat, k ≤ ln ∧ kv = .int .i64 k ∧ Hid (Below w1.heap.size w1 wr) ∧ Hid (∀ j, j < k → lBig (s.ls.getD j lat0) = false)) (fun _ kv _ => ln - (intOf kv).toNat)
 case atStart => exact ⟨0, by omega, rfl, zh (zB _ _), zh fun j hj => by omega⟩
 case round =>
  obtain ⟨k, hk, rfl, HW, HG⟩ := hrel
  by_cases hlt : k < ln
  ·have HLT := zh hlt
   obtain ⟨b, o, hA, _, hc⟩ := (HOK.out.lats.below HW.out).at 3 (fun _ => rfl) (by omega) lat0 (i := k) (by rw [HLN.out]; exact hlt)
   have p0 := hc k (by rw [HLN.out]; exact hlt) 0 _ rfl
   have p1 := hc k (by rw [HLN.out]; exact hlt) 1 _ rfl
   have p2 := hc k (by rw [HLN.out]; exact hlt) 2 _ rfl
   rw [Nat.add_zero] at p0
   have HFC := zh ((HOK.out.fac _ (getD_mem' (d := lat0) (i := k) (by rw [HLN.out]; exact hlt))).1.below HW.out)
   have HYk := zh (HY1.out k hlt)
   have hbx : Below wr.heap.size wr (wr.alloc (.cells #[.string (s.ls.getD k lat0).1, .bool (s.ls.getD k lat0).2.t, .slice (s.ls.getD k lat0).2.A (s.ls.getD k lat0).2.fs.length (s.ls.getD k lat0).2.c] 53)) := (zB _ _).alloc (zL _) _
   have HWx : Hid (Below w1.heap.size w1 (wr.alloc (.cells #[.string (s.ls.getD k lat0).1, .bool (s.ls.getD k lat0).2.t, .slice (s.ls.getD k lat0).2.A (s.ls.getD k lat0).2.fs.length (s.ls.getD k lat0).2.c] 53))) := zh (HW.out.trans (hbx.mono HW.out.size))
   have HRX := zh (RowAt.new wr 53 #[.string (s.ls.getD k lat0).1, .bool (s.ls.getD k lat0).2.t, .slice (s.ls.getD k lat0).2.A (s.ls.getD k lat0).2.fs.length (s.ls.getD k lat0).2.c])
   have HBG := zh (bigS_any (s.ls.getD k lat0).2.t (s.ls.getD k lat0).2.A (s.ls.getD k lat0).2.c (s.ls.getD k lat0).2.fs _ (HFC.out.below hbx))
   have HGk : Hid (lBig (s.ls.getD k lat0) = false → ∀ j, j < k + 1 → lBig (s.ls.getD j lat0) = false) := zh fun h j hj => by
        by_cases e : j = k
        ·rw [e]; exact h
        ·exact HG.out j (by omega)
   have HLD : Hid (lBig (s.ls.getD k lat0) = (bigShB (s.ls.getD k lat0).2.fs || decide (40 < (s.ls.getD k lat0).1.size))) := zh rfl
   clear hc hbx
   generalize s.LA = LA at *
   subst hA
   generalize lBig (s.ls.getD k lat0) = lb at *
   generalize (s.ls.getD k lat0).1 = nm at *
   generalize (s.ls.getD k lat0).2 = sh at *
   generalize bigShB sh.fs = bb at *
   generalize sh.fs.length = fl at *
   go_upto_region 6 with fail
   change Code.wp _ _ _ _ (wr.alloc (.cells #[.string nm, .bool sh.t, .slice sh.A fl sh.c] 53))
   generalize wr.alloc (.cells #[.string nm, .bool sh.t, .slice sh.A fl sh.c] 53) = wc at *
   generalize wr.heap.size = gx at *
   obtain ⟨a0, a1, a2, _, _, _⟩ := rw3 HRX.out
   have HA0 : Hid (∀ W, Below wc.heap.size wc W → W.cell? ⟨gx, 0, none⟩ = some (.string nm)) := zh fun W hW => (hW.cell (p := ⟨gx, 0, none⟩) HRX.out.lt).trans a0
   clear p0 p1 p2
   cases bb with
   | true =>
     have hr : bigSc s = true := HYk.out (by rw [HLD.out]; simp)
     rw [hr] at HQ
     clear hr
     go_wp2_with (go_at_call 33; refine HBG.out.mono ?_; rintro e wd ⟨rfl, hbd⟩; have HBW := zh (HWx.out.trans (hbd.mono HWx.out.size)); clear hbd a0 a1 a2)
     exact HQ.out _ _ ⟨rfl, HB.out.trans (HBW.out.mono (by have := HR0L.out; omega))⟩
   | false =>
     by_cases h40 : 40 < nm.size
     ·have hr : bigSc s = true := HYk.out (by rw [HLD.out, zE h40]; simp)
      rw [hr] at HQ
      clear hr
      go_wp2_with (go_at_call 33; refine HBG.out.mono ?_; rintro e wd ⟨rfl, hbd⟩; have HBW := zh (HWx.out.trans (hbd.mono HWx.out.size)); have b0 := HA0.out _ hbd; clear hbd a0 a1 a2)
      exact HQ.out _ _ ⟨rfl, HB.out.trans (HBW.out.mono (by have := HR0L.out; omega))⟩
     ·have HGk1 := zh (HGk.out (by rw [HLD.out, zF h40]; rfl))
      go_wp2_with (go_at_call 33; refine HBG.out.mono ?_; rintro e wd ⟨rfl, hbd⟩; have HBW := zh (HWx.out.trans (hbd.mono HWx.out.size)); have b0 := HA0.out _ hbd; clear hbd a0 a1 a2)
      go_roundw
      case rel => exact ⟨k + 1, by have := HLT.out; omega, by go_num, HBW, HGk1⟩
      case measure => have := HLT.out; simp [intOf]; omega
  ·obtain rfl : k = ln := by omega
   have d1 : wr.cell? ⟨w.heap.size, 1, none⟩ = some (.slice s.VA vn s.vc) := (HW.out.cell (p := ⟨w.heap.size, 1, none⟩) HR0L.out).trans c1
   clear c0 c1
   go_wp2_with fail
   clear d1
   go_loopw [6, 37] (fun _ kv wq => ∃ m : Nat, m ≤ vn ∧ kv = .int .i64 m ∧ Hid (Below w1.heap.size w1 wq) ∧ Hid (∀ j, j < m → vBig (s.vs.getD j var0) = false)) (fun _ kv _ => vn - (intOf kv).toNat)
   case atStart => exact ⟨0, by omega, rfl, HW, zh fun j hj => by omega⟩
   case round =>
        clear HW
        obtain ⟨m, hm, rfl, HW, HG2⟩ := hrel
        by_cases hlt : m < vn
        ·have HLT := zh hlt
         obtain ⟨b, o, hA, _, hc⟩ := (HOK.out.vars.below HW.out).at 3 (fun _ => rfl) (by omega) var0 (i := m) (by rw [HVN.out]; exact hlt)
         have p0 := hc m (by rw [HVN.out]; exact hlt) 0 _ rfl
         have p1 := hc m (by rw [HVN.out]; exact hlt) 1 _ rfl
         have p2 := hc m (by rw [HVN.out]; exact hlt) 2 _ rfl
         rw [Nat.add_zero] at p0
         have HYm := zh (HY2.out m hlt)
         have HWx : Hid (Below w1.heap.size w1 (wr.alloc (.cells #[.string (s.vs.getD m var0).1, .int .i64 (s.vs.getD m var0).2.1, .int .i64 (s.vs.getD m var0).2.2] 55))) := zh (HW.out.alloc HW.out.size _)
         have HRX := zh (RowAt.new wr 55 #[.string (s.vs.getD m var0).1, .int .i64 (s.vs.getD m var0).2.1, .int .i64 (s.vs.getD m var0).2.2])
         have HGk : Hid (vBig (s.vs.getD m var0) = false → ∀ j, j < m + 1 → vBig (s.vs.getD j var0) = false) := zh fun h j hj => by
          by_cases e : j = m
          ·rw [e]; exact h
          ·exact HG2.out j (by omega)
         have HVD : Hid (vBig (s.vs.getD m var0) = decide (40 < (s.vs.getD m var0).1.size)) := zh rfl
         clear hc
         generalize s.VA = VA at *
         subst hA
         generalize vBig (s.vs.getD m var0) = vb at *
         generalize s.vs.getD m var0 = el at *
         obtain ⟨nm, kd, lt⟩ := el
         simp only at p0 p1 p2 HWx HRX HVD
         go_upto_region 12 with fail
         change Code.wp _ _ _ _ (wr.alloc (.cells #[.string nm, .int .i64 kd, .int .i64 lt] 55))
         generalize wr.alloc (.cells #[.string nm, .int .i64 kd, .int .i64 lt] 55) = wc at *
         generalize wr.heap.size = gx at *
         obtain ⟨a0, _, _, _, _, _⟩ := rw3 HRX.out
         clear p0 p1 p2
         by_cases h40 : 40 < nm.size
         ·have hr : bigSc s = true := HYm.out (by rw [HVD.out, zE h40])
          rw [hr] at HQ
          clear hr
          go_wp2_with fail
          exact HQ.out _ _ ⟨rfl, HB.out.trans (HWx.out.mono (by have := HR0L.out; omega))⟩
         ·have HGk1 := zh (HGk.out (by rw [HVD.out, zF h40]))
          go_wp2_with fail
          go_roundw
          case rel => exact ⟨m + 1, by have := HLT.out; omega, by go_num, HWx, HGk1⟩
          case measure => have := HLT.out; simp [intOf]; omega
        ·obtain rfl : m = vn := by omega
         have hr : bigSc s = false := HNO.out (by omega) (by omega) HG.out HG2.out
         rw [hr] at HQ
         clear hr
         go_wp2_with fail
         exact HQ.out _ _ ⟨rfl, HB.out.trans (HW.out.mono (by have := HR0L.out; omega))⟩
end
section
open Go.RowKit RM
theorem big_few {s : Sc} (h : bigSc s = false) : ∀ l ∈ s.ls, l.2.fs.length ≤ 12 := fun l hl => by
 unfold bigSc at h
 simp only [Bool.or_eq_false_iff] at h
 have h2 := h.2.2.1
 rw [List.any_eq_false] at h2
 have h3 := h2 l hl
 unfold lBig bigShB at h3
 simp at h3
 omega
theorem big_sum {s : Sc} (h : bigSc s = false) (ws : List (ByteArray × Int)) (hw : ws.length ≤ 100) : (flat (dshF s ws)).length ≤ 65536 := by
 have h1 : ∀ y ∈ dshF s ws, y.fs.length ≤ 12 := fun y hy => by
  obtain ⟨l, hl, rfl⟩ := dsh_mem hy
  exact big_few h l hl
 have h2 := flat_bd (dshF s ws) 12 (dshF s ws).length h1
 rw [List.take_length] at h2
 have h3 : (dshF s ws).length ≤ ws.length := dshK_len s ws ws.length
 omega
end
section
open Go.RowKit RM
theorem sd_catAt {P : Program} {o : Oper} {a : Act} {w : World} {K : Act → World → Prop} {Q : Exit → Act → World → Prop} (s x : Operand) (t : TypeId)
 (ho : o.op = .call { callee := .builtin .append, args := #[s, x], argTypes := #[t, t] })
 (e : TypeId) (z : Value) (size bytes : Nat) (ht : P.underlying t = some (.slice e))
 (hinf : (P.info? e).map (fun i => (i.zero, i.size, i.bytes)) = some (some z, size, bytes)) (hzs : z.cells.size = size) (hsz : 0 < size) (hby : bytes ≤ 4096)
 (base : Nat) (A : Option Addr) (n c : Nat) (cs : List Value) (hs : a.eval s = .slice A n c) (hown : w.ownsRow base e size (.slice A n c) n cs)
 (B : Nat) (X : Option Addr) (m k : Nat) (news : List Value) (hx : a.eval x = .slice X m k) (hl : news.length = m * size) (hm : m ≤ 4294967296)
 (hnews : Sl w B X news) (h1 : ∀ u ∈ news, u.oneCell' = true)
 (hn : n ≤ 4294967296) (hbase : base ≤ w.heap.size)
 (h : ∀ A' c' w', w'.ownsRow base e size (.slice A' (n + m) c') (n + m) (cs ++ news) → Below base w w' → w.grownBy w' (Value.slice A n c).ownBlock → ((Value.slice A' (n + m) c').ownBlock = (Value.slice A n c).ownBlock ∨ (Value.slice A' (n + m) c').ownBlock = some w.heap.size) → K (a.put o.dst (.slice A' (n + m) c')) w') :
 o.wp P a w K Q := by
 obtain ⟨i, hi, hz, hi1, hi2⟩ := info_parts hinf
 cases X with
 | some ad =>
   obtain ⟨v', w', hr, hown', hg, _, hat⟩ := run_append_own_at (P := P) w base t o.type e i z size bytes ht hi hz hi1 hi2 hzs hsz (.slice A n c) n cs hown ad m k news hl
    (fun j u hu => by
        obtain ⟨b, off, hA, _, hc⟩ := hnews (by intro e; rw [e] at hu; simp at hu)
        injection hA with hA
        subst hA
        rw [show (⟨b, off, none⟩ : Addr).add j = ⟨b, off + j, none⟩ by unfold Addr.add; split <;> simp_all]
        exact hc j u hu) h1 (by simp only [maxLen]; omega) (zM (Nat.mul_le_mul (show n + m ≤ 8589934592 by omega) hby) (by decide)) hbase
   obtain ⟨A', c', rfl, _, _⟩ := own_form hown'
   unfold Oper.wp execOp
   simp only [ho, resolve, invoke, builtin, Sem.run_bind, Sem.run_pure, Result.andThen_ok, List.map_toArray, List.map_cons, List.map_nil, hs, hx, hr]
   exact h A' c' w' hown' ((zB base w).grown hg hbase (fun k hk => (hown.lt k hk).1)) hg hat
 | none =>
   have hne : news = [] := Classical.byContradiction fun hne => by
    obtain ⟨_, _, hA, _⟩ := hnews hne
    cases hA
   subst hne
   have hm0 : m = 0 := by
    rcases Nat.eq_zero_or_pos m with h | h
    ·exact h
    ·have := Nat.mul_pos h hsz
     simp only [zA9] at hl
     omega
   subst hm0
   have hrun : (Builtin.append_ #[t, t] o.type #[.slice A n c, .slice none 0 k]).run P w = .ok (.slice A n c) w := by
    rcases hown.2 with ⟨hv, hn0⟩ | ⟨g, cap, cur, hv, _, _, hnc, _⟩
    ·injection hv with e1 e2 e3
     subst e1 e2 e3
     simp [Builtin.append_, run_underlying ht, sizeOf, typeInfo, hi, Builtin.lenOf, Builtin.firstCells]
    ·injection hv with e1 e2 e3
     subst e1 e3
     simp [Builtin.append_, run_underlying ht, sizeOf, typeInfo, hi, Builtin.lenOf, Builtin.firstCells, hnc, storeCells]
   unfold Oper.wp
   simp only [execOp, ho, resolve, invoke, builtin, Sem.run_bind, Sem.run_pure, Result.andThen_ok, List.map_toArray, List.map_cons, List.map_nil, hs, hx, hrun]
   refine h A c w (by simpa using hown) (zB _ _) ⟨rfl, rfl, rfl, zL _, fun _ _ _ => rfl⟩ (.inl rfl)
theorem sd_cat {P : Program} {o : Oper} {a : Act} {w : World} {K : Act → World → Prop} {Q : Exit → Act → World → Prop} (s x : Operand) (t : TypeId)
 (ho : o.op = .call { callee := .builtin .append, args := #[s, x], argTypes := #[t, t] })
 (e : TypeId) (z : Value) (size bytes : Nat) (ht : P.underlying t = some (.slice e))
 (hinf : (P.info? e).map (fun i => (i.zero, i.size, i.bytes)) = some (some z, size, bytes)) (hzs : z.cells.size = size) (hsz : 0 < size) (hby : bytes ≤ 4096)
 (base : Nat) (A : Option Addr) (n c : Nat) (cs : List Value) (hs : a.eval s = .slice A n c) (hown : w.ownsRow base e size (.slice A n c) n cs)
 (B : Nat) (X : Option Addr) (m k : Nat) (news : List Value) (hx : a.eval x = .slice X m k) (hl : news.length = m * size) (hm : m ≤ 4294967296)
 (hnews : Sl w B X news) (h1 : ∀ u ∈ news, u.oneCell' = true)
 (hn : n ≤ 4294967296) (hbase : base ≤ w.heap.size)
 (h : ∀ A' c' w', w'.ownsRow base e size (.slice A' (n + m) c') (n + m) (cs ++ news) → Below base w w' → w.grownBy w' (Value.slice A n c).ownBlock → K (a.put o.dst (.slice A' (n + m) c')) w') :
 o.wp P a w K Q :=
 sd_catAt s x t ho e z size bytes ht hinf hzs hsz hby base A n c cs hs hown B X m k news hx hl hm hnews h1 hn hbase fun A' c' w' h2 h3 h4 _ => h A' c' w' h2 h3 h4
theorem wpList_sdcat {P : Program} {ops : Array Oper} {rest : List Oper} {o : Oper} {a : Act} {w : World} {Q : Exit → Act → World → Prop} (hgd : o.guard = none) (s x : Operand) (t : TypeId)
 (ho : o.op = .call { callee := .builtin .append, args := #[s, x], argTypes := #[t, t] })
 (e : TypeId) (z : Value) (size bytes : Nat) (ht : P.underlying t = some (.slice e))
 (hinf : (P.info? e).map (fun i => (i.zero, i.size, i.bytes)) = some (some z, size, bytes)) (hzs : z.cells.size = size) (hsz : 0 < size) (hby : bytes ≤ 4096)
 (base : Nat) (A : Option Addr) (n c : Nat) (cs : List Value) (hs : a.eval s = .slice A n c) (hown : w.ownsRow base e size (.slice A n c) n cs)
 (B : Nat) (X : Option Addr) (m k : Nat) (news : List Value) (hx : a.eval x = .slice X m k) (hl : news.length = m * size) (hm : m ≤ 4294967296)
 (hnews : Sl w B X news) (h1 : ∀ u ∈ news, u.oneCell' = true)
 (hn : n ≤ 4294967296) (hbase : base ≤ w.heap.size)
 (h : ∀ A' c' w', w'.ownsRow base e size (.slice A' (n + m) c') (n + m) (cs ++ news) → Below base w w' → w.grownBy w' (Value.slice A n c).ownBlock → wpList P ops Q rest (a.put o.dst (.slice A' (n + m) c')) w') :
 wpList P ops Q (o :: rest) a w :=
 wpList_plain hgd fun _ hK => sd_cat s x t ho e z size bytes ht hinf hzs hsz hby base A n c cs hs hown B X m k news hx hl hm hnews h1 hn hbase fun A' c' w' h2 h3 h4 => hK _ _ (h A' c' w' h2 h3 h4)
theorem fm3_len {α : Type} {g : α → List Value} (hg : ∀ x, (g x).length = 3) (l : List α) : (l.flatMap g).length = l.length * 3 := by
 induction l with
 | nil => rfl
 | cons y ys ih => rw [List.flatMap_cons, zA7, hg, ih, zA8]; omega
structure Kept (bc : Nat) (V W : World) : Prop where
 size : V.heap.size ≤ W.heap.size
 blk : ∀ b, bc ≤ b → b < V.heap.size → W.heap[b]? = V.heap[b]?
section
variable {bc : Nat} {V W W' : World}
theorem Kept.refl (bc : Nat) (V : World) : Kept bc V V := ⟨zL _, fun _ _ _ => rfl⟩
theorem Kept.below (h : Kept bc V W) (hb : Below W.heap.size W W') : Kept bc V W' := ⟨zM h.size hb.size, fun b h1 h2 => (hb.block b (zT h2 h.size)).trans (h.blk b h1 h2)⟩
theorem Kept.grown {row : Option Nat} (h : Kept bc V W) (hg : W.grownBy W' row) (hr : ∀ k, row = some k → k < bc) : Kept bc V W' := ⟨zM h.size hg.size, fun b h1 h2 => (hg.block b (zT h2 h.size) (fun e => by have := hr b e.symm; omega)).trans (h.blk b h1 h2)⟩
theorem Kept.set (h : Kept bc V W) {g : Nat} (hg : g < bc) (o : Nat) (u : Value) : Kept bc V (W.setCell ⟨g, o, none⟩ u) := ⟨by rw [(Else.setCell W ⟨g, o, none⟩ u).size]; exact h.size, fun b h1 h2 => ((Else.setCell W ⟨g, o, none⟩ u).block b (by show b ≠ g; omega)).trans (h.blk b h1 h2)⟩
end
structure OutS (w1 W : World) (g : Nat) (o : Sc) : Prop where
 row : RowAt W g 25 (scv o)
 lown : W.ownsRow w1.heap.size 53 3 (.slice o.LA o.ls.length o.lc) o.ls.length (o.ls.flatMap latC)
 vown : W.ownsRow w1.heap.size 55 3 (.slice o.VA o.vs.length o.vc) o.vs.length (o.vs.flatMap varC)
 low : Below w1.heap.size w1 W
theorem OutS.below {w1 W W' : World} {g : Nat} {o : Sc} (h : OutS w1 W g o) (hb : Below W.heap.size W W') : OutS w1 W' g o :=
 ⟨h.row.below hb h.row.lt, own_below h.lown hb (zL _), own_below h.vown hb (zL _), h.low.trans (hb.mono h.low.size)⟩
theorem out_ok {w1 W wz : World} {g : Nat} {o : Sc} (ho : OutS w1 W g o) (hk : ∀ b, w1.heap.size ≤ b → b < W.heap.size → wz.heap[b]? = W.heap[b]?)
 (h : (∀ l ∈ o.ls, ShOk wz l.2) ∧ o.ls.length ≤ 65536 ∧ o.vs.length ≤ 65536 ∧ (∀ x ∈ o.lnms, x.size ≤ maxLen) ∧ (∀ x ∈ o.vnms, x.size ≤ maxLen)) : ScOk wz o := by
 have h1 := own_same ho.lown fun b hb hv => hk b (ho.lown.lt b hv).1 hb
 have h2 := own_same ho.vown fun b hb hv => hk b (ho.vown.lt b hv).1 hb
 exact ⟨Sl.of_own h1, h.1, Sl.of_own h2, fun hn => (own_nil h1 hn).2, fun hn => (own_nil h2 hn).2, h.2.1, h.2.2.1, h.2.2.2.1, h.2.2.2.2⟩
theorem shF_small {w : World} {s : Sc} {x : Cd} (h : ScOk w s) (hw : x.ws.length ≤ 65536) (hsum : x.op = 3 → (flat (dshF s x.ws)).length ≤ 65536) : (shF s x).length ≤ 65536 ∧ ∀ f ∈ shF s x, f.names.length ≤ 65536 := by
 have ht : x.txt.length ≤ 65536 := by simpa [Cd.txt] using hw
 unfold shF
 by_cases h1 : x.op = 1
 ·rw [if_pos h1]
  exact ⟨by simp, fun f hf => by rw [List.mem_singleton] at hf; subst hf; exact ht⟩
 rw [if_neg h1]
 by_cases h2 : x.op = 2
 ·rw [if_pos h2]
  exact ⟨by simp, fun f hf => by rw [List.mem_singleton] at hf; subst hf; exact ht⟩
 rw [if_neg h2]
 by_cases h3 : x.op = 3
 ·rw [if_pos h3]
  refine ⟨hsum h3, fun f hf => ?_⟩
  obtain ⟨y, hy, hf⟩ := List.mem_flatMap.1 hf
  obtain ⟨l, hl, rfl⟩ := dsh_mem hy
  exact (h.sh l hl).names f hf
 rw [if_neg h3]
 by_cases h4 : x.op = 4
 ·rw [if_pos h4]
  exact ⟨by simp, fun f hf => by rw [List.mem_singleton] at hf; subst hf; exact ht⟩
 rw [if_neg h4]
 by_cases h5 : x.op = 5
 ·rw [if_pos h5]
  exact ⟨by simp, fun f hf => by rw [List.mem_singleton] at hf; subst hf; exact ht⟩
 rw [if_neg h5]
 exact ⟨by simp, fun f hf => by simp at hf⟩
theorem core_names {N : Nat} {gs fs : List Fac} (h : gs.map core = fs.map core) (hf : ∀ f ∈ fs, f.names.length ≤ N) : ∀ g ∈ gs, g.names.length ≤ N := fun g hg => by
 have h1 : core g ∈ fs.map core := by rw [← h]; exact List.mem_map_of_mem hg
 obtain ⟨f, hf1, hf2⟩ := List.mem_map.1 h1
 have h2 := congrArg Fac.names hf2
 have h3 : f.names = g.names := h2
 rw [← h3]; exact hf f hf1
theorem qadd_any (s : Sc) (x : Cd) (w : World) (h : ScOk w s) (hx : CdOk w w.heap.size x) (hsum : x.op = 3 → (flat (dshF s x.ws)).length ≤ 65536) (hll : s.ls.length ≤ 65535) (hvl : s.vs.length + x.ws.length ≤ 65536) :
 Calls Tryz.prog 21 #[.agg (scv s), .agg (cdv x)] w fun e w' => ∃ s', e = .returned (.agg (scv s')) ∧ ScOk w' s' ∧ s'.ls.map lcore = addL s x ∧ s'.vs = addV s x ∧ Below w.heap.size w w' := by
 obtain ⟨r0, q0, z0, hb⟩ := three_rows w (scv s) (cdv x) #[.slice none 0 0, .slice none 0 0] 25 34 25
 refine cHid fun Q' hQ => ?_
 have HQ := zh hQ; clear hQ
 go_enter Tryz.func21, Tryz.ntmps21
 go_upto_region 1 with fail
 change Code.wp _ _ _ _ (((w.alloc (.cells (scv s) 25)).alloc (.cells (cdv x) 34)).alloc (.cells #[.slice none 0 0, .slice none 0 0] 25))
 generalize ((w.alloc (.cells (scv s) 25)).alloc (.cells (cdv x) 34)).alloc (.cells #[.slice none 0 0, .slice none 0 0] 25) = w1 at *
 have HZL := zh z0.lt
 have HSZ := zh hb.size
 have HOKf : Hid (∀ W, Below w.heap.size w W → ScOk W s) := zh fun W hW => h.below hW
 have HXf : Hid (∀ W, Below w.heap.size w W → CdOk W w.heap.size x) := zh fun W hW => hx.below hW
 have HRS := zh r0
 have HRC := zh q0
 have HRZ := zh z0
 have HB := zh hb
 have HCI := zh (cdinfo hx)
 have HLL0 := zh hll
 have HVL0 := zh hvl
 have HSML := zh (shF_small h hx.wfew hsum)
 have HNM := zh hx.nn
 have HSHP : Hid (∀ W, Below w1.heap.size w1 W → Calls Tryz.prog 18 #[.agg (scv s), .agg (cdv x)] W fun e w' => ∃ A' c' gs, e = .returned (.agg (sv (shT x.op) A' gs.length c')) ∧ ShKeep w W w' A' gs ∧ (A' = none → c' = 0) ∧ gs.map core = (shF s x).map core ∧ Below W.heap.size W w') := zh fun W hW => qshape13_any s x w W h (hb.trans (hW.mono hb.size)) ((hx.below (hb.trans (hW.mono hb.size))).mono (by have := hW.size; have := hb.size; omega)) hsum
 have HFTf : Hid (∀ W, Below w1.heap.size w1 W → Calls Tryz.prog 15 #[.agg (scv s), .agg (cdv x)] W fun e w' => e = .returned (.agg (ftv (faultF s x))) ∧ Below W.heap.size W w') := zh fun W hW => by
  rw [← rfault_eq]
  exact qfault_any s x W (h.below (hb.trans (hW.mono hb.size))) ((hx.below (hb.trans (hW.mono hb.size))).mono (by have := hW.size; have := hb.size; omega)) hsum
 have HTY1 : Hid (53 ≠ 25) := zh (by show (53 : Nat) ≠ 25; decide)
 have HTY2 : Hid (55 ≠ 25) := zh (by show (55 : Nat) ≠ 25; decide)
 have HTY4 : Hid (55 ≠ 53) := zh (by show (55 : Nat) ≠ 53; decide)
 have HAL : Hid (addL s x = s.ls.map lcore ++ (if (decide ((faultF s x).1 = 0) && dLat x.op) = true then [(x.n.1, shT x.op, (shF s x).map core)] else [])) := zh rfl
 have HAV : Hid (addV s x = s.vs ++ (if (decide ((faultF s x).1 = 0) && dVar x.op) = true then x.ws.map fun y => (y.1, kindN x.op, idx s.lnms x.n.1) else [])) := zh rfl
 clear h hx hsum hb r0 q0 z0 hll hvl
 have r2 := RowAt.new w1 25 #[.slice none 0 0, .slice none 0 0]
 have hb2 : Below w1.heap.size w1 (w1.alloc (.cells #[.slice none 0 0, .slice none 0 0] 25)) := (zB _ _).alloc (zL _) _
 go_upto_region 2 with fail
 change Code.wp _ _ _ _ (w1.alloc (.cells #[.slice none 0 0, .slice none 0 0] 25))
 generalize w1.alloc (.cells #[.slice none 0 0, .slice none 0 0] 25) = w2 at *
 have hz5 := r2.lt
 have hzz := HZL.out
 generalize hg5 : w1.heap.size = g5 at r2 hz5 ⊢
 have HG5 : Hid (w1.heap.size ≤ g5) := zh (by omega)
 have hok2 := HOKf.out _ (HB.out.trans (hb2.mono HSZ.out))
 have c0 := (HRS.out.below hb2 HRS.out.lt).cell 0
 rw [show (scv s)[0]? = some (.slice s.LA s.ls.length s.lc) from rfl] at c0
 have o0 := r2.cell 0
 rw [show (#[.slice none 0 0, .slice none 0 0] : Array Value)[0]? = some (.slice none 0 0) from rfl] at o0
 have HSL := zh hok2.lats
 have HSV := zh hok2.vars
 have hlf := hok2.lfew
 have hvf := hok2.vfew
 clear hok2
 have hbs := hb2.size
 go_upto_region 3 with (at_builtin; refine wpList_sdcat rfl _ _ 22 rfl 53 (.agg #[.string ⟨#[]⟩, .bool false, .slice none 0 0]) 3 48 Tryz.underlying22 infoLatS rfl (by decide) (by decide) w1.heap.size none 0 0 [] rfl (World.ownsRow_nil _ _ _ _) _ s.LA s.ls.length s.lc (s.ls.flatMap latC) rfl (fm3_len (fun _ => rfl) _) (by omega) HSL.out (latC_one _) (by omega) hbs ?_; intro A1 c1 wa hwa hba hga; rw [Nat.zero_add, List.nil_append] at hwa; simp only [Nat.zero_add]; have hra := r2.grown hga (fun e => by cases e); have ha0 := (hra.cell 0).trans (show (#[.slice none 0 0, .slice none 0 0] : Array Value)[0]? = some (.slice none 0 0) from rfl); have fa0 := hra.free 0)
 have hR3 : RowAt (wa.setCell ⟨g5, 0, none⟩ (.slice A1 s.ls.length c1)) g5 25 #[.slice A1 s.ls.length c1, .slice none 0 0] := hra.put 0 _
 have hL3 := ownS_far hwa hra HTY1.out 0 (.slice A1 s.ls.length c1)
 have hS3 : Below w1.heap.size w1 (wa.setCell ⟨g5, 0, none⟩ (.slice A1 s.ls.length c1)) := (hb2.trans hba).setCell (p := ⟨g5, 0, none⟩) HG5.out _
 clear ha0 fa0 hra hwa hba hga r2 hb2 c0 o0 HSL HSV
 generalize wa.setCell ⟨g5, 0, none⟩ (.slice A1 s.ls.length c1) = wb at *
 have hok3 := HOKf.out _ (HB.out.trans (hS3.mono HSZ.out))
 have HSV := zh hok3.vars
 have c1' := ((HRS.out.below hS3 HRS.out.lt).cell 1).trans (show (scv s)[1]? = some (.slice s.VA s.vs.length s.vc) from rfl)
 have o1' := (hR3.cell 1).trans (show (#[.slice A1 s.ls.length c1, .slice none 0 0] : Array Value)[1]? = some (.slice none 0 0) from rfl)
 have hbs3 := hS3.size
 go_upto_region 4 with (at_builtin; refine wpList_sdcat rfl _ _ 23 rfl 55 (.agg #[.string ⟨#[]⟩, .int .i64 0, .int .i64 0]) 3 32 Tryz.underlying23 infoVarS rfl (by decide) (by decide) w1.heap.size none 0 0 [] rfl (World.ownsRow_nil _ _ _ _) _ s.VA s.vs.length s.vc (s.vs.flatMap varC) rfl (fm3_len (fun _ => rfl) _) (by omega) HSV.out (varC_one _) (by omega) hbs3 ?_; intro A2 c2 wc hwc hbc hgc; rw [Nat.zero_add, List.nil_append] at hwc; simp only [Nat.zero_add]; have hrc := hR3.grown hgc (fun e => by cases e); have ha1 := (hrc.cell 1).trans (show (#[.slice A1 s.ls.length c1, .slice none 0 0] : Array Value)[1]? = some (.slice none 0 0) from rfl); have fa1 := hrc.free 1)
 have hL4 := own_grown hL3 hgc (fun k hk => by cases hk)
 have hO4 : OutS w1 (wc.setCell ⟨g5, 1, none⟩ (.slice A2 s.vs.length c2)) g5 ⟨A1, c1, s.ls, A2, c2, s.vs⟩ := ⟨hrc.put 1 _, ownS_far hL4 hrc HTY1.out 1 _, ownS_far hwc hrc HTY2.out 1 _, (hS3.trans hbc).setCell (p := ⟨g5, 1, none⟩) HG5.out _⟩
 clear ha1 fa1 hrc hwc hbc hgc hL4 hL3 hR3 hS3 hok3 HSV c1' o1' hbs hbs3 hz5
 generalize wc.setCell ⟨g5, 1, none⟩ (.slice A2 s.vs.length c2) = wq at *
 obtain ⟨o, ho⟩ : ∃ o : Sc, o = ⟨A1, c1, s.ls, A2, c2, s.vs⟩ := ⟨_, rfl⟩
 rw [← ho] at hO4
 have HOL : Hid (o.ls = s.ls) := zh (by rw [ho])
 have HOV : Hid (o.vs = s.vs) := zh (by rw [ho])
 have HO := zh hO4
 clear ho hO4
 have HB0 : Hid (∀ W, Below w.heap.size w W → (∀ l ∈ o.ls, ShOk W l.2) ∧ o.ls.length ≤ 65536 ∧ o.vs.length ≤ 65536 ∧ (∀ x ∈ o.lnms, x.size ≤ maxLen) ∧ (∀ x ∈ o.vnms, x.size ≤ maxLen)) := zh fun W hW => by
  have h := HOKf.out W hW
  unfold Sc.lnms Sc.vnms
  rw [HOL.out, HOV.out]
  exact ⟨h.sh, h.lfew, h.vfew, h.lnm, h.vnm⟩
 have d0 := (cd_cells (HRC.out.below HO.out.low HRC.out.lt)).1
 by_cases h1 : x.op < 1
 ·have hal : addL s x = s.ls.map lcore := by rw [HAL.out, show dLat x.op = false by unfold dLat; rw [decide_eq_false_iff_not]; omega, Bool.and_false]; simp
  have hav : addV s x = s.vs := by rw [HAV.out, show dVar x.op = false by unfold dVar; rw [decide_eq_false_iff_not]; omega, Bool.and_false]; simp
  rw [hal, hav] at HQ
  clear hal hav HAL HAV
  have HZ9 := zh (HRZ.out.below HO.out.low HRZ.out.lt)
  have HOR := zh HO.out.row
  go_wp2_with (first
   | (refine wpList_loadS (by rfl) _ _ rfl g5 rfl _ _ _ HOR.out Tryz.underlying25 rfl (by kernel_rfl) ?_)
   | (refine wpList_stRow (by rfl) _ _ _ rfl (w.heap.size + 1 + 1) (scv (o)) rfl rfl _ _ HZ9.out (by kernel_rfl) rfl (by simp [scv, Value.oneCell']) ?_; intro wz rz he))
  have hbz : Below w.heap.size w wz := HB.out.trans ((HO.out.low.mono (by have := HZL.out; omega)).trans (he.below (by omega)))
  have hkz : ∀ b, w1.heap.size ≤ b → b < wq.heap.size → wz.heap[b]? = wq.heap[b]? := fun b h1 _ => he.block b (by have := HZL.out; omega)
  exact bodyPost_ret (retRow rfl _ _ (w.heap.size + 1 + 1) _ _ (0, 0) _ rfl rz Tryz.underlying25 rfl (by kernel_rfl)) rfl (HQ.out _ _ ⟨o, rfl, out_ok HO.out hkz (HB0.out wz hbz), by rw [HOL.out], HOV.out, hbz⟩)
 by_cases h7 : 7 < x.op
 ·have hal : addL s x = s.ls.map lcore := by rw [HAL.out, show dLat x.op = false by unfold dLat; rw [decide_eq_false_iff_not]; omega, Bool.and_false]; simp
  have hav : addV s x = s.vs := by rw [HAV.out, show dVar x.op = false by unfold dVar; rw [decide_eq_false_iff_not]; omega, Bool.and_false]; simp
  rw [hal, hav] at HQ
  clear hal hav HAL HAV
  have HZ9 := zh (HRZ.out.below HO.out.low HRZ.out.lt)
  have HOR := zh HO.out.row
  go_wp2_with (first
   | (refine wpList_loadS (by rfl) _ _ rfl g5 rfl _ _ _ HOR.out Tryz.underlying25 rfl (by kernel_rfl) ?_)
   | (refine wpList_stRow (by rfl) _ _ _ rfl (w.heap.size + 1 + 1) (scv (o)) rfl rfl _ _ HZ9.out (by kernel_rfl) rfl (by simp [scv, Value.oneCell']) ?_; intro wz rz he))
  have hbz : Below w.heap.size w wz := HB.out.trans ((HO.out.low.mono (by have := HZL.out; omega)).trans (he.below (by omega)))
  have hkz : ∀ b, w1.heap.size ≤ b → b < wq.heap.size → wz.heap[b]? = wq.heap[b]? := fun b h1 _ => he.block b (by have := HZL.out; omega)
  exact bodyPost_ret (retRow rfl _ _ (w.heap.size + 1 + 1) _ _ (0, 0) _ rfl rz Tryz.underlying25 rfl (by kernel_rfl)) rfl (HQ.out _ _ ⟨o, rfl, out_ok HO.out hkz (HB0.out wz hbz), by rw [HOL.out], HOV.out, hbz⟩)
 have HRS4 := zh (HRS.out.below HO.out.low HRS.out.lt)
 have HRC4 := zh (HRC.out.below HO.out.low HRC.out.lt)
 have HFT := zh (HFTf.out _ HO.out.low)
 have hft := run_ft0
 by_cases hf : (faultF s x).1 = 0
 ·have qf : ((faultF s x).1 != 0) = false := by simp [hf]
  have HF0 := zh hf; clear hf
  generalize faultF s x = ff at *
  go_upto_region 6 with (first
   | (refine wpList_loadS (by first | rfl | kernel_rfl) 25 _ rfl w.heap.size rfl _ _ _ HRS4.out Tryz.underlying25 rfl (by kernel_rfl) ?_)
   | (refine wpList_loadS (by first | rfl | kernel_rfl) 34 _ rfl (w.heap.size + 1) rfl _ _ _ HRC4.out Tryz.underlying34 rfl HCI.out ?_)
   | (go_at_call 15; refine HFT.out.mono ?_; rintro e w4 ⟨rfl, hb4⟩; have HB4 := zh hb4; clear hb4))
  have HO := zh (HO.out.below HB4.out)
  clear d0 HRS4 HRC4 HFT hft qf
  have d0 := (cd_cells (HRC.out.below HO.out.low HRC.out.lt)).1
  have HOU := HO
  generalize w4 = wq at *
  have HLL : Hid (o.ls.length ≤ 65535) := zh (by rw [HOL.out]; exact HLL0.out)
  by_cases h5 : x.op ≤ 5
  ·have hdl : dLat x.op = true := by unfold dLat; rw [decide_eq_true_eq]; omega
   have hdv : dVar x.op = false := by unfold dVar; rw [decide_eq_false_iff_not]; omega
   have hal : addL s x = s.ls.map lcore ++ [(x.n.1, shT x.op, (shF s x).map core)] := by rw [HAL.out, zE HF0.out, hdl]; rfl
   have hav : addV s x = s.vs := by rw [HAV.out, hdv, Bool.and_false]; simp
   rw [hal, hav] at HQ
   clear hal hav HAL HAV hdl hdv
   go_upto_region 7 with fail
   clear d0
   go_cut [] from 39 to 50 (fun wx => ∃ (A6 : Option Addr) (d6 : Nat) (A2 : Option Addr) (c2 : Nat) (gs : List Fac), Hid (OutS w1 wx g5 ⟨A6, d6, o.ls ++ [(x.n.1, (⟨shT x.op, A2, c2, gs⟩ : Shp))], o.VA, o.vc, o.vs⟩) ∧ Hid (ShKeep w w1 wx A2 gs) ∧ Hid (A2 = none → c2 = 0) ∧ Hid (gs.map core = (shF s x).map core))
   case first =>
        have C0 : ∀ W, Below w1.heap.size w1 W → W.cell? ⟨w.heap.size + 1, 2, none⟩ = some (.string x.n.1) := fun W hW => (cd_cells (HRC.out.below hW HRC.out.lt)).2.2.1
        have C1 : ∀ W, Below w1.heap.size w1 W → RowAt W w.heap.size 25 (scv s) := fun W hW => HRS.out.below hW HRS.out.lt
        have C2 : ∀ W, Below w1.heap.size w1 W → RowAt W (w.heap.size + 1) 34 (cdv x) := fun W hW => HRC.out.below hW HRC.out.lt
        have HOu0 : Hid (OutS w1 wq.drew g5 o) := zh (HO.out.below (zB _ _).drew)
        refine wp_region_ou (fun W => Below w1.heap.size w1 W) ((.take 0 (.take 2 (.take 3 (.take 4 (.take 5 (.take 6 (.two 1 (.solo 7 (.take 8 (.solo 9 (.solo 10 (.take 11 (.solo 12 .nil)))))) 7 (.take 8 (.two 1 (.solo 9 (.solo 10 (.take 11 (.solo 12 .nil)))) 9 (.solo 1 (.solo 10 (.take 11 (.solo 12 .nil)))))))))))))) (by kernel_rfl) (by kernel_rfl) rfl (by kernel_rfl) HOu0.out.low ?_
        generalize wq.drew = u0 at HOu0 ⊢
        iterate 6
         (refine wpOU_step (zO rfl) ?_)
         (first
            | (refine wpOU_skip (by rfl) ?_)
            | (refine wpOU_take (by rfl) (take_row _ _ rfl w.heap.size rfl _ _ _ C1 Tryz.underlying25 rfl (by kernel_rfl)) ?_)
            | (refine wpOU_take (by rfl) (take_row _ _ rfl (w.heap.size + 1) rfl _ _ _ C2 Tryz.underlying34 rfl HCI.out) ?_)
            | (refine wpOU_take (v := ?_) (by rfl) ?_ ?_; rotate_left 1; (intro wx hSx; have hc_0 := C0 wx hSx; go_simp; try with_reducible rfl)))
         (try simp only [Act.put, zA4, zA5, zA6])
        refine wpOU_two ?_ ?_
        ·(refine wpOU_solo (zO rfl) ?_)
         intro K hK
         have cc := (HOu0.out.row.cell 0).trans (show (scv o)[0]? = some (.slice o.LA o.ls.length o.lc) from rfl)
         go_simp
         clear cc
         refine hK.out _ _ HOu0.out.low ?_
         clear hK K
         (try simp only [Act.put, zA4, zA5, zA6])
         (refine wpOU_solo (zO rfl) ?_)
         intro K hK
         go_simp
         go_at_call 18
         refine (HSHP.out u0 HOu0.out.low).mono ?_
         rintro e u1 ⟨A2, c2, gs, rfl, hkp, hnl, hcr, hb⟩
         simp only [sv]
         have HNWu1 : Hid (Kept u0.heap.size u1 u1) := zh (Kept.refl _ _)
         have HKP := zh hkp; have HNL := zh hnl; have HCR := zh hcr
         have HGC : Hid (w1.heap.size ≤ u0.heap.size) := zh HOu0.out.low.size
         have HGG : Hid (g5 < u0.heap.size) := zh HOu0.out.row.lt
         have HLB : Hid (∀ k, (Value.slice o.LA o.ls.length o.lc).ownBlock = some k → k < u0.heap.size) := zh fun k hk => (HOu0.out.lown.lt k hk).2
         have HOu1 := zh (HOu0.out.below hb)
         clear hb hkp hnl hcr
         refine hK.out _ _ HOu1.out.low ?_
         clear hK K
         (try simp only [Act.put, zA4, zA5, zA6])
         iterate 1
          (refine wpOU_step (zO rfl) ?_)
          (first
              | (refine wpOU_skip (by rfl) ?_)
              | (refine wpOU_take (by rfl) (take_row _ _ rfl w.heap.size rfl _ _ _ C1 Tryz.underlying25 rfl (by kernel_rfl)) ?_)
              | (refine wpOU_take (by rfl) (take_row _ _ rfl (w.heap.size + 1) rfl _ _ _ C2 Tryz.underlying34 rfl HCI.out) ?_)
              | (refine wpOU_take (v := ?_) (by rfl) ?_ ?_; rotate_left 1; (intro wx hSx; have hc_0 := C0 wx hSx; go_simp; try with_reducible rfl)))
          (try simp only [Act.put, zA4, zA5, zA6])
         (refine wpOU_solo (zO rfl) ?_)
         intro K hK
         go_simp
         have hb : Below u1.heap.size u1 (u1.alloc (.cells #[.string x.n.1, .bool (shT x.op), .slice A2 gs.length c2] 53)) := (zB _ _).alloc (zL _) _
         have HBSu2 := zh (RowAt.new u1 53 #[.string x.n.1, .bool (shT x.op), .slice A2 gs.length c2])
         have HOu2 := zh (HOu1.out.below hb)
         have HNWu2 := zh (HNWu1.out.below hb)
         clear hb
         refine hK.out _ _ HOu2.out.low ?_
         clear hK K
         (try simp only [Act.put, zA4, zA5, zA6])
         generalize hgb : u1.heap.size = gb at HBSu2 ⊢
         generalize (u1.alloc (.cells #[.string x.n.1, .bool (shT x.op), .slice A2 gs.length c2] 53)) = u2 at *
         clear hgb
         (refine wpOU_solo (zO rfl) ?_)
         intro K hK
         rw [if_pos (by rfl)]
         refine wp_moreS _ _ 22 rfl 53 (.agg #[.string ⟨#[]⟩, .bool false, .slice none 0 0]) 3 48 Tryz.underlying22 infoLatS rfl (by decide) w1.heap.size o.LA o.ls.length o.lc (o.ls.flatMap latC) rfl HOu2.out.lown gb [.string x.n.1, .bool (shT x.op), .slice A2 gs.length c2] rfl rfl (fun j u hu => (HBSu2.out.cell j).trans (by simpa using hu)) (by intro u hu; simp at hu; rcases hu with rfl | rfl | rfl <;> rfl) (by simp only [maxLen]; have := HLL.out; omega) (by have := HLL.out; omega) HOu2.out.low.size ?_
         intro A6 d6 u3 hown6 hb6 hg6 hat6
         have HSu3 := zh (HOu2.out.low.trans hb6)
         have HOW6 := zh hown6
         have HRWu3 := zh (HOu2.out.row.grown hg6 (own_ne2 HOu2.out.lown HOu2.out.row HTY1.out))
         have HVWu3 := zh (own_grown HOu2.out.vown hg6 fun k hk => own_ne3 HOu2.out.vown HOu2.out.lown HTY4.out hk)
         have HNWu3 := zh (HNWu2.out.grown hg6 HLB.out)
         clear hown6 hb6 hg6 hat6
         refine hK.out _ _ HSu3.out ?_
         clear hK K
         (try simp only [Act.put, zA4, zA5, zA6])
         iterate 1
          (refine wpOU_step (zO rfl) ?_)
          (first
              | (refine wpOU_skip (by rfl) ?_)
              | (refine wpOU_take (by rfl) (take_row _ _ rfl w.heap.size rfl _ _ _ C1 Tryz.underlying25 rfl (by kernel_rfl)) ?_)
              | (refine wpOU_take (by rfl) (take_row _ _ rfl (w.heap.size + 1) rfl _ _ _ C2 Tryz.underlying34 rfl HCI.out) ?_)
              | (refine wpOU_take (v := ?_) (by rfl) ?_ ?_; rotate_left 1; (intro wx hSx; have hc_0 := C0 wx hSx; go_simp; try with_reducible rfl)))
          (try simp only [Act.put, zA4, zA5, zA6])
         (refine wpOU_solo (zO rfl) ?_)
         intro K hK
         have m0 := (HRWu3.out.cell 0).trans (show (scv o)[0]? = some (.slice o.LA o.ls.length o.lc) from rfl)
         have f0 := HRWu3.out.free 0
         have hR9 : RowAt (u3.setCell ⟨g5, 0, none⟩ (.slice A6 (o.ls.length + 1) d6)) g5 25 (scv ⟨A6, d6, o.ls ++ [(x.n.1, (⟨shT x.op, A2, c2, gs⟩ : Shp))], o.VA, o.vc, o.vs⟩) := by
          have h := HRWu3.out.put 0 (.slice A6 (o.ls.length + 1) d6)
          have e : (scv o).setIfInBounds 0 (.slice A6 (o.ls.length + 1) d6) = scv ⟨A6, d6, o.ls ++ [(x.n.1, (⟨shT x.op, A2, c2, gs⟩ : Shp))], o.VA, o.vc, o.vs⟩ := by simp [scv]
          rw [← e]; exact h
         have hL9 : (u3.setCell ⟨g5, 0, none⟩ (.slice A6 (o.ls.length + 1) d6)).ownsRow w1.heap.size 53 3 (.slice A6 (o.ls ++ [(x.n.1, (⟨shT x.op, A2, c2, gs⟩ : Shp))]).length d6) (o.ls ++ [(x.n.1, (⟨shT x.op, A2, c2, gs⟩ : Shp))]).length ((o.ls ++ [(x.n.1, (⟨shT x.op, A2, c2, gs⟩ : Shp))]).flatMap latC) := by
          have hL : (o.ls ++ [(x.n.1, (⟨shT x.op, A2, c2, gs⟩ : Shp))]).length = o.ls.length + 1 := by simp
          have hF : (o.ls ++ [(x.n.1, (⟨shT x.op, A2, c2, gs⟩ : Shp))]).flatMap latC = o.ls.flatMap latC ++ [.string x.n.1, .bool (shT x.op), .slice A2 gs.length c2] := by simp [latC]
          rw [hL, hF]; exact ownS_far HOW6.out HRWu3.out HTY1.out _ _
         have hS9 : Below w1.heap.size w1 (u3.setCell ⟨g5, 0, none⟩ (.slice A6 (o.ls.length + 1) d6)) := HSu3.out.setCell (p := ⟨g5, 0, none⟩) HG5.out _
         have HO9 : Hid (OutS w1 (u3.setCell ⟨g5, 0, none⟩ (.slice A6 (o.ls.length + 1) d6)) g5 ⟨A6, d6, o.ls ++ [(x.n.1, (⟨shT x.op, A2, c2, gs⟩ : Shp))], o.VA, o.vc, o.vs⟩) := zh ⟨hR9, hL9, ownS_far HVWu3.out HRWu3.out HTY2.out _ _, hS9⟩
         have HK9 : Hid (ShKeep w w1 (u3.setCell ⟨g5, 0, none⟩ (.slice A6 (o.ls.length + 1) d6)) A2 gs) := zh fun W2 h2 hk => HKP.out W2 h2 fun b h3 h4 => (hk b (zM HGC.out h3) (by have := (HNWu3.out.set HGG.out 0 (.slice A6 (o.ls.length + 1) d6)).size; exact zT h4 this)).trans ((HNWu3.out.set HGG.out 0 (.slice A6 (o.ls.length + 1) d6)).blk b h3 h4)
         clear hR9 hL9 hS9
         go_simp
         refine hK.out _ _ HO9.out.low ?_
         clear hK K m0 f0
         (try simp only [Act.put, zA4, zA5, zA6])
         generalize (u3.setCell ⟨g5, 0, none⟩ (.slice A6 (o.ls.length + 1) d6)) = u9 at *
         refine wpOU_done ?_
         go_wp2
         go_meet
         case rel => exact ⟨A6, d6, A2, c2, gs, HO9, HK9, HNL, HCR⟩
        ·(refine wpOU_solo (zO rfl) ?_)
         intro K hK
         go_simp
         go_at_call 18
         refine (HSHP.out u0 HOu0.out.low).mono ?_
         rintro e u1 ⟨A2, c2, gs, rfl, hkp, hnl, hcr, hb⟩
         simp only [sv]
         have HNWu1 : Hid (Kept u0.heap.size u1 u1) := zh (Kept.refl _ _)
         have HKP := zh hkp; have HNL := zh hnl; have HCR := zh hcr
         have HGC : Hid (w1.heap.size ≤ u0.heap.size) := zh HOu0.out.low.size
         have HGG : Hid (g5 < u0.heap.size) := zh HOu0.out.row.lt
         have HLB : Hid (∀ k, (Value.slice o.LA o.ls.length o.lc).ownBlock = some k → k < u0.heap.size) := zh fun k hk => (HOu0.out.lown.lt k hk).2
         have HOu1 := zh (HOu0.out.below hb)
         clear hb hkp hnl hcr
         refine hK.out _ _ HOu1.out.low ?_
         clear hK K
         (try simp only [Act.put, zA4, zA5, zA6])
         iterate 1
          (refine wpOU_step (zO rfl) ?_)
          (first
              | (refine wpOU_skip (by rfl) ?_)
              | (refine wpOU_take (by rfl) (take_row _ _ rfl w.heap.size rfl _ _ _ C1 Tryz.underlying25 rfl (by kernel_rfl)) ?_)
              | (refine wpOU_take (by rfl) (take_row _ _ rfl (w.heap.size + 1) rfl _ _ _ C2 Tryz.underlying34 rfl HCI.out) ?_)
              | (refine wpOU_take (v := ?_) (by rfl) ?_ ?_; rotate_left 1; (intro wx hSx; have hc_0 := C0 wx hSx; go_simp; try with_reducible rfl)))
          (try simp only [Act.put, zA4, zA5, zA6])
         refine wpOU_two ?_ ?_
         ·(refine wpOU_solo (zO rfl) ?_)
          intro K hK
          have cc := (HOu1.out.row.cell 0).trans (show (scv o)[0]? = some (.slice o.LA o.ls.length o.lc) from rfl)
          go_simp
          clear cc
          refine hK.out _ _ HOu1.out.low ?_
          clear hK K
          (try simp only [Act.put, zA4, zA5, zA6])
          (refine wpOU_solo (zO rfl) ?_)
          intro K hK
          go_simp
          have hb : Below u1.heap.size u1 (u1.alloc (.cells #[.string x.n.1, .bool (shT x.op), .slice A2 gs.length c2] 53)) := (zB _ _).alloc (zL _) _
          have HBSu2 := zh (RowAt.new u1 53 #[.string x.n.1, .bool (shT x.op), .slice A2 gs.length c2])
          have HOu2 := zh (HOu1.out.below hb)
          have HNWu2 := zh (HNWu1.out.below hb)
          clear hb
          refine hK.out _ _ HOu2.out.low ?_
          clear hK K
          (try simp only [Act.put, zA4, zA5, zA6])
          generalize hgb : u1.heap.size = gb at HBSu2 ⊢
          generalize (u1.alloc (.cells #[.string x.n.1, .bool (shT x.op), .slice A2 gs.length c2] 53)) = u2 at *
          clear hgb
          (refine wpOU_solo (zO rfl) ?_)
          intro K hK
          rw [if_pos (by rfl)]
          refine wp_moreS _ _ 22 rfl 53 (.agg #[.string ⟨#[]⟩, .bool false, .slice none 0 0]) 3 48 Tryz.underlying22 infoLatS rfl (by decide) w1.heap.size o.LA o.ls.length o.lc (o.ls.flatMap latC) rfl HOu2.out.lown gb [.string x.n.1, .bool (shT x.op), .slice A2 gs.length c2] rfl rfl (fun j u hu => (HBSu2.out.cell j).trans (by simpa using hu)) (by intro u hu; simp at hu; rcases hu with rfl | rfl | rfl <;> rfl) (by simp only [maxLen]; have := HLL.out; omega) (by have := HLL.out; omega) HOu2.out.low.size ?_
          intro A6 d6 u3 hown6 hb6 hg6 hat6
          have HSu3 := zh (HOu2.out.low.trans hb6)
          have HOW6 := zh hown6
          have HRWu3 := zh (HOu2.out.row.grown hg6 (own_ne2 HOu2.out.lown HOu2.out.row HTY1.out))
          have HVWu3 := zh (own_grown HOu2.out.vown hg6 fun k hk => own_ne3 HOu2.out.vown HOu2.out.lown HTY4.out hk)
          have HNWu3 := zh (HNWu2.out.grown hg6 HLB.out)
          clear hown6 hb6 hg6 hat6
          refine hK.out _ _ HSu3.out ?_
          clear hK K
          (try simp only [Act.put, zA4, zA5, zA6])
          iterate 1
            (refine wpOU_step (zO rfl) ?_)
            (first
                 | (refine wpOU_skip (by rfl) ?_)
                 | (refine wpOU_take (by rfl) (take_row _ _ rfl w.heap.size rfl _ _ _ C1 Tryz.underlying25 rfl (by kernel_rfl)) ?_)
                 | (refine wpOU_take (by rfl) (take_row _ _ rfl (w.heap.size + 1) rfl _ _ _ C2 Tryz.underlying34 rfl HCI.out) ?_)
                 | (refine wpOU_take (v := ?_) (by rfl) ?_ ?_; rotate_left 1; (intro wx hSx; have hc_0 := C0 wx hSx; go_simp; try with_reducible rfl)))
            (try simp only [Act.put, zA4, zA5, zA6])
          (refine wpOU_solo (zO rfl) ?_)
          intro K hK
          have m0 := (HRWu3.out.cell 0).trans (show (scv o)[0]? = some (.slice o.LA o.ls.length o.lc) from rfl)
          have f0 := HRWu3.out.free 0
          have hR9 : RowAt (u3.setCell ⟨g5, 0, none⟩ (.slice A6 (o.ls.length + 1) d6)) g5 25 (scv ⟨A6, d6, o.ls ++ [(x.n.1, (⟨shT x.op, A2, c2, gs⟩ : Shp))], o.VA, o.vc, o.vs⟩) := by
            have h := HRWu3.out.put 0 (.slice A6 (o.ls.length + 1) d6)
            have e : (scv o).setIfInBounds 0 (.slice A6 (o.ls.length + 1) d6) = scv ⟨A6, d6, o.ls ++ [(x.n.1, (⟨shT x.op, A2, c2, gs⟩ : Shp))], o.VA, o.vc, o.vs⟩ := by simp [scv]
            rw [← e]; exact h
          have hL9 : (u3.setCell ⟨g5, 0, none⟩ (.slice A6 (o.ls.length + 1) d6)).ownsRow w1.heap.size 53 3 (.slice A6 (o.ls ++ [(x.n.1, (⟨shT x.op, A2, c2, gs⟩ : Shp))]).length d6) (o.ls ++ [(x.n.1, (⟨shT x.op, A2, c2, gs⟩ : Shp))]).length ((o.ls ++ [(x.n.1, (⟨shT x.op, A2, c2, gs⟩ : Shp))]).flatMap latC) := by
            have hL : (o.ls ++ [(x.n.1, (⟨shT x.op, A2, c2, gs⟩ : Shp))]).length = o.ls.length + 1 := by simp
            have hF : (o.ls ++ [(x.n.1, (⟨shT x.op, A2, c2, gs⟩ : Shp))]).flatMap latC = o.ls.flatMap latC ++ [.string x.n.1, .bool (shT x.op), .slice A2 gs.length c2] := by simp [latC]
            rw [hL, hF]; exact ownS_far HOW6.out HRWu3.out HTY1.out _ _
          have hS9 : Below w1.heap.size w1 (u3.setCell ⟨g5, 0, none⟩ (.slice A6 (o.ls.length + 1) d6)) := HSu3.out.setCell (p := ⟨g5, 0, none⟩) HG5.out _
          have HO9 : Hid (OutS w1 (u3.setCell ⟨g5, 0, none⟩ (.slice A6 (o.ls.length + 1) d6)) g5 ⟨A6, d6, o.ls ++ [(x.n.1, (⟨shT x.op, A2, c2, gs⟩ : Shp))], o.VA, o.vc, o.vs⟩) := zh ⟨hR9, hL9, ownS_far HVWu3.out HRWu3.out HTY2.out _ _, hS9⟩
          have HK9 : Hid (ShKeep w w1 (u3.setCell ⟨g5, 0, none⟩ (.slice A6 (o.ls.length + 1) d6)) A2 gs) := zh fun W2 h2 hk => HKP.out W2 h2 fun b h3 h4 => (hk b (zM HGC.out h3) (by have := (HNWu3.out.set HGG.out 0 (.slice A6 (o.ls.length + 1) d6)).size; exact zT h4 this)).trans ((HNWu3.out.set HGG.out 0 (.slice A6 (o.ls.length + 1) d6)).blk b h3 h4)
          clear hR9 hL9 hS9
          go_simp
          refine hK.out _ _ HO9.out.low ?_
          clear hK K m0 f0
          (try simp only [Act.put, zA4, zA5, zA6])
          generalize (u3.setCell ⟨g5, 0, none⟩ (.slice A6 (o.ls.length + 1) d6)) = u9 at *
          refine wpOU_done ?_
          go_wp2
          go_meet
          case rel => exact ⟨A6, d6, A2, c2, gs, HO9, HK9, HNL, HCR⟩
         ·(refine wpOU_solo (zO rfl) ?_)
          intro K hK
          go_simp
          have hb : Below u1.heap.size u1 (u1.alloc (.cells #[.string x.n.1, .bool (shT x.op), .slice A2 gs.length c2] 53)) := (zB _ _).alloc (zL _) _
          have HBSu2 := zh (RowAt.new u1 53 #[.string x.n.1, .bool (shT x.op), .slice A2 gs.length c2])
          have HOu2 := zh (HOu1.out.below hb)
          have HNWu2 := zh (HNWu1.out.below hb)
          clear hb
          refine hK.out _ _ HOu2.out.low ?_
          clear hK K
          (try simp only [Act.put, zA4, zA5, zA6])
          generalize hgb : u1.heap.size = gb at HBSu2 ⊢
          generalize (u1.alloc (.cells #[.string x.n.1, .bool (shT x.op), .slice A2 gs.length c2] 53)) = u2 at *
          clear hgb
          (refine wpOU_solo (zO rfl) ?_)
          intro K hK
          have cc := (HOu2.out.row.cell 0).trans (show (scv o)[0]? = some (.slice o.LA o.ls.length o.lc) from rfl)
          go_simp
          clear cc
          refine hK.out _ _ HOu2.out.low ?_
          clear hK K
          (try simp only [Act.put, zA4, zA5, zA6])
          (refine wpOU_solo (zO rfl) ?_)
          intro K hK
          rw [if_pos (by rfl)]
          refine wp_moreS _ _ 22 rfl 53 (.agg #[.string ⟨#[]⟩, .bool false, .slice none 0 0]) 3 48 Tryz.underlying22 infoLatS rfl (by decide) w1.heap.size o.LA o.ls.length o.lc (o.ls.flatMap latC) rfl HOu2.out.lown gb [.string x.n.1, .bool (shT x.op), .slice A2 gs.length c2] rfl rfl (fun j u hu => (HBSu2.out.cell j).trans (by simpa using hu)) (by intro u hu; simp at hu; rcases hu with rfl | rfl | rfl <;> rfl) (by simp only [maxLen]; have := HLL.out; omega) (by have := HLL.out; omega) HOu2.out.low.size ?_
          intro A6 d6 u3 hown6 hb6 hg6 hat6
          have HSu3 := zh (HOu2.out.low.trans hb6)
          have HOW6 := zh hown6
          have HRWu3 := zh (HOu2.out.row.grown hg6 (own_ne2 HOu2.out.lown HOu2.out.row HTY1.out))
          have HVWu3 := zh (own_grown HOu2.out.vown hg6 fun k hk => own_ne3 HOu2.out.vown HOu2.out.lown HTY4.out hk)
          have HNWu3 := zh (HNWu2.out.grown hg6 HLB.out)
          clear hown6 hb6 hg6 hat6
          refine hK.out _ _ HSu3.out ?_
          clear hK K
          (try simp only [Act.put, zA4, zA5, zA6])
          iterate 1
            (refine wpOU_step (zO rfl) ?_)
            (first
                 | (refine wpOU_skip (by rfl) ?_)
                 | (refine wpOU_take (by rfl) (take_row _ _ rfl w.heap.size rfl _ _ _ C1 Tryz.underlying25 rfl (by kernel_rfl)) ?_)
                 | (refine wpOU_take (by rfl) (take_row _ _ rfl (w.heap.size + 1) rfl _ _ _ C2 Tryz.underlying34 rfl HCI.out) ?_)
                 | (refine wpOU_take (v := ?_) (by rfl) ?_ ?_; rotate_left 1; (intro wx hSx; have hc_0 := C0 wx hSx; go_simp; try with_reducible rfl)))
            (try simp only [Act.put, zA4, zA5, zA6])
          (refine wpOU_solo (zO rfl) ?_)
          intro K hK
          have m0 := (HRWu3.out.cell 0).trans (show (scv o)[0]? = some (.slice o.LA o.ls.length o.lc) from rfl)
          have f0 := HRWu3.out.free 0
          have hR9 : RowAt (u3.setCell ⟨g5, 0, none⟩ (.slice A6 (o.ls.length + 1) d6)) g5 25 (scv ⟨A6, d6, o.ls ++ [(x.n.1, (⟨shT x.op, A2, c2, gs⟩ : Shp))], o.VA, o.vc, o.vs⟩) := by
            have h := HRWu3.out.put 0 (.slice A6 (o.ls.length + 1) d6)
            have e : (scv o).setIfInBounds 0 (.slice A6 (o.ls.length + 1) d6) = scv ⟨A6, d6, o.ls ++ [(x.n.1, (⟨shT x.op, A2, c2, gs⟩ : Shp))], o.VA, o.vc, o.vs⟩ := by simp [scv]
            rw [← e]; exact h
          have hL9 : (u3.setCell ⟨g5, 0, none⟩ (.slice A6 (o.ls.length + 1) d6)).ownsRow w1.heap.size 53 3 (.slice A6 (o.ls ++ [(x.n.1, (⟨shT x.op, A2, c2, gs⟩ : Shp))]).length d6) (o.ls ++ [(x.n.1, (⟨shT x.op, A2, c2, gs⟩ : Shp))]).length ((o.ls ++ [(x.n.1, (⟨shT x.op, A2, c2, gs⟩ : Shp))]).flatMap latC) := by
            have hL : (o.ls ++ [(x.n.1, (⟨shT x.op, A2, c2, gs⟩ : Shp))]).length = o.ls.length + 1 := by simp
            have hF : (o.ls ++ [(x.n.1, (⟨shT x.op, A2, c2, gs⟩ : Shp))]).flatMap latC = o.ls.flatMap latC ++ [.string x.n.1, .bool (shT x.op), .slice A2 gs.length c2] := by simp [latC]
            rw [hL, hF]; exact ownS_far HOW6.out HRWu3.out HTY1.out _ _
          have hS9 : Below w1.heap.size w1 (u3.setCell ⟨g5, 0, none⟩ (.slice A6 (o.ls.length + 1) d6)) := HSu3.out.setCell (p := ⟨g5, 0, none⟩) HG5.out _
          have HO9 : Hid (OutS w1 (u3.setCell ⟨g5, 0, none⟩ (.slice A6 (o.ls.length + 1) d6)) g5 ⟨A6, d6, o.ls ++ [(x.n.1, (⟨shT x.op, A2, c2, gs⟩ : Shp))], o.VA, o.vc, o.vs⟩) := zh ⟨hR9, hL9, ownS_far HVWu3.out HRWu3.out HTY2.out _ _, hS9⟩
          have HK9 : Hid (ShKeep w w1 (u3.setCell ⟨g5, 0, none⟩ (.slice A6 (o.ls.length + 1) d6)) A2 gs) := zh fun W2 h2 hk => HKP.out W2 h2 fun b h3 h4 => (hk b (zM HGC.out h3) (by have := (HNWu3.out.set HGG.out 0 (.slice A6 (o.ls.length + 1) d6)).size; exact zT h4 this)).trans ((HNWu3.out.set HGG.out 0 (.slice A6 (o.ls.length + 1) d6)).blk b h3 h4)
          clear hR9 hL9 hS9
          go_simp
          refine hK.out _ _ HO9.out.low ?_
          clear hK K m0 f0
          (try simp only [Act.put, zA4, zA5, zA6])
          generalize (u3.setCell ⟨g5, 0, none⟩ (.slice A6 (o.ls.length + 1) d6)) = u9 at *
          refine wpOU_done ?_
          go_wp2
          go_meet
          case rel => exact ⟨A6, d6, A2, c2, gs, HO9, HK9, HNL, HCR⟩
   case rest =>
        obtain ⟨A6, d6, A2, c2, gs, HO, HK, HNL, HCR⟩ := hcut
        have HSM : Hid (gs.length ≤ 65536 ∧ ∀ g ∈ gs, g.names.length ≤ 65536) := zh (by
         obtain ⟨k1, k2⟩ := HSML.out
         exact ⟨by rw [core_len HCR.out]; exact k1, core_names HCR.out k2⟩)
        obtain ⟨o2, ho2⟩ : ∃ o2 : Sc, o2 = ⟨A6, d6, o.ls ++ [(x.n.1, (⟨shT x.op, A2, c2, gs⟩ : Shp))], o.VA, o.vc, o.vs⟩ := ⟨_, rfl⟩
        rw [← ho2] at HO
        have HL2 : Hid (o2.ls = o.ls ++ [(x.n.1, (⟨shT x.op, A2, c2, gs⟩ : Shp))]) := zh (by rw [ho2])
        have HV2 : Hid (o2.vs = o.vs) := zh (by rw [ho2])
        clear ho2
        have HB2 : Hid (∀ W, Below w.heap.size w W → Facs W A2 gs → (∀ l ∈ o2.ls, ShOk W l.2) ∧ o2.ls.length ≤ 65536 ∧ o2.vs.length ≤ 65536 ∧ (∀ x ∈ o2.lnms, x.size ≤ maxLen) ∧ (∀ x ∈ o2.vnms, x.size ≤ maxLen)) := zh fun W hW hf => by
         obtain ⟨k1, k2, k3, k4, k5⟩ := HB0.out W hW
         unfold Sc.lnms at k4 ⊢
         unfold Sc.vnms at k5 ⊢
         rw [HL2.out, HV2.out]
         refine ⟨fun l hl => ?_, ?_, k3, fun t ht => ?_, k5⟩
         ·rcases List.mem_append.1 hl with h | h
          ·exact k1 l h
          ·obtain rfl : l = (x.n.1, (⟨shT x.op, A2, c2, gs⟩ : Shp)) := by simpa using h
           exact ⟨hf, HNL.out, HSM.out.1, HSM.out.2⟩
         ·have := HLL.out
          rw [zA7]; simp; omega
         ·rw [List.map_append] at ht
          rcases List.mem_append.1 ht with h | h
          ·exact k4 t h
          ·obtain rfl : t = x.n.1 := by simpa using h
           exact HNM.out
        have HE2 : Hid (o2.ls.map lcore = s.ls.map lcore ++ [(x.n.1, shT x.op, (shF s x).map core)]) := zh (by
         rw [HL2.out, List.map_append, HOL.out]
         have := HCR.out
         simp [lcore, this])
        have HZ9 := zh (HRZ.out.below HO.out.low HRZ.out.lt)
        have HOR := zh HO.out.row
        go_wp2_with (first
         | (refine wpList_loadS (by rfl) _ _ rfl g5 rfl _ _ _ HOR.out Tryz.underlying25 rfl (by kernel_rfl) ?_)
         | (refine wpList_stRow (by rfl) _ _ _ rfl (w.heap.size + 1 + 1) (scv (o2)) rfl rfl _ _ HZ9.out (by kernel_rfl) rfl (by simp [scv, Value.oneCell']) ?_; intro wz rz he))
        have hbz : Below w.heap.size w wz := HB.out.trans ((HO.out.low.mono (by have := HZL.out; omega)).trans (he.below (by omega)))
        have hkz : ∀ b, w1.heap.size ≤ b → b < wc.heap.size → wz.heap[b]? = wc.heap[b]? := fun b h1 _ => he.block b (by have := HZL.out; omega)
        exact bodyPost_ret (retRow rfl _ _ (w.heap.size + 1 + 1) _ _ (0, 0) _ rfl rz Tryz.underlying25 rfl (by kernel_rfl)) rfl (HQ.out _ _ ⟨o2, rfl, out_ok HO.out hkz (HB2.out wz hbz (HK.out wz hbz hkz)), HE2.out, by rw [HV2.out, HOV.out], hbz⟩)
  ·have hop : x.op = 6 ∨ x.op = 7 := by omega
   have hdl : dLat x.op = false := by unfold dLat; rw [decide_eq_false_iff_not]; omega
   have hdv : dVar x.op = true := by unfold dVar; rw [decide_eq_true_eq]; exact hop
   have hal : addL s x = s.ls.map lcore := by rw [HAL.out, hdl, Bool.and_false]; simp
   have hav : addV s x = s.vs ++ x.ws.map fun y => (y.1, kindN x.op, idx s.lnms x.n.1) := by rw [HAV.out, zE HF0.out, hdv]; rfl
   rw [hal, hav] at HQ
   clear hal hav HAL HAV hdl hdv
   have HKD : Hid (kindN x.op = if x.op = 7 then 2 else 1) := zh (by
        unfold kindN
        rcases hop with e | e <;> rw [e] <;> rfl)
   generalize hkd : kindN x.op = kd at *
   clear hkd
   go_upto_if 54 with fail
   clear h1 h7
   go_cut [6] from 52 to 54 (fun v wx => v = .int .i64 kd ∧ wx = wq)
   case first =>
        by_cases h7 : x.op = 7
        ·have q7 : (x.op == 7) = true := by simp [h7]
         have hk := HKD.out
         rw [if_pos h7] at hk
         clear h7 h5 hop
         go_wp2_with fail
         go_meet
         case rel => exact ⟨by rw [hk], rfl⟩
        ·have q7 : (x.op == 7) = false := by simp [h7]
         have hk := HKD.out
         rw [if_neg h7] at hk
         clear h7 h5 hop
         go_wp2_with fail
         go_meet
         case rel => exact ⟨by rw [hk], rfl⟩
   case rest =>
        obtain ⟨rfl, hwc⟩ := hcut
        subst hwc
        clear d0 h5 hop
        have hwn : x.ws.length ≤ 65536 := by have := HVL0.out; omega
        have HVS : Hid (o.vs.length + x.ws.length ≤ 65536) := zh (by rw [HOV.out]; exact HVL0.out)
        generalize hn : x.ws.length = n at *
        have HN := zh hn; clear hn
        obtain ⟨vf, hvf9⟩ : ∃ vf : ByteArray × Int → ByteArray × Int × Int, vf = fun y => (y.1, kd, idx s.lnms x.n.1) := ⟨_, rfl⟩
        have hvf2 : (fun y : ByteArray × Int => (y.1, kd, idx s.lnms x.n.1)) = vf := hvf9.symm
        rw [hvf2] at HQ
        have HVF : Hid (∀ y, vf y = (y.1, kd, idx s.lnms x.n.1)) := zh fun y => by rw [hvf9]
        clear hvf9 hvf2
        go_upto_region 13 with fail
        go_loopw [7] (fun iv wr => ∃ (i : Nat) (VA : Option Addr) (vc : Nat), i ≤ n ∧ iv = .int .i64 i ∧ Hid (OutS w1 wr g5 ⟨o.LA, o.lc, o.ls, VA, vc, o.vs ++ (x.ws.take i).map vf⟩)) (fun iv _ => n - (intOf iv).toNat)
        case atStart => first | exact ⟨0, o.VA, o.vc, by omega, rfl, zh (by simpa using HO.out)⟩ | exact ⟨0, by omega, rfl, o.VA, o.vc, zh (by simpa using HO.out)⟩
        case round =>
         obtain ⟨i, VA, vc, hi, rfl, HO⟩ := hrel
         have d4 := (cd_cells (HRC.out.below HO.out.low HRC.out.lt)).2.2.2.2.1
         rw [HN.out] at d4
         have HTAKE : Hid (i < n → (x.ws.take (i + 1)).map vf = (x.ws.take i).map vf ++ [vf (x.ws.getD i wd0)]) := zh fun hlt => by
          rw [List.take_succ_eq_append_getElem (by rw [HN.out]; exact hlt), List.map_append, List.getD_eq_getElem?_getD, List.getElem?_eq_getElem (by rw [HN.out]; exact hlt)]
          rfl
         have HTL : Hid (((x.ws.take i).map vf).length ≤ i) := zh (by rw [List.length_map, List.length_take]; omega)
         by_cases hlt : i < n
         ·have HWS : Hid (Below w.heap.size w wr) := zh (HB.out.trans (HO.out.low.mono HSZ.out))
          obtain ⟨b, of, hA, hcw, _⟩ := word_at (HXf.out _ HWS.out) HWS.out.size (k := i) (by rw [HN.out]; exact hlt)
          have HXW := zh (HXf.out w (zB _ _))
          obtain ⟨b2, of2, hA2, hcw2, _⟩ := word_at HXW.out (zL _) (k := i) (by rw [HN.out]; exact hlt)
          rw [hA] at hA2
          injection hA2 with hA2
          injection hA2 with e1 e2
          subst e1 e2
          have hbl := World.block_lt_of_cell? _ _ hcw2
          rw [hA] at d4
          have HA := zh hA; clear hA
          have hin : (i : Int) < (n : Int) := by omega
          have hvi := HVF.out (x.ws.getD i wd0)
          have htk := HTAKE.out hlt
          rw [hvi] at htk
          have HTK := zh htk; clear htk hvi HTAKE
          have C0 : ∀ W, Below w1.heap.size w1 W → W.cell? ⟨w.heap.size + 1, 2, none⟩ = some (.string x.n.1) := fun W hW => (cd_cells (HRC.out.below hW HRC.out.lt)).2.2.1
          have C4 : ∀ W, Below w1.heap.size w1 W → W.cell? ⟨w.heap.size + 1, 4, none⟩ = some (.slice (some ⟨b, of, none⟩) n x.c) := fun W hW => by
            have h := (cd_cells (HRC.out.below hW HRC.out.lt)).2.2.2.2.1
            rw [HN.out, HA.out] at h; exact h
          have C1 : ∀ W, Below w1.heap.size w1 W → RowAt W w.heap.size 25 (scv s) := fun W hW => HRS.out.below hW HRS.out.lt
          have CN : ∀ W, Below w1.heap.size w1 W → W.cell? ⟨b, of + i * 2, none⟩ = some (.string (x.ws.getD i wd0).1) := fun W hW => ((HB.out.trans (hW.mono HSZ.out)).cell (p := ⟨b, of + i * 2, none⟩) hbl).trans hcw2
          clear hcw hcw2
          generalize (x.ws.getD i wd0).1 = nm at *
          have HO1 := HO
          generalize ho3 : (⟨o.LA, o.lc, o.ls, VA, vc, o.vs ++ (x.ws.take i).map vf⟩ : Sc) = o3 at HO1
          have HO3 := zh ho3; clear ho3
          have HVL : Hid (o3.vs.length ≤ 65535) := zh (by rw [← HO3.out]; show (o.vs ++ (x.ws.take i).map vf).length ≤ 65535; rw [zA7]; have := HVS.out; have := HTL.out; omega)
          have HOu0 : Hid (OutS w1 wr.drew g5 o3) := zh (HO1.out.below (zB _ _).drew)
          go_upto_region 15 with fail
          clear d4
          refine wp_region_ou (fun W => Below w1.heap.size w1 W) ((.take 0 (.take 2 (.take 3 (.take 4 (.take 5 (.take 6 (.take 7 (.take 8 (.take 9 (.take 10 (.take 11 (.take 12 (.two 1 (.solo 13 (.take 14 (.solo 15 (.solo 16 (.take 17 (.solo 18 .nil)))))) 13 (.take 14 (.two 1 (.solo 15 (.solo 16 (.take 17 (.solo 18 .nil)))) 15 (.solo 1 (.solo 16 (.take 17 (.solo 18 .nil)))))))))))))))))))) (by kernel_rfl) (by kernel_rfl) rfl (by kernel_rfl) HOu0.out.low ?_
          generalize wr.drew = u0 at HOu0 ⊢
          iterate 12
            (refine wpOU_step (zO rfl) ?_)
            (first
                  | (refine wpOU_skip (by rfl) ?_)
                  | (refine wpOU_take (by rfl) (take_row _ _ rfl w.heap.size rfl _ _ _ C1 Tryz.underlying25 rfl (by kernel_rfl)) ?_)
                  | (refine wpOU_take (v := ?_) (by rfl) ?_ ?_; rotate_left 1; (intro wx hSx; have hc_0 := C0 wx hSx; have hc_1 := C4 wx hSx; have hc_2 := CN wx hSx; go_simp; try with_reducible rfl)))
            (try simp only [Act.put, zA4, zA5, zA6])
          refine wpOU_two ?_ ?_
          ·(refine wpOU_solo (zO rfl) ?_)
           intro K hK
           have cc := (HOu0.out.row.cell 1).trans (show (scv o3)[1]? = some (.slice o3.VA o3.vs.length o3.vc) from rfl)
           go_simp
           clear cc
           refine hK.out _ _ HOu0.out.low ?_
           clear hK K
           (try simp only [Act.put, zA4, zA5, zA6])
           (refine wpOU_solo (zO rfl) ?_)
           intro K hK
           go_simp
           go_at_call 61
           refine (refLat_any s x.n.1 u0 (HOKf.out _ (HB.out.trans (HOu0.out.low.mono HSZ.out)))).mono ?_
           rintro e u1 ⟨rfl, hb⟩
           have HOu1 := zh (HOu0.out.below hb)
           clear hb
           refine hK.out _ _ HOu1.out.low ?_
           clear hK K
           (try simp only [Act.put, zA4, zA5, zA6])
           iterate 1
             (refine wpOU_step (zO rfl) ?_)
             (first
                    | (refine wpOU_skip (by rfl) ?_)
                    | (refine wpOU_take (by rfl) (take_row _ _ rfl w.heap.size rfl _ _ _ C1 Tryz.underlying25 rfl (by kernel_rfl)) ?_)
                    | (refine wpOU_take (v := ?_) (by rfl) ?_ ?_; rotate_left 1; (intro wx hSx; have hc_0 := C0 wx hSx; have hc_1 := C4 wx hSx; have hc_2 := CN wx hSx; go_simp; try with_reducible rfl)))
             (try simp only [Act.put, zA4, zA5, zA6])
           (refine wpOU_solo (zO rfl) ?_)
           intro K hK
           go_simp
           have hb : Below u1.heap.size u1 (u1.alloc (.cells #[.string nm, .int .i64 kd, .int .i64 (idx s.lnms x.n.1)] 55)) := (zB _ _).alloc (zL _) _
           have HBSu2 := zh (RowAt.new u1 55 #[.string nm, .int .i64 kd, .int .i64 (idx s.lnms x.n.1)])
           have HOu2 := zh (HOu1.out.below hb)
           clear hb
           refine hK.out _ _ HOu2.out.low ?_
           clear hK K
           (try simp only [Act.put, zA4, zA5, zA6])
           generalize hgb : u1.heap.size = gb at HBSu2 ⊢
           generalize (u1.alloc (.cells #[.string nm, .int .i64 kd, .int .i64 (idx s.lnms x.n.1)] 55)) = u2 at *
           clear hgb
           (refine wpOU_solo (zO rfl) ?_)
           intro K hK
           rw [if_pos (by rfl)]
           refine wp_moreS _ _ 23 rfl 55 (.agg #[.string ⟨#[]⟩, .int .i64 0, .int .i64 0]) 3 32 Tryz.underlying23 infoVarS rfl (by decide) w1.heap.size o3.VA o3.vs.length o3.vc (o3.vs.flatMap varC) rfl HOu2.out.vown gb [.string nm, .int .i64 kd, .int .i64 (idx s.lnms x.n.1)] rfl rfl (fun j u hu => (HBSu2.out.cell j).trans (by simpa using hu)) (by intro u hu; simp at hu; rcases hu with rfl | rfl | rfl <;> rfl) (by simp only [maxLen]; have := HVL.out; omega) (by have := HVL.out; omega) HOu2.out.low.size ?_
           intro A6 d6 u3 hown6 hb6 hg6 hat6
           have HSu3 := zh (HOu2.out.low.trans hb6)
           have HOW6 := zh hown6
           have HRWu3 := zh (HOu2.out.row.grown hg6 (own_ne2 HOu2.out.vown HOu2.out.row HTY2.out))
           have HLWu3 := zh (own_grown HOu2.out.lown hg6 fun k hk => own_ne3 HOu2.out.lown HOu2.out.vown (fun e => HTY4.out e.symm) hk)
           clear hown6 hb6 hg6 hat6
           refine hK.out _ _ HSu3.out ?_
           clear hK K
           (try simp only [Act.put, zA4, zA5, zA6])
           iterate 1
             (refine wpOU_step (zO rfl) ?_)
             (first
                    | (refine wpOU_skip (by rfl) ?_)
                    | (refine wpOU_take (by rfl) (take_row _ _ rfl w.heap.size rfl _ _ _ C1 Tryz.underlying25 rfl (by kernel_rfl)) ?_)
                    | (refine wpOU_take (v := ?_) (by rfl) ?_ ?_; rotate_left 1; (intro wx hSx; have hc_0 := C0 wx hSx; have hc_1 := C4 wx hSx; have hc_2 := CN wx hSx; go_simp; try with_reducible rfl)))
             (try simp only [Act.put, zA4, zA5, zA6])
           (refine wpOU_solo (zO rfl) ?_)
           intro K hK
           have m0 := (HRWu3.out.cell 1).trans (show (scv o3)[1]? = some (.slice o3.VA o3.vs.length o3.vc) from rfl)
           have f0 := HRWu3.out.free 1
           have hR9 : RowAt (u3.setCell ⟨g5, 1, none⟩ (.slice A6 (o3.vs.length + 1) d6)) g5 25 (scv ⟨o3.LA, o3.lc, o3.ls, A6, d6, o3.vs ++ [(nm, kd, idx s.lnms x.n.1)]⟩) := by
             have h := HRWu3.out.put 1 (.slice A6 (o3.vs.length + 1) d6)
             have e : (scv o3).setIfInBounds 1 (.slice A6 (o3.vs.length + 1) d6) = scv ⟨o3.LA, o3.lc, o3.ls, A6, d6, o3.vs ++ [(nm, kd, idx s.lnms x.n.1)]⟩ := by simp [scv]
             rw [← e]; exact h
           have hL9 : (u3.setCell ⟨g5, 1, none⟩ (.slice A6 (o3.vs.length + 1) d6)).ownsRow w1.heap.size 55 3 (.slice A6 (o3.vs ++ [(nm, kd, idx s.lnms x.n.1)]).length d6) (o3.vs ++ [(nm, kd, idx s.lnms x.n.1)]).length ((o3.vs ++ [(nm, kd, idx s.lnms x.n.1)]).flatMap varC) := by
             have hL : (o3.vs ++ [(nm, kd, idx s.lnms x.n.1)]).length = o3.vs.length + 1 := by simp
             have hF : (o3.vs ++ [(nm, kd, idx s.lnms x.n.1)]).flatMap varC = o3.vs.flatMap varC ++ [.string nm, .int .i64 kd, .int .i64 (idx s.lnms x.n.1)] := by simp [varC]
             rw [hL, hF]; exact ownS_far HOW6.out HRWu3.out HTY2.out _ _
           have hS9 : Below w1.heap.size w1 (u3.setCell ⟨g5, 1, none⟩ (.slice A6 (o3.vs.length + 1) d6)) := HSu3.out.setCell (p := ⟨g5, 1, none⟩) HG5.out _
           have HO9 : Hid (OutS w1 (u3.setCell ⟨g5, 1, none⟩ (.slice A6 (o3.vs.length + 1) d6)) g5 ⟨o3.LA, o3.lc, o3.ls, A6, d6, o3.vs ++ [(nm, kd, idx s.lnms x.n.1)]⟩) := zh ⟨hR9, ownS_far HLWu3.out HRWu3.out HTY1.out _ _, hL9, hS9⟩
           clear hR9 hL9 hS9
           go_simp
           refine hK.out _ _ HO9.out.low ?_
           clear hK K m0 f0
           (try simp only [Act.put, zA4, zA5, zA6])
           generalize (u3.setCell ⟨g5, 1, none⟩ (.slice A6 (o3.vs.length + 1) d6)) = u9 at *
           refine wpOU_done ?_
           have HO10 : Hid (OutS w1 u9 g5 ⟨o.LA, o.lc, o.ls, A6, d6, o.vs ++ (x.ws.take (i + 1)).map vf⟩) := zh (by
             have h := HO9.out
             rw [← HO3.out] at h
             rw [HTK.out, ← List.append_assoc]; exact h)
           go_wp2_with fail
           go_roundw
           case rel => first | exact ⟨i + 1, A6, d6, by omega, by go_num, HO10⟩ | exact ⟨i + 1, by omega, by go_num, A6, d6, HO10⟩
           case measure => simp [intOf]; omega
          ·(refine wpOU_solo (zO rfl) ?_)
           intro K hK
           go_simp
           go_at_call 61
           refine (refLat_any s x.n.1 u0 (HOKf.out _ (HB.out.trans (HOu0.out.low.mono HSZ.out)))).mono ?_
           rintro e u1 ⟨rfl, hb⟩
           have HOu1 := zh (HOu0.out.below hb)
           clear hb
           refine hK.out _ _ HOu1.out.low ?_
           clear hK K
           (try simp only [Act.put, zA4, zA5, zA6])
           iterate 1
             (refine wpOU_step (zO rfl) ?_)
             (first
                    | (refine wpOU_skip (by rfl) ?_)
                    | (refine wpOU_take (by rfl) (take_row _ _ rfl w.heap.size rfl _ _ _ C1 Tryz.underlying25 rfl (by kernel_rfl)) ?_)
                    | (refine wpOU_take (v := ?_) (by rfl) ?_ ?_; rotate_left 1; (intro wx hSx; have hc_0 := C0 wx hSx; have hc_1 := C4 wx hSx; have hc_2 := CN wx hSx; go_simp; try with_reducible rfl)))
             (try simp only [Act.put, zA4, zA5, zA6])
           refine wpOU_two ?_ ?_
           ·(refine wpOU_solo (zO rfl) ?_)
            intro K hK
            have cc := (HOu1.out.row.cell 1).trans (show (scv o3)[1]? = some (.slice o3.VA o3.vs.length o3.vc) from rfl)
            go_simp
            clear cc
            refine hK.out _ _ HOu1.out.low ?_
            clear hK K
            (try simp only [Act.put, zA4, zA5, zA6])
            (refine wpOU_solo (zO rfl) ?_)
            intro K hK
            go_simp
            have hb : Below u1.heap.size u1 (u1.alloc (.cells #[.string nm, .int .i64 kd, .int .i64 (idx s.lnms x.n.1)] 55)) := (zB _ _).alloc (zL _) _
            have HBSu2 := zh (RowAt.new u1 55 #[.string nm, .int .i64 kd, .int .i64 (idx s.lnms x.n.1)])
            have HOu2 := zh (HOu1.out.below hb)
            clear hb
            refine hK.out _ _ HOu2.out.low ?_
            clear hK K
            (try simp only [Act.put, zA4, zA5, zA6])
            generalize hgb : u1.heap.size = gb at HBSu2 ⊢
            generalize (u1.alloc (.cells #[.string nm, .int .i64 kd, .int .i64 (idx s.lnms x.n.1)] 55)) = u2 at *
            clear hgb
            (refine wpOU_solo (zO rfl) ?_)
            intro K hK
            rw [if_pos (by rfl)]
            refine wp_moreS _ _ 23 rfl 55 (.agg #[.string ⟨#[]⟩, .int .i64 0, .int .i64 0]) 3 32 Tryz.underlying23 infoVarS rfl (by decide) w1.heap.size o3.VA o3.vs.length o3.vc (o3.vs.flatMap varC) rfl HOu2.out.vown gb [.string nm, .int .i64 kd, .int .i64 (idx s.lnms x.n.1)] rfl rfl (fun j u hu => (HBSu2.out.cell j).trans (by simpa using hu)) (by intro u hu; simp at hu; rcases hu with rfl | rfl | rfl <;> rfl) (by simp only [maxLen]; have := HVL.out; omega) (by have := HVL.out; omega) HOu2.out.low.size ?_
            intro A6 d6 u3 hown6 hb6 hg6 hat6
            have HSu3 := zh (HOu2.out.low.trans hb6)
            have HOW6 := zh hown6
            have HRWu3 := zh (HOu2.out.row.grown hg6 (own_ne2 HOu2.out.vown HOu2.out.row HTY2.out))
            have HLWu3 := zh (own_grown HOu2.out.lown hg6 fun k hk => own_ne3 HOu2.out.lown HOu2.out.vown (fun e => HTY4.out e.symm) hk)
            clear hown6 hb6 hg6 hat6
            refine hK.out _ _ HSu3.out ?_
            clear hK K
            (try simp only [Act.put, zA4, zA5, zA6])
            iterate 1
                  (refine wpOU_step (zO rfl) ?_)
                  (first
                   | (refine wpOU_skip (by rfl) ?_)
                   | (refine wpOU_take (by rfl) (take_row _ _ rfl w.heap.size rfl _ _ _ C1 Tryz.underlying25 rfl (by kernel_rfl)) ?_)
                   | (refine wpOU_take (v := ?_) (by rfl) ?_ ?_; rotate_left 1; (intro wx hSx; have hc_0 := C0 wx hSx; have hc_1 := C4 wx hSx; have hc_2 := CN wx hSx; go_simp; try with_reducible rfl)))
                  (try simp only [Act.put, zA4, zA5, zA6])
            (refine wpOU_solo (zO rfl) ?_)
            intro K hK
            have m0 := (HRWu3.out.cell 1).trans (show (scv o3)[1]? = some (.slice o3.VA o3.vs.length o3.vc) from rfl)
            have f0 := HRWu3.out.free 1
            have hR9 : RowAt (u3.setCell ⟨g5, 1, none⟩ (.slice A6 (o3.vs.length + 1) d6)) g5 25 (scv ⟨o3.LA, o3.lc, o3.ls, A6, d6, o3.vs ++ [(nm, kd, idx s.lnms x.n.1)]⟩) := by
                  have h := HRWu3.out.put 1 (.slice A6 (o3.vs.length + 1) d6)
                  have e : (scv o3).setIfInBounds 1 (.slice A6 (o3.vs.length + 1) d6) = scv ⟨o3.LA, o3.lc, o3.ls, A6, d6, o3.vs ++ [(nm, kd, idx s.lnms x.n.1)]⟩ := by simp [scv]
                  rw [← e]; exact h
            have hL9 : (u3.setCell ⟨g5, 1, none⟩ (.slice A6 (o3.vs.length + 1) d6)).ownsRow w1.heap.size 55 3 (.slice A6 (o3.vs ++ [(nm, kd, idx s.lnms x.n.1)]).length d6) (o3.vs ++ [(nm, kd, idx s.lnms x.n.1)]).length ((o3.vs ++ [(nm, kd, idx s.lnms x.n.1)]).flatMap varC) := by
                  have hL : (o3.vs ++ [(nm, kd, idx s.lnms x.n.1)]).length = o3.vs.length + 1 := by simp
                  have hF : (o3.vs ++ [(nm, kd, idx s.lnms x.n.1)]).flatMap varC = o3.vs.flatMap varC ++ [.string nm, .int .i64 kd, .int .i64 (idx s.lnms x.n.1)] := by simp [varC]
                  rw [hL, hF]; exact ownS_far HOW6.out HRWu3.out HTY2.out _ _
            have hS9 : Below w1.heap.size w1 (u3.setCell ⟨g5, 1, none⟩ (.slice A6 (o3.vs.length + 1) d6)) := HSu3.out.setCell (p := ⟨g5, 1, none⟩) HG5.out _
            have HO9 : Hid (OutS w1 (u3.setCell ⟨g5, 1, none⟩ (.slice A6 (o3.vs.length + 1) d6)) g5 ⟨o3.LA, o3.lc, o3.ls, A6, d6, o3.vs ++ [(nm, kd, idx s.lnms x.n.1)]⟩) := zh ⟨hR9, ownS_far HLWu3.out HRWu3.out HTY1.out _ _, hL9, hS9⟩
            clear hR9 hL9 hS9
            go_simp
            refine hK.out _ _ HO9.out.low ?_
            clear hK K m0 f0
            (try simp only [Act.put, zA4, zA5, zA6])
            generalize (u3.setCell ⟨g5, 1, none⟩ (.slice A6 (o3.vs.length + 1) d6)) = u9 at *
            refine wpOU_done ?_
            have HO10 : Hid (OutS w1 u9 g5 ⟨o.LA, o.lc, o.ls, A6, d6, o.vs ++ (x.ws.take (i + 1)).map vf⟩) := zh (by
                  have h := HO9.out
                  rw [← HO3.out] at h
                  rw [HTK.out, ← List.append_assoc]; exact h)
            go_wp2_with fail
            go_roundw
            case rel => first | exact ⟨i + 1, A6, d6, by omega, by go_num, HO10⟩ | exact ⟨i + 1, by omega, by go_num, A6, d6, HO10⟩
            case measure => simp [intOf]; omega
           ·(refine wpOU_solo (zO rfl) ?_)
            intro K hK
            go_simp
            have hb : Below u1.heap.size u1 (u1.alloc (.cells #[.string nm, .int .i64 kd, .int .i64 (idx s.lnms x.n.1)] 55)) := (zB _ _).alloc (zL _) _
            have HBSu2 := zh (RowAt.new u1 55 #[.string nm, .int .i64 kd, .int .i64 (idx s.lnms x.n.1)])
            have HOu2 := zh (HOu1.out.below hb)
            clear hb
            refine hK.out _ _ HOu2.out.low ?_
            clear hK K
            (try simp only [Act.put, zA4, zA5, zA6])
            generalize hgb : u1.heap.size = gb at HBSu2 ⊢
            generalize (u1.alloc (.cells #[.string nm, .int .i64 kd, .int .i64 (idx s.lnms x.n.1)] 55)) = u2 at *
            clear hgb
            (refine wpOU_solo (zO rfl) ?_)
            intro K hK
            have cc := (HOu2.out.row.cell 1).trans (show (scv o3)[1]? = some (.slice o3.VA o3.vs.length o3.vc) from rfl)
            go_simp
            clear cc
            refine hK.out _ _ HOu2.out.low ?_
            clear hK K
            (try simp only [Act.put, zA4, zA5, zA6])
            (refine wpOU_solo (zO rfl) ?_)
            intro K hK
            rw [if_pos (by rfl)]
            refine wp_moreS _ _ 23 rfl 55 (.agg #[.string ⟨#[]⟩, .int .i64 0, .int .i64 0]) 3 32 Tryz.underlying23 infoVarS rfl (by decide) w1.heap.size o3.VA o3.vs.length o3.vc (o3.vs.flatMap varC) rfl HOu2.out.vown gb [.string nm, .int .i64 kd, .int .i64 (idx s.lnms x.n.1)] rfl rfl (fun j u hu => (HBSu2.out.cell j).trans (by simpa using hu)) (by intro u hu; simp at hu; rcases hu with rfl | rfl | rfl <;> rfl) (by simp only [maxLen]; have := HVL.out; omega) (by have := HVL.out; omega) HOu2.out.low.size ?_
            intro A6 d6 u3 hown6 hb6 hg6 hat6
            have HSu3 := zh (HOu2.out.low.trans hb6)
            have HOW6 := zh hown6
            have HRWu3 := zh (HOu2.out.row.grown hg6 (own_ne2 HOu2.out.vown HOu2.out.row HTY2.out))
            have HLWu3 := zh (own_grown HOu2.out.lown hg6 fun k hk => own_ne3 HOu2.out.lown HOu2.out.vown (fun e => HTY4.out e.symm) hk)
            clear hown6 hb6 hg6 hat6
            refine hK.out _ _ HSu3.out ?_
            clear hK K
            (try simp only [Act.put, zA4, zA5, zA6])
            iterate 1
                  (refine wpOU_step (zO rfl) ?_)
                  (first
                   | (refine wpOU_skip (by rfl) ?_)
                   | (refine wpOU_take (by rfl) (take_row _ _ rfl w.heap.size rfl _ _ _ C1 Tryz.underlying25 rfl (by kernel_rfl)) ?_)
                   | (refine wpOU_take (v := ?_) (by rfl) ?_ ?_; rotate_left 1; (intro wx hSx; have hc_0 := C0 wx hSx; have hc_1 := C4 wx hSx; have hc_2 := CN wx hSx; go_simp; try with_reducible rfl)))
                  (try simp only [Act.put, zA4, zA5, zA6])
            (refine wpOU_solo (zO rfl) ?_)
            intro K hK
            have m0 := (HRWu3.out.cell 1).trans (show (scv o3)[1]? = some (.slice o3.VA o3.vs.length o3.vc) from rfl)
            have f0 := HRWu3.out.free 1
            have hR9 : RowAt (u3.setCell ⟨g5, 1, none⟩ (.slice A6 (o3.vs.length + 1) d6)) g5 25 (scv ⟨o3.LA, o3.lc, o3.ls, A6, d6, o3.vs ++ [(nm, kd, idx s.lnms x.n.1)]⟩) := by
                  have h := HRWu3.out.put 1 (.slice A6 (o3.vs.length + 1) d6)
                  have e : (scv o3).setIfInBounds 1 (.slice A6 (o3.vs.length + 1) d6) = scv ⟨o3.LA, o3.lc, o3.ls, A6, d6, o3.vs ++ [(nm, kd, idx s.lnms x.n.1)]⟩ := by simp [scv]
                  rw [← e]; exact h
            have hL9 : (u3.setCell ⟨g5, 1, none⟩ (.slice A6 (o3.vs.length + 1) d6)).ownsRow w1.heap.size 55 3 (.slice A6 (o3.vs ++ [(nm, kd, idx s.lnms x.n.1)]).length d6) (o3.vs ++ [(nm, kd, idx s.lnms x.n.1)]).length ((o3.vs ++ [(nm, kd, idx s.lnms x.n.1)]).flatMap varC) := by
                  have hL : (o3.vs ++ [(nm, kd, idx s.lnms x.n.1)]).length = o3.vs.length + 1 := by simp
                  have hF : (o3.vs ++ [(nm, kd, idx s.lnms x.n.1)]).flatMap varC = o3.vs.flatMap varC ++ [.string nm, .int .i64 kd, .int .i64 (idx s.lnms x.n.1)] := by simp [varC]
                  rw [hL, hF]; exact ownS_far HOW6.out HRWu3.out HTY2.out _ _
            have hS9 : Below w1.heap.size w1 (u3.setCell ⟨g5, 1, none⟩ (.slice A6 (o3.vs.length + 1) d6)) := HSu3.out.setCell (p := ⟨g5, 1, none⟩) HG5.out _
            have HO9 : Hid (OutS w1 (u3.setCell ⟨g5, 1, none⟩ (.slice A6 (o3.vs.length + 1) d6)) g5 ⟨o3.LA, o3.lc, o3.ls, A6, d6, o3.vs ++ [(nm, kd, idx s.lnms x.n.1)]⟩) := zh ⟨hR9, ownS_far HLWu3.out HRWu3.out HTY1.out _ _, hL9, hS9⟩
            clear hR9 hL9 hS9
            go_simp
            refine hK.out _ _ HO9.out.low ?_
            clear hK K m0 f0
            (try simp only [Act.put, zA4, zA5, zA6])
            generalize (u3.setCell ⟨g5, 1, none⟩ (.slice A6 (o3.vs.length + 1) d6)) = u9 at *
            refine wpOU_done ?_
            have HO10 : Hid (OutS w1 u9 g5 ⟨o.LA, o.lc, o.ls, A6, d6, o.vs ++ (x.ws.take (i + 1)).map vf⟩) := zh (by
                  have h := HO9.out
                  rw [← HO3.out] at h
                  rw [HTK.out, ← List.append_assoc]; exact h)
            go_wp2_with fail
            go_roundw
            case rel => first | exact ⟨i + 1, A6, d6, by omega, by go_num, HO10⟩ | exact ⟨i + 1, by omega, by go_num, A6, d6, HO10⟩
            case measure => simp [intOf]; omega
         ·obtain rfl : i = n := by omega
          obtain ⟨o2, ho2⟩ : ∃ o2 : Sc, o2 = ⟨o.LA, o.lc, o.ls, VA, vc, o.vs ++ (x.ws.take i).map vf⟩ := ⟨_, rfl⟩
          rw [← ho2] at HO
          have hta : x.ws.take i = x.ws := List.take_of_length_le (by rw [HN.out]; exact zL _)
          rw [hta] at ho2
          have HL2 : Hid (o2.ls = o.ls) := zh (by rw [ho2])
          have HV2 : Hid (o2.vs = o.vs ++ x.ws.map vf) := zh (by rw [ho2])
          clear ho2 hta
          have HB2 : Hid (∀ W, Below w.heap.size w W → (∀ l ∈ o2.ls, ShOk W l.2) ∧ o2.ls.length ≤ 65536 ∧ o2.vs.length ≤ 65536 ∧ (∀ x ∈ o2.lnms, x.size ≤ maxLen) ∧ (∀ x ∈ o2.vnms, x.size ≤ maxLen)) := zh fun W hW => by
            obtain ⟨k1, k2, k3, k4, k5⟩ := HB0.out W hW
            unfold Sc.lnms at k4 ⊢
            unfold Sc.vnms at k5 ⊢
            rw [HL2.out, HV2.out]
            refine ⟨k1, k2, ?_, k4, fun t ht => ?_⟩
            ·have := HVS.out
             rw [zA7, List.length_map, HN.out]; omega
            ·rw [List.map_append] at ht
             rcases List.mem_append.1 ht with h | h
             ·exact k5 t h
             ·rw [List.map_map] at h
              obtain ⟨y, hy, rfl⟩ := List.mem_map.1 h
              have hwn := (HXf.out w (zB _ _)).wn y.1 (List.mem_map_of_mem hy)
              show (vf y).1.size ≤ maxLen
              rw [HVF.out]; exact hwn
          go_upto_region 16 with fail
          clear d4
          have HZ9 := zh (HRZ.out.below HO.out.low HRZ.out.lt)
          have HOR := zh HO.out.row
          go_wp2_with (first
            | (refine wpList_loadS (by rfl) _ _ rfl g5 rfl _ _ _ HOR.out Tryz.underlying25 rfl (by kernel_rfl) ?_)
            | (refine wpList_stRow (by rfl) _ _ _ rfl (w.heap.size + 1 + 1) (scv (o2)) rfl rfl _ _ HZ9.out (by kernel_rfl) rfl (by simp [scv, Value.oneCell']) ?_; intro wz rz he))
          have hbz : Below w.heap.size w wz := HB.out.trans ((HO.out.low.mono (by have := HZL.out; omega)).trans (he.below (by omega)))
          have hkz : ∀ b, w1.heap.size ≤ b → b < wr.heap.size → wz.heap[b]? = wr.heap[b]? := fun b h1 _ => he.block b (by have := HZL.out; omega)
          exact bodyPost_ret (retRow rfl _ _ (w.heap.size + 1 + 1) _ _ (0, 0) _ rfl rz Tryz.underlying25 rfl (by kernel_rfl)) rfl (HQ.out _ _ ⟨o2, rfl, out_ok HO.out hkz (HB2.out wz hbz), by rw [HL2.out, HOL.out], by rw [HV2.out, HOV.out], hbz⟩)
 ·have qf : ((faultF s x).1 != 0) = true := by simp [hf]
  have hal : addL s x = s.ls.map lcore := by rw [HAL.out, zF hf, Bool.false_and]; simp
  have hav : addV s x = s.vs := by rw [HAV.out, zF hf, Bool.false_and]; simp
  rw [hal, hav] at HQ
  clear hal hav HAL HAV hf
  generalize faultF s x = ff at *
  go_upto_region 5 with (first
   | (refine wpList_loadS (by first | rfl | kernel_rfl) 25 _ rfl w.heap.size rfl _ _ _ HRS4.out Tryz.underlying25 rfl (by kernel_rfl) ?_)
   | (refine wpList_loadS (by first | rfl | kernel_rfl) 34 _ rfl (w.heap.size + 1) rfl _ _ _ HRC4.out Tryz.underlying34 rfl HCI.out ?_)
   | (go_at_call 15; refine HFT.out.mono ?_; rintro e w4 ⟨rfl, hb4⟩; have HB4 := zh hb4; clear hb4))
  have HO := zh (HO.out.below HB4.out)
  clear d0 HRS4 HRC4 HFT hft qf
  have HZ9 := zh (HRZ.out.below HO.out.low HRZ.out.lt)
  have HOR := zh HO.out.row
  go_wp2_with (first
   | (refine wpList_loadS (by rfl) _ _ rfl g5 rfl _ _ _ HOR.out Tryz.underlying25 rfl (by kernel_rfl) ?_)
   | (refine wpList_stRow (by rfl) _ _ _ rfl (w.heap.size + 1 + 1) (scv (o)) rfl rfl _ _ HZ9.out (by kernel_rfl) rfl (by simp [scv, Value.oneCell']) ?_; intro wz rz he))
  have hbz : Below w.heap.size w wz := HB.out.trans ((HO.out.low.mono (by have := HZL.out; omega)).trans (he.below (by omega)))
  have hkz : ∀ b, w1.heap.size ≤ b → b < w4.heap.size → wz.heap[b]? = w4.heap[b]? := fun b h1 _ => he.block b (by have := HZL.out; omega)
  exact bodyPost_ret (retRow rfl _ _ (w.heap.size + 1 + 1) _ _ (0, 0) _ rfl rz Tryz.underlying25 rfl (by kernel_rfl)) rfl (HQ.out _ _ ⟨o, rfl, out_ok HO.out hkz (HB0.out wz hbz), by rw [HOL.out], HOV.out, hbz⟩)
end
section
open Go.RowKit RM
theorem qright_any (n : Int) (l : List Nat) (hl : RW l) (w : World) :
 Calls Tryz.prog 187 #[.agg (rv n l)] w fun e w' => e = .returned (.bool (rightB n l)) ∧ Below w.heap.size w w' := by
 have hr1 := RelAt.new w n l
 have hc0 := hr1.cell0
 have hb : Below w.heap.size w (w.alloc (.cells (rv n l) 95)) := (zB _ _).alloc (zL _) _
 have HB := zh hb; clear hb
 by_cases h1 : n < 1
 ·rw [right_no (.inl h1)]
  go_enter Tryz.func187, Tryz.ntmps187
  go_wp2_with fail
  go_ret
  exact ⟨rfl, HB.out⟩
 ·by_cases h2 : 8 < n
  ·rw [right_no (.inr (.inl h2))]
   have h3 : 1 ≤ n := by omega
   have h4 : decide (n ≤ 8) = false := by simp; omega
   go_enter Tryz.func187, Tryz.ntmps187
   go_wp2_with fail
   go_ret
   exact ⟨rfl, HB.out⟩
  ·rw [right_in (by omega) (by omega)]
   have HC : Hid (∀ w, Calls Tryz.prog 183 #[.agg (rv n l)] w fun e w' => e = .returned (.bool (closedB n l)) ∧ Below w.heap.size w w') := qclosed_any n l hl
   generalize closedB n l = b at *
   have h3 : 1 ≤ n := by omega
   have h4 : n ≤ 8 := by omega
   go_enter Tryz.func187, Tryz.ntmps187
   go_wp2_with (refine wpList_loadRel rfl _ rfl w.heap.size rfl n l hl hr1 ?_)
   refine (HC.out _).mono ?_
   rintro e w1 ⟨rfl, hb1⟩
   have HB1 := zh (HB.out.trans (hb1.mono (by simp))); clear hb1
   go_wp2_with fail
   go_ret
   exact ⟨by cases b <;> rfl, HB1.out⟩
end
section
open Go.RowKit RM
end
section
open Go.RowKit RM
end
section
open Go.RowKit RM
end
section
open Go.RowKit RM
end
section
open Go.RowKit RM
end
section
open Go.RowKit RM
theorem named_twice {xs : List ByteArray} (h : ¬ twc xs < 0) : namedB xs = false := by unfold namedB; rw [zF h, Bool.and_false]
theorem relB_3n {n : Int} {l : List Nat} {m : Nat} : relB 3 n l m = (decide (n = (m : Int)) && rightB n l) := by
 unfold relB
 rw [if_neg (by omega), if_pos rfl]
theorem relB_4n {n : Int} {l : List Nat} {m : Nat} : relB 4 n l m = (decide (n = (m : Int)) && latB n l) := by
 unfold relB
 rw [if_neg (by omega), if_neg (by omega), if_pos rfl]
theorem qfactor_any (f : Fac) (w : World) (hf : FacOk w f) :
 Calls Tryz.prog 140 #[.agg (fv f)] w fun e w' => e = .returned (.bool (facB f)) ∧ Below w.heap.size w w' := by
 have HTW : Hid (f.names.length ≤ 64 → ∀ W, Below w.heap.size w W → Calls Tryz.prog 80 #[.slice f.A f.names.length f.c] W fun e w' => e = .returned (.int .i64 (twc f.names)) ∧ W = w') := fun h W hb => refTwice_any _ _ _ W (by omega) (hf.strs.below hb)
 have HST : Hid (∀ W, Below w.heap.size w W → Strs W f.A f.names) := fun W h => hf.strs.below h
 have HPT : Hid (∀ w, Calls Tryz.prog 181 #[.agg (rv f.n f.l)] w fun e w' => e = .returned (.int .i64 ((pts f.n : Nat) : Int)) ∧ Below w.heap.size w w') := fun w => qpoints_any f.n f.l w
 have HGR : Hid (∀ w, Calls Tryz.prog 187 #[.agg (rv f.n f.l)] w fun e w' => e = .returned (.bool (rightB f.n f.l)) ∧ Below w.heap.size w w') := qright_any f.n f.l hf.rows
 have HLT : Hid (∀ w, Calls Tryz.prog 62 #[.agg (rv f.n f.l)] w fun e w' => e = .returned (.bool (latB f.n f.l)) ∧ Below w.heap.size w w') := qlattice_any f.n f.l hf.rows
 have hF : facB f = (namedB f.names && relB f.kind f.n f.l f.names.length) := rfl
 have hl := hf.rows
 have r0 := RowAt.new w 104 (fv f)
 have HB0 : Hid (Below w.heap.size w (w.alloc (.cells (fv f) 104))) := (zB _ _).alloc (zL _) _
 have HC : Hid (∀ W, RowAt W w.heap.size 104 (fv f) → W.cell? ⟨w.heap.size, 0, none⟩ = some (.int .i64 f.kind) ∧ W.cell? ⟨w.heap.size, 1, none⟩ = some (.slice f.A f.names.length f.c) ∧ W.cell? ⟨w.heap.size, 2, none⟩ = some (.int .i64 f.n) ∧ W.rangeAt w.heap.size 2 (rvl f.n f.l)) := fun W h => fac_cells h
 rw [hF]
 clear hF hf
 generalize fv f = V at *
 generalize f.kind = kd at *
 generalize f.n = n at *
 generalize f.l = l at *
 generalize f.A = A at *
 generalize f.c = c at *
 by_cases h1 : f.names.length < 1
 ·rw [named_low h1, Bool.false_and]
  obtain ⟨c0, c1, c2, c3⟩ := HC.out _ r0
  generalize f.names.length = m at *
  go_enter Tryz.func140, Tryz.ntmps140
  go_wp2_with fail
  go_ret
  exact ⟨rfl, HB0.out⟩
 ·by_cases h2 : 64 < f.names.length
  ·rw [named_high h2, Bool.false_and]
   obtain ⟨c0, c1, c2, c3⟩ := HC.out _ r0
   have h3 : 1 ≤ f.names.length := by omega
   clear h1
   generalize f.names.length = m at *
   go_enter Tryz.func140, Tryz.ntmps140
   go_wp2_with fail
   go_ret
   exact ⟨rfl, HB0.out⟩
  ·have h3 : 1 ≤ f.names.length := by omega
   have h4 : f.names.length ≤ 64 := by omega
   have HTW2 := zh (HTW.out h4)
   have hd1 : decide ((f.names.length : Int) < 1) = false := zF (by omega)
   have hd2 : decide (64 < (f.names.length : Int)) = false := zF (by omega)
   clear h1 h2 HTW
   by_cases h5 : twc f.names < 0
   ·have hd3 : decide (0 ≤ twc f.names) = false := zF (by omega)
    have HBAD : Hid (∀ k, k < f.names.length → NM.right (f.names.getD k ⟨#[]⟩) = false → namedB f.names = false) := fun k => named_bad
    have HEND : Hid ((∀ k, k < f.names.length → NM.right (f.names.getD k ⟨#[]⟩) = true) → namedB f.names = true) := fun h => by rw [named_end h3 h4 h, zE h5]
    have H12 : Hid (kd = 1 ∨ kd = 2 → relB kd n l f.names.length = ((pts n : Int) == 0)) := fun h => by rw [relB_12 h, pts_zero_eq]
    have H3 : Hid (kd = 3 → relB kd n l f.names.length = (decide (n = (f.names.length : Int)) && rightB n l)) := fun h => by rw [h]; exact relB_3n
    have H4 : Hid (kd = 4 → relB kd n l f.names.length = (decide (n = (f.names.length : Int)) && latB n l)) := fun h => by rw [h]; exact relB_4n
    have HNO : Hid (¬ kd = 1 → ¬ kd = 2 → ¬ kd = 3 → ¬ kd = 4 → relB kd n l f.names.length = false) := relB_no
    have H64 := zh h4
    clear h3 h4 h5
    generalize hrs : (namedB f.names && relB kd n l f.names.length) = res at *
    have HRES := zh hrs; clear hrs
    generalize relB kd n l f.names.length = rl at *
    generalize rightB n l = rb at *
    generalize latB n l = lb at *
    generalize pts n = p at *
    generalize twc f.names = tw at *
    generalize hm : f.names.length = m at *
    have HM := zh hm; clear hm
    obtain ⟨c0, c1, c2, c3⟩ := HC.out _ r0
    go_enter Tryz.func140, Tryz.ntmps140
    go_wp2_with fail
    refine (HTW2.out _ HB0.out).mono ?_
    rintro e wx ⟨rfl, rfl⟩
    go_wp2_with fail
    clear c0 c1 c2 c3 hd1 hd2 hd3
    go_loopw [4] (fun kv wr => ∃ k : Nat, k ≤ m ∧ kv = .int .i64 k ∧ RowAt wr w.heap.size 104 V ∧ Hid (∀ j, j < k → NM.right (f.names.getD j ⟨#[]⟩) = true) ∧ Hid (Below w.heap.size w wr)) (fun kv _ => m - (intOf kv).toNat)
    case atStart => exact ⟨0, by omega, rfl, r0, fun j hj => by omega, HB0⟩
    case round =>
     clear r0 HB0
     obtain ⟨k, hk, rfl, r1, HK, HB1⟩ := hrel
     have h64 := H64.out
     obtain ⟨c0, c1, c2, c3⟩ := HC.out _ r1
     by_cases hlt : k < m
     ·obtain ⟨b, o, hA, hc⟩ := (HST.out _ HB1.out).at (k := k) (by rw [HM.out]; exact hlt)
      have hck := hc k (by rw [HM.out]; exact hlt)
      rw [hA] at c1
      clear hc hA
      have HKN : Hid (NM.right (f.names.getD k ⟨#[]⟩) = true → ∀ j, j < k + 1 → NM.right (f.names.getD j ⟨#[]⟩) = true) := fun h j hj => by
           by_cases e : j = k
           ·subst e; exact h
           ·exact HK.out j (by omega)
      have HR := zh (HBAD.out k hlt)
      generalize f.names.getD k ⟨#[]⟩ = x at *
      go_wp2_with fail
      refine (refRight_any x _).mono ?_
      rintro e w2 ⟨rfl, hdr⟩
      have hb := hdr.below
      have r2 := r1.below hb r1.lt
      have HB2 := zh (HB1.out.trans (hb.mono HB1.out.size))
      clear hdr hb r1 HB1 c0 c1 c2 c3 hck
      cases hr : NM.right x with
      | false =>
        have HR2 : Hid (res = false) := by
             show res = false
             rw [← HRES.out, HR.out hr]; rfl
        clear hr HR HKN
        go_wp2_with fail
        go_ret
        exact ⟨ret_eq (bool_eq HR2.out.symm), HB2.out⟩
      | true =>
        have HKN2 := zh (HKN.out hr)
        clear hr HR HKN
        go_wp2_with fail
        go_roundw
        case rel => exact ⟨k + 1, by omega, by go_num, r2, HKN2, HB2⟩
        case measure => simp [intOf]; omega
     ·have e : k = m := by omega
      subst e
      have HRS : Hid (res = rl) := by
           show res = rl
           rw [← HRES.out, HEND.out HK.out]; rfl
      clear HRES HEND HBAD HK
      by_cases e1 : kd = 1
      ·have HR := zh (HRS.out.trans (H12.out (.inl e1)))
       clear H12 H3 H4 HNO HRS
       go_wp2_with (refine wpList_loadRelIn (by rfl) _ rfl w.heap.size 2 rfl n l hl c3 ?_)
       refine (HPT.out _).mono ?_
       rintro e w2 ⟨rfl, hb⟩
       have r2 := r1.below hb r1.lt
       have HB2 := zh (HB1.out.trans (hb.mono HB1.out.size))
       go_wp2_with fail
       go_ret
       exact ⟨ret_eq (bool_eq HR.out.symm), HB2.out⟩
      ·by_cases e2 : kd = 2
       ·have HR := zh (HRS.out.trans (H12.out (.inr e2)))
        clear H12 H3 H4 HNO HRS
        go_wp2_with (refine wpList_loadRelIn (by rfl) _ rfl w.heap.size 2 rfl n l hl c3 ?_)
        refine (HPT.out _).mono ?_
        rintro e w2 ⟨rfl, hb⟩
        have r2 := r1.below hb r1.lt
        have HB2 := zh (HB1.out.trans (hb.mono HB1.out.size))
        go_wp2_with fail
        go_ret
        exact ⟨ret_eq (bool_eq HR.out.symm), HB2.out⟩
       ·by_cases e3 : kd = 3
        ·have HR := zh (HRS.out.trans (H3.out e3))
         clear H12 H3 H4 HNO HRS
         by_cases hpm : n = (k : Int)
         ·have HR2 : Hid (res = rb) := by
           show res = rb
           rw [HR.out, zE hpm]; rfl
          clear HR
          have hpm2 : ((n == (k : Int)) = true) := by simpa using hpm
          clear hpm
          go_wp2_with (refine wpList_loadRelIn (by rfl) _ rfl w.heap.size 2 rfl n l hl c3 ?_)
          refine (HGR.out _).mono ?_
          rintro e w2 ⟨rfl, hb⟩
          have r2 := r1.below hb r1.lt
          have HB2 := zh (HB1.out.trans (hb.mono HB1.out.size))
          go_wp2_with fail
          go_ret
          exact ⟨ret_eq (bool_eq HR2.out.symm), HB2.out⟩
         ·have HR2 : Hid (res = false) := by
           show res = false
           rw [HR.out, zF hpm]; rfl
          clear HR
          go_wp2_with fail
          go_ret
          exact ⟨ret_eq (bool_eq HR2.out.symm), HB1.out⟩
        ·by_cases e4 : kd = 4
         ·have HR := zh (HRS.out.trans (H4.out e4))
          clear H12 H3 H4 HNO HRS
          by_cases hpm : n = (k : Int)
          ·have HR2 : Hid (res = lb) := by
            show res = lb
            rw [HR.out, zE hpm]; rfl
           clear HR
           have hpm2 : ((n == (k : Int)) = true) := by simpa using hpm
           clear hpm
           go_wp2_with (refine wpList_loadRelIn (by rfl) _ rfl w.heap.size 2 rfl n l hl c3 ?_)
           refine (HLT.out _).mono ?_
           rintro e w2 ⟨rfl, hb⟩
           have r2 := r1.below hb r1.lt
           have HB2 := zh (HB1.out.trans (hb.mono HB1.out.size))
           go_wp2_with fail
           go_ret
           exact ⟨ret_eq (bool_eq HR2.out.symm), HB2.out⟩
          ·have HR2 : Hid (res = false) := by
            show res = false
            rw [HR.out, zF hpm]; rfl
           clear HR
           go_wp2_with fail
           go_ret
           exact ⟨ret_eq (bool_eq HR2.out.symm), HB1.out⟩
         ·have HR := zh (HRS.out.trans (HNO.out e1 e2 e3 e4))
          clear H12 H3 H4 HNO HRS
          have k1 : (kd == 1) = false := by simpa using e1
          have k2 : (kd == 2) = false := by simpa using e2
          have k3 : (kd == 3) = false := by simpa using e3
          have k4 : (kd == 4) = false := by simpa using e4
          clear e1 e2 e3 e4
          go_wp2_with fail
          go_ret
          exact ⟨ret_eq (bool_eq HR.out.symm), HB1.out⟩
   ·rw [named_twice h5, Bool.false_and]
    have hd3 : decide (0 ≤ twc f.names) = true := zE (by omega)
    clear h5 h3 h4
    generalize twc f.names = tw at *
    obtain ⟨c0, c1, c2, c3⟩ := HC.out _ r0
    generalize f.names.length = m at *
    go_enter Tryz.func140, Tryz.ntmps140
    go_wp2_with fail
    refine (HTW2.out _ HB0.out).mono ?_
    rintro e wx ⟨rfl, rfl⟩
    go_wp2_with fail
    go_ret
    exact ⟨rfl, HB0.out⟩
end
section
open Go.RowKit RM
theorem qright7_any (t : Bool) (A : Option Addr) (c : Nat) (fs : List Fac) (w : World) (hF : Facs w A fs) :
 Calls Tryz.prog 78 #[.agg (sv t A fs.length c)] w fun e w' => e = .returned (.bool (rightS t fs)) ∧ Below w.heap.size w w' := by
 have r0 := RowAt.new w 45 (sv t A fs.length c)
 have HB0 : Hid (Below w.heap.size w (w.alloc (.cells (sv t A fs.length c) 45))) := (zB _ _).alloc (zL _) _
 have HS : Hid (∀ W, RowAt W w.heap.size 45 (sv t A fs.length c) → W.cell? ⟨w.heap.size, 0, none⟩ = some (.bool t) ∧ W.cell? ⟨w.heap.size, 1, none⟩ = some (.slice A fs.length c)) := fun W h => shape_cells h
 obtain ⟨c0, c1⟩ := HS.out _ r0
 generalize sv t A fs.length c = V at *
 by_cases h1 : fs.length < 1
 ·rw [rightS_low h1]
  clear hF
  generalize fs.length = n at *
  go_enter Tryz.func78, Tryz.ntmps78
  go_wp2_with fail
  go_ret
  exact ⟨rfl, HB0.out⟩
 ·have h3 : 1 ≤ fs.length := by omega
  by_cases h2 : 8 < fs.length
  ·rw [rightS_high h2]
   clear hF h1
   generalize fs.length = n at *
   go_enter Tryz.func78, Tryz.ntmps78
   go_wp2_with fail
   go_ret
   exact ⟨rfl, HB0.out⟩
  ·have h4 : fs.length ≤ 8 := by omega
   clear h1 h2
   have hd1 : decide ((fs.length : Int) < 1) = false := zF (by omega)
   have hd2 : decide (8 < (fs.length : Int)) = false := zF (by omega)
   by_cases h5 : t = false ∧ ¬ fs.length = 1
   ·obtain ⟨rfl, h6⟩ := h5
    rw [rightS_one h6]
    have hd3 : ((fs.length : Int) != 1) = true := by simp; omega
    clear hF h3 h4 h6
    generalize fs.length = n at *
    go_enter Tryz.func78, Tryz.ntmps78
    go_wp2_with fail
    go_ret
    exact ⟨rfl, HB0.out⟩
   ·have h7 : t = true ∨ fs.length = 1 := by
     cases t with
     | true => exact .inl rfl
     | false => exact .inr (by apply Classical.byContradiction; intro h; exact h5 ⟨rfl, h⟩)
    clear h5
    have HBAD : Hid (∀ k, k < fs.length → facB (fs.getD k f0) = false → rightS t fs = false) := fun k => rightS_bad
    have HEND : Hid ((∀ k, k < fs.length → facB (fs.getD k f0) = true) → rightS t fs = true) := rightS_end h3 h4 h7
    have HF : Hid (∀ W, Below w.heap.size w W → Facs W A fs) := fun W h => hF.below h
    clear hF
    have h8 : (t = false ∧ ((fs.length : Int) != 1) = false) ∨ t = true := by
     rcases h7 with rfl | h7
     ·exact .inr rfl
     ·cases t with
      | true => exact .inr rfl
      | false => exact .inl ⟨rfl, by simp; omega⟩
    generalize hn : fs.length = n at *
    have HN := zh hn; clear hn
    have H4 := zh h4
    clear h7 h3 h4
    generalize rightS t fs = res at *
    go_enter Tryz.func78, Tryz.ntmps78
    rcases h8 with ⟨rfl, hd3⟩ | rfl
    ·go_wp2_with fail
     clear c0 c1 hd1 hd2 hd3
     go_loopw [3] (fun kv wr => ∃ k : Nat, k ≤ n ∧ kv = .int .i64 k ∧ RowAt wr w.heap.size 45 V ∧ Hid (∀ j, j < k → facB (fs.getD j f0) = true) ∧ Hid (Below w.heap.size w wr)) (fun kv _ => n - (intOf kv).toNat)
     case atStart => exact ⟨0, by omega, rfl, r0, fun j hj => by omega, HB0⟩
     case round =>
          clear r0 HB0
          obtain ⟨k, hk, rfl, r1, HK, HB1⟩ := hrel
          have h4 := H4.out
          obtain ⟨c0, c1⟩ := HS.out _ r1
          by_cases hlt : k < n
          ·have hFk := HF.out _ HB1.out
           obtain ⟨b, o, rfl, _, hr⟩ := hFk.at (k := k) (by rw [HN.out]; exact hlt)
           have hrg := hr k (by rw [HN.out]; exact hlt)
           have hok := hFk.okAt (i := k) (by rw [HN.out]; exact hlt)
           have hl := hok.rows
           have HOK := zh hok
           clear hr hFk hok
           have HKN : Hid (facB (fs.getD k f0) = true → ∀ j, j < k + 1 → facB (fs.getD j f0) = true) := fun h j hj => by
            by_cases e : j = k
            ·subst e; exact h
            ·exact HK.out j (by omega)
           have HR := zh (HBAD.out k hlt)
           generalize fs.getD k f0 = f at *
           go_wp2_with (refine wpList_loadFacIn (by rfl) _ rfl b (o + k * 67) rfl f hl hrg ?_)
           refine (qfactor_any f _ HOK.out).mono ?_
           rintro e w3 ⟨rfl, hb⟩
           have r3 := r1.below hb r1.lt
           have HB3 := zh (HB1.out.trans (hb.mono HB1.out.size))
           clear hb r1 hrg c0 c1 HB1 HOK
           cases hv : facB f with
           | false =>
             have HR2 := zh (HR.out hv)
             clear hv HR HKN
             go_wp2_with fail
             go_ret
             exact ⟨ret_eq (bool_eq HR2.out.symm), HB3.out⟩
           | true =>
             have HKN2 := zh (HKN.out hv)
             clear hv HR HKN
             go_wp2_with fail
             go_roundw
             case rel => exact ⟨k + 1, by omega, by go_num, r3, HKN2, HB3⟩
             case measure => simp [intOf]; omega
          ·have e : k = n := by omega
           subst e
           have HE2 := zh (HEND.out HK.out)
           go_wp2_with fail
           go_ret
           exact ⟨ret_eq (bool_eq HE2.out.symm), HB1.out⟩
    ·go_wp2_with fail
     clear c0 c1 hd1 hd2
     go_loopw [3] (fun kv wr => ∃ k : Nat, k ≤ n ∧ kv = .int .i64 k ∧ RowAt wr w.heap.size 45 V ∧ Hid (∀ j, j < k → facB (fs.getD j f0) = true) ∧ Hid (Below w.heap.size w wr)) (fun kv _ => n - (intOf kv).toNat)
     case atStart => exact ⟨0, by omega, rfl, r0, fun j hj => by omega, HB0⟩
     case round =>
          clear r0 HB0
          obtain ⟨k, hk, rfl, r1, HK, HB1⟩ := hrel
          have h4 := H4.out
          obtain ⟨c0, c1⟩ := HS.out _ r1
          by_cases hlt : k < n
          ·have hFk := HF.out _ HB1.out
           obtain ⟨b, o, rfl, _, hr⟩ := hFk.at (k := k) (by rw [HN.out]; exact hlt)
           have hrg := hr k (by rw [HN.out]; exact hlt)
           have hok := hFk.okAt (i := k) (by rw [HN.out]; exact hlt)
           have hl := hok.rows
           have HOK := zh hok
           clear hr hFk hok
           have HKN : Hid (facB (fs.getD k f0) = true → ∀ j, j < k + 1 → facB (fs.getD j f0) = true) := fun h j hj => by
            by_cases e : j = k
            ·subst e; exact h
            ·exact HK.out j (by omega)
           have HR := zh (HBAD.out k hlt)
           generalize fs.getD k f0 = f at *
           go_wp2_with (refine wpList_loadFacIn (by rfl) _ rfl b (o + k * 67) rfl f hl hrg ?_)
           refine (qfactor_any f _ HOK.out).mono ?_
           rintro e w3 ⟨rfl, hb⟩
           have r3 := r1.below hb r1.lt
           have HB3 := zh (HB1.out.trans (hb.mono HB1.out.size))
           clear hb r1 hrg c0 c1 HB1 HOK
           cases hv : facB f with
           | false =>
             have HR2 := zh (HR.out hv)
             clear hv HR HKN
             go_wp2_with fail
             go_ret
             exact ⟨ret_eq (bool_eq HR2.out.symm), HB3.out⟩
           | true =>
             have HKN2 := zh (HKN.out hv)
             clear hv HR HKN
             go_wp2_with fail
             go_roundw
             case rel => exact ⟨k + 1, by omega, by go_num, r3, HKN2, HB3⟩
             case measure => simp [intOf]; omega
          ·have e : k = n := by omega
           subst e
           have HE2 := zh (HEND.out HK.out)
           go_wp2_with fail
           go_ret
           exact ⟨ret_eq (bool_eq HE2.out.symm), HB1.out⟩
end
section
open Go.RowKit RM
end
section
open Go.RowKit
theorem all_bad2 {p : ByteArray → Bool} {xs : List ByteArray} {i : Nat} (hi : i < xs.length) (h : p (xs.getD i ⟨#[]⟩) = false) : xs.all p = false := all_bad hi h
theorem qright13_any (s : Sc) (w : World) (h : ScOk w s) :
 Calls Tryz.prog 23 #[.agg (scv s)] w fun e w' => e = .returned (.bool (rightSc s)) ∧ Below w.heap.size w w' := by
 have r0 := RowAt.new w 25 (scv s)
 have hb : Below w.heap.size w (w.alloc (.cells (scv s) 25)) := (zB _ _).alloc (zL _) _
 refine cHid fun Q' hQ => ?_
 have HQ := zh hQ; clear hQ
 have HD : Hid (rightSc s = (decide (s.ls.length ≤ 16) && (decide (s.vs.length ≤ 64) && (s.ls.all (fun l => rightS l.2.t l.2.fs) && (s.vs.all (varB s.ls.length) && ((s.lnms ++ s.vnms).all NM.right && decide (twc (s.lnms ++ s.vnms) < 0))))))) := zh rfl
 have HBAD1 : Hid (∀ k, k < s.ls.length → rightS (s.ls.getD k lat0).2.t (s.ls.getD k lat0).2.fs = false → rightSc s = false) := zh fun k hk h => by
  have := all_bad (p := fun l : ByteArray × Shp => rightS l.2.t l.2.fs) (d := lat0) hk h
  unfold rightSc
  rw [this]; simp
 have HBAD2 : Hid (∀ k, k < s.vs.length → varB s.ls.length (s.vs.getD k var0) = false → rightSc s = false) := zh fun k hk h => by
  have := all_bad (p := varB s.ls.length) (d := var0) hk h
  unfold rightSc
  rw [this]; simp
 have HGOOD : Hid ((∀ k, k < s.ls.length → rightS (s.ls.getD k lat0).2.t (s.ls.getD k lat0).2.fs = true) → (∀ k, k < s.vs.length → varB s.ls.length (s.vs.getD k var0) = true) → s.ls.length ≤ 16 → s.vs.length ≤ 64 → rightSc s = ((s.lnms ++ s.vnms).all NM.right && decide (twc (s.lnms ++ s.vnms) < 0))) := zh fun h1 h2 h3 h4 => by
  have e1 := all_good (p := fun l : ByteArray × Shp => rightS l.2.t l.2.fs) lat0 h1
  have e2 := all_good var0 h2
  unfold rightSc
  rw [e1, e2, zE h3, zE h4]; simp
 go_enter Tryz.func23, Tryz.ntmps23
 go_upto_region 1 with fail
 change Code.wp _ _ _ _ (w.alloc (.cells (scv s) 25))
 generalize w.alloc (.cells (scv s) 25) = w1 at *
 have HOK := zh (h.below hb)
 have HB := zh hb
 have HR0 := zh r0
 obtain ⟨c0, c1, _, _⟩ := rw2 r0
 have HLF := zh h.lfew
 have HLL : Hid (s.lnms.length = s.ls.length) := zh (by simp [Sc.lnms])
 have HVL : Hid (s.vnms.length = s.vs.length) := zh (by simp [Sc.vnms])
 have HLG : Hid (∀ k, k < s.ls.length → s.lnms.take (k + 1) = s.lnms.take k ++ [(s.ls.getD k lat0).1]) := zh fun k hk => by
  rw [← s.lget hk, List.take_succ_eq_append_getElem (by rw [HLL.out]; exact hk), List.getD_eq_getElem?_getD, List.getElem?_eq_getElem (by rw [HLL.out]; exact hk)]; rfl
 have HVG : Hid (∀ k, k < s.vs.length → s.vnms.take (k + 1) = s.vnms.take k ++ [(s.vs.getD k var0).1]) := zh fun k hk => by
  rw [← s.vget hk, List.take_succ_eq_append_getElem (by rw [HVL.out]; exact hk), List.getD_eq_getElem?_getD, List.getElem?_eq_getElem (by rw [HVL.out]; exact hk)]; rfl
 have HLA : Hid (s.lnms.take s.ls.length = s.lnms) := zh (List.take_of_length_le (by rw [HLL.out]; exact zL _))
 have HVA : Hid (s.vnms.take s.vs.length = s.vnms) := zh (List.take_of_length_le (by rw [HVL.out]; exact zL _))
 have hr0 := r0.lt
 have HR0L := zh hr0
 clear h hb r0 hr0
 generalize hln : s.ls.length = ln at *
 generalize hvn : s.vs.length = vn at *
 have HLN := zh hln; have HVN := zh hvn; clear hln hvn
 by_cases h16 : ln ≤ 16
 ·by_cases h64 : vn ≤ 64
  ·have q16 : ¬ (16 < ln) := by omega
   have q64 : ¬ (64 < vn) := by omega
   clear HD
   go_upto_region 5 with fail
   go_loopw [3, 4] (fun sv kv wr => ∃ (k d : Nat) (X : Option Addr), k ≤ ln ∧ kv = .int .i64 k ∧ sv = .slice X k d ∧ Hid (wr.ownsRow w1.heap.size 9 1 (.slice X k d) k (scells (s.lnms.take k))) ∧ Hid (Below w1.heap.size w1 wr) ∧ Hid (∀ j, j < k → rightS (s.ls.getD j lat0).2.t (s.ls.getD j lat0).2.fs = true)) (fun _ kv _ => ln - (intOf kv).toNat)
   case atStart => exact ⟨0, 0, none, by omega, rfl, rfl, World.ownsRow_nil _ _ _ _, zh (zB _ _), zh fun j hj => by omega⟩
   case round =>
        obtain ⟨k, d, X, hk, rfl, rfl, HO, HW, HG⟩ := hrel
        have c0 : wr.cell? ⟨w.heap.size, 0, none⟩ = some (.slice s.LA ln s.lc) := (HW.out.cell (p := ⟨w.heap.size, 0, none⟩) HR0L.out).trans c0
        by_cases hlt : k < ln
        ·have HLT := zh hlt
         obtain ⟨b, o, hA, _, hc⟩ := (HOK.out.lats.below HW.out).at 3 (fun _ => rfl) (by omega) lat0 (i := k) (by rw [HLN.out]; exact hlt)
         have hck := hc k (by rw [HLN.out]; exact hlt)
         have p0 := hck 0 _ rfl
         rw [Nat.add_zero] at p0
         have hpb := World.block_lt_of_cell? _ _ p0
         have HSHC : Hid (wr.rangeAt b (o + k * 3 + 1) (shc (s.ls.getD k lat0).2)) := zh fun j u hu => by
          have hu2 : (latC (s.ls.getD k lat0))[j + 1]? = some u := hu
          have := hck (j + 1) u hu2
          rw [show o + k * 3 + 1 + j = o + k * 3 + (j + 1) by omega]; exact this
         have HLK := zh (HLG.out k hlt)
         have HSH := zh ((HOK.out.sh _ (getD_mem' (d := lat0) (i := k) (by rw [HLN.out]; exact hlt))).below HW.out)
         have HBD := zh (HBAD1.out k hlt)
         have HSR := zh (qright7_any (s.ls.getD k lat0).2.t (s.ls.getD k lat0).2.A (s.ls.getD k lat0).2.c (s.ls.getD k lat0).2.fs wr HSH.out.facs)
         have HGk : Hid (rightS (s.ls.getD k lat0).2.t (s.ls.getD k lat0).2.fs = true → ∀ j, j < k + 1 → rightS (s.ls.getD j lat0).2.t (s.ls.getD j lat0).2.fs = true) := zh fun h j hj => by
          by_cases e : j = k
          ·rw [e]; exact h
          ·exact HG.out j (by omega)
         clear hc hck
         rw [hA] at c0
         have HA := zh hA; clear hA
         generalize (s.ls.getD k lat0).1 = nm at *
         generalize (s.ls.getD k lat0).2 = sh at *
         generalize hrs : rightS sh.t sh.fs = rs at *
         have HRSe := zh hrs; clear hrs
         have hki : (k : Int) < (ln : Int) := by omega
         cases rs with
         | false =>
           have hr : rightSc s = false := HBD.out rfl
           rw [hr] at HQ
           clear hr
           go_wp2_with (first
            | (refine wpList_loadShapeIn (by rfl) _ rfl b (o + k * 3 + 1) rfl sh HSHC.out ?_)
            | (go_at_call 78; refine HSR.out.mono ?_; rintro e wd ⟨rfl, hbd⟩; have HBW := zh (HW.out.trans (hbd.mono HW.out.size)); clear hbd))
           exact HQ.out _ _ ⟨rfl, HB.out.trans (HBW.out.mono (by have := HR0L.out; omega))⟩
         | true =>
           have HGk1 := zh (HGk.out rfl)
           go_upto_region 9 with (first
            | (refine wpList_loadShapeIn (by rfl) _ rfl b (o + k * 3 + 1) rfl sh HSHC.out ?_)
            | (go_at_call 78; refine HSR.out.mono ?_; rintro e wd ⟨rfl, hbd⟩; have HBW := zh (HW.out.trans (hbd.mono HW.out.size)); have HOd := zh (own_below HO.out hbd (zL _)); have p0 := (hbd.cell (p := ⟨b, o + k * 3, none⟩) hpb).trans p0; have c0 := (hbd.cell (p := ⟨w.heap.size, 0, none⟩) (zT HR0L.out HW.out.size)).trans c0; clear hbd))
           go_wp2_with (at_builtin; refine wpList_moreS _ rfl _ _ 102 rfl 9 (.string ⟨#[]⟩) 1 16 Tryz.underlying102 infoStrT rfl (by decide) w1.heap.size X (k) d (scells (s.lnms.take k)) rfl (own_below HOd.out ((zB _ _).alloc (zL _) _) (zL _)) wd.heap.size [.string nm] rfl rfl (one_new _ _ _) (by intro u hu; simp at hu; subst hu; rfl) (by simp only [maxLen]; omega) (by omega) (by have := HBW.out.size; simp; omega) ?_)
           intro X6 d6 w6 hown6 hb6 hg6 hat6
           have HO6 : Hid (w6.ownsRow w1.heap.size 9 1 (.slice X6 (k + 1) d6) (k + 1) (scells (s.lnms.take (k + 1)))) := by
            rw [HLK.out, scs_app]; exact zh hown6
           have HB6 : Hid (Below w1.heap.size w1 w6) := zh ((HBW.out.alloc HBW.out.size _).trans hb6)
           clear hown6 hb6 hg6 hat6
           go_wp2_with fail
           go_roundw
           case rel => exact ⟨k + 1, d6, X6, by have := HLT.out; omega, by go_num, rfl, HO6, HB6, HGk1⟩
           case measure => have := HLT.out; simp [intOf]; omega
        ·obtain rfl : k = ln := by omega
         have hO := HO.out
         rw [HLA.out] at hO
         have HOa := zh hO; clear hO HO
         have d1 : wr.cell? ⟨w.heap.size, 1, none⟩ = some (.slice s.VA vn s.vc) := (HW.out.cell (p := ⟨w.heap.size, 1, none⟩) HR0L.out).trans c1
         have HDc : Hid (∀ W, Below w1.heap.size w1 W → W.cell? ⟨w.heap.size, 0, none⟩ = some (.slice s.LA k s.lc) ∧ W.cell? ⟨w.heap.size, 1, none⟩ = some (.slice s.VA vn s.vc)) := zh fun W hW => by
          have hr := HR0.out.below hW HR0L.out
          obtain ⟨k0, k1, _, _⟩ := rw2 hr
          rw [HLN.out] at k0
          rw [HVN.out] at k1
          exact ⟨k0, k1⟩
         go_upto_region 11 with fail
         clear d1 c0
         have HL20 : Hid (wr.ownsRow w1.heap.size 9 1 (.slice X (k + 0) d) (k + 0) (scells (s.lnms ++ s.vnms.take 0))) := zh (by rw [List.take_zero, List.append_nil]; exact HOa.out)
         go_loopw [3, 5, 6] (fun sv kv _ wq => ∃ (m d : Nat) (X : Option Addr), m ≤ vn ∧ kv = .int .i64 m ∧ sv = .slice X (k + m) d ∧ Hid (wq.ownsRow w1.heap.size 9 1 (.slice X (k + m) d) (k + m) (scells (s.lnms ++ s.vnms.take m))) ∧ Hid (Below w1.heap.size w1 wq) ∧ Hid (∀ j, j < m → varB k (s.vs.getD j var0) = true)) (fun _ kv _ _ => vn - (intOf kv).toNat)
         case atStart => exact ⟨0, d, X, by omega, rfl, rfl, HL20, HW, zh fun j hj => by omega⟩
         case round =>
          clear HL20 HOa HW
          obtain ⟨m, d, X, hm, rfl, rfl, HO, HW, HG2⟩ := hrel
          have d1 := (HDc.out _ HW.out).2
          by_cases hlt : m < vn
          ·have HLT := zh hlt
           have hm16 : m ≤ 64 := by omega
           obtain ⟨b, o, hA, _, hc⟩ := (HOK.out.vars.below HW.out).at 3 (fun _ => rfl) (by omega) var0 (i := m) (by rw [HVN.out]; exact hlt)
           have p0 := hc m (by rw [HVN.out]; exact hlt) 0 _ rfl
           have p1 := hc m (by rw [HVN.out]; exact hlt) 1 _ rfl
           have p2 := hc m (by rw [HVN.out]; exact hlt) 2 _ rfl
           rw [Nat.add_zero] at p0
           rw [hA] at d1
           have HA := zh hA; clear hA
           have hmi : (m : Int) < (vn : Int) := by omega
           have HLK : Hid (s.lnms ++ s.vnms.take (m + 1) = (s.lnms ++ s.vnms.take m) ++ [(s.vs.getD m var0).1]) := zh (by rw [HVG.out m hlt, List.append_assoc])
           have HBD := zh (HBAD2.out m hlt)
           have hbx : Below wr.heap.size wr (wr.alloc (.cells #[.string (s.vs.getD m var0).1, .int .i64 (s.vs.getD m var0).2.1, .int .i64 (s.vs.getD m var0).2.2] 55)) := (zB _ _).alloc (zL _) _
           have HOx := zh (own_below HO.out hbx (zL _))
           have HWx : Hid (Below w1.heap.size w1 (wr.alloc (.cells #[.string (s.vs.getD m var0).1, .int .i64 (s.vs.getD m var0).2.1, .int .i64 (s.vs.getD m var0).2.2] 55))) := zh (HW.out.trans (hbx.mono HW.out.size))
           have HRX := zh (RowAt.new wr 55 #[.string (s.vs.getD m var0).1, .int .i64 (s.vs.getD m var0).2.1, .int .i64 (s.vs.getD m var0).2.2])
           have HGk : Hid (varB k (s.vs.getD m var0) = true → ∀ j, j < m + 1 → varB k (s.vs.getD j var0) = true) := zh fun h j hj => by
            by_cases e : j = m
            ·rw [e]; exact h
            ·exact HG2.out j (by omega)
           clear hc hbx
           generalize s.vs.getD m var0 = el at *
           go_upto_region 14 with fail
           change Code.wp _ _ _ _ (wr.alloc (.cells #[.string el.1, .int .i64 el.2.1, .int .i64 el.2.2] 55))
           clear d1 p0 p1 p2
           generalize wr.alloc (.cells #[.string el.1, .int .i64 el.2.1, .int .i64 el.2.2] 55) = wc at *
           generalize wr.heap.size = gx at *
           obtain ⟨a0, a1, a2, _, _, _⟩ := rw3 HRX.out
           have e0 := (HDc.out _ HWx.out).1
           obtain ⟨nm, kd, lt⟩ := el
           simp only at a0 a1 a2
           by_cases hk : kd = 1
           ·skip
            have q1 : (kd != 1) = false := by simp [hk]
            by_cases hn : lt < 0
            ·have q3 : decide (lt < 0) = true := zE hn
             have hv : varB k (nm, kd, lt) = false := by unfold varB; simp; omega
             have hr : rightSc s = false := HBD.out hv
             rw [hr] at HQ
             clear hr hv
             have HKK := zh hk; clear hk
             go_wp2_with fail
             exact HQ.out _ _ ⟨rfl, HB.out.trans (HWx.out.mono (by have := HR0L.out; omega))⟩
            ·have q3 : decide (lt < 0) = false := zF hn
             by_cases hg : lt < (k : Int)
             ·have q4 : decide ((k : Int) ≤ lt) = false := zF (by omega)
              have hv : varB k (nm, kd, lt) = true := by unfold varB; simp; omega
              have HGk1 := zh (HGk.out hv)
              clear hv
              have HKK := zh hk; clear hk
              go_upto_region 16 with fail
              go_wp2_with (at_builtin; refine wpList_moreS _ rfl _ _ 102 rfl 9 (.string ⟨#[]⟩) 1 16 Tryz.underlying102 infoStrT rfl (by decide) w1.heap.size X (k + m) d (scells (s.lnms ++ s.vnms.take m)) rfl (own_below HOx.out ((zB _ _).alloc (zL _) _) (zL _)) wc.heap.size [.string nm] rfl rfl (one_new _ _ _) (by intro u hu; simp at hu; subst hu; rfl) (by simp only [maxLen]; omega) (by omega) (by have := HWx.out.size; simp; omega) ?_)
              intro X6 d6 w6 hown6 hb6 hg6 hat6
              have HO6 : Hid (w6.ownsRow w1.heap.size 9 1 (.slice X6 (k + m + 1) d6) (k + m + 1) (scells (s.lnms ++ s.vnms.take (m + 1)))) := by
                    rw [HLK.out, scs_app]; exact zh hown6
              have HB6 : Hid (Below w1.heap.size w1 w6) := zh ((HWx.out.alloc HWx.out.size _).trans hb6)
              clear hown6 hb6 hg6 hat6
              go_wp2_with fail
              go_roundw
              case rel => exact ⟨m + 1, d6, X6, by have := HLT.out; omega, by go_num, rfl, HO6, HB6, HGk1⟩
              case measure => have := HLT.out; simp [intOf]; omega
             ·have q4 : decide ((k : Int) ≤ lt) = true := zE (by omega)
              have q5 : (k : Int) ≤ lt := by omega
              have hv : varB k (nm, kd, lt) = false := by unfold varB; simp; omega
              have hr : rightSc s = false := HBD.out hv
              rw [hr] at HQ
              clear hr hv
              have HKK := zh hk; clear hk
              go_wp2_with fail
              exact HQ.out _ _ ⟨rfl, HB.out.trans (HWx.out.mono (by have := HR0L.out; omega))⟩
           ·by_cases hk2 : kd = 2
            ·have hk1 := hk
             clear hk
             have hk := hk2
             clear hk2 hk1
             have q1 : (kd != 1) = true := by simp [hk]
             have q2 : (kd != 2) = false := by simp [hk]
             by_cases hn : lt < 0
             ·have q3 : decide (lt < 0) = true := zE hn
              have hv : varB k (nm, kd, lt) = false := by unfold varB; simp; omega
              have hr : rightSc s = false := HBD.out hv
              rw [hr] at HQ
              clear hr hv
              have HKK := zh hk; clear hk
              go_wp2_with fail
              exact HQ.out _ _ ⟨rfl, HB.out.trans (HWx.out.mono (by have := HR0L.out; omega))⟩
             ·have q3 : decide (lt < 0) = false := zF hn
              by_cases hg : lt < (k : Int)
              ·have q4 : decide ((k : Int) ≤ lt) = false := zF (by omega)
               have hv : varB k (nm, kd, lt) = true := by unfold varB; simp; omega
               have HGk1 := zh (HGk.out hv)
               clear hv
               have HKK := zh hk; clear hk
               go_upto_region 16 with fail
               go_wp2_with (at_builtin; refine wpList_moreS _ rfl _ _ 102 rfl 9 (.string ⟨#[]⟩) 1 16 Tryz.underlying102 infoStrT rfl (by decide) w1.heap.size X (k + m) d (scells (s.lnms ++ s.vnms.take m)) rfl (own_below HOx.out ((zB _ _).alloc (zL _) _) (zL _)) wc.heap.size [.string nm] rfl rfl (one_new _ _ _) (by intro u hu; simp at hu; subst hu; rfl) (by simp only [maxLen]; omega) (by omega) (by have := HWx.out.size; simp; omega) ?_)
               intro X6 d6 w6 hown6 hb6 hg6 hat6
               have HO6 : Hid (w6.ownsRow w1.heap.size 9 1 (.slice X6 (k + m + 1) d6) (k + m + 1) (scells (s.lnms ++ s.vnms.take (m + 1)))) := by
                      rw [HLK.out, scs_app]; exact zh hown6
               have HB6 : Hid (Below w1.heap.size w1 w6) := zh ((HWx.out.alloc HWx.out.size _).trans hb6)
               clear hown6 hb6 hg6 hat6
               go_wp2_with fail
               go_roundw
               case rel => exact ⟨m + 1, d6, X6, by have := HLT.out; omega, by go_num, rfl, HO6, HB6, HGk1⟩
               case measure => have := HLT.out; simp [intOf]; omega
              ·have q4 : decide ((k : Int) ≤ lt) = true := zE (by omega)
               have q5 : (k : Int) ≤ lt := by omega
               have hv : varB k (nm, kd, lt) = false := by unfold varB; simp; omega
               have hr : rightSc s = false := HBD.out hv
               rw [hr] at HQ
               clear hr hv
               have HKK := zh hk; clear hk
               go_wp2_with fail
               exact HQ.out _ _ ⟨rfl, HB.out.trans (HWx.out.mono (by have := HR0L.out; omega))⟩
            ·have q1 : (kd != 1) = true := by simp [hk]
             have q2 : (kd != 2) = true := by simp [hk2]
             have hv : varB k (nm, kd, lt) = false := by unfold varB; simp; omega
             have hr : rightSc s = false := HBD.out hv
             rw [hr] at HQ
             clear hr hv
             go_wp2_with fail
             exact HQ.out _ _ ⟨rfl, HB.out.trans (HWx.out.mono (by have := HR0L.out; omega))⟩
          ·obtain rfl : m = vn := by omega
           have hO := HO.out
           rw [HVA.out] at hO
           have hlen : (s.lnms ++ s.vnms).length = k + m := by rw [zA7, HLL.out, HVL.out]
           have hst : Strs wr X (s.lnms ++ s.vnms) := Sl.of_own hO
           have HST := zh hst
           have hr := HGOOD.out HG.out HG2.out h16 h64
           rw [hr] at HQ
           have HTW := zh fun W (hW : Below wr.heap.size wr W) => refTwice_any X d (s.lnms ++ s.vnms) W (by rw [hlen]; omega) (HST.out.below hW)
           rw [hlen] at HTW
           have HLEN := zh hlen
           have hkm : k + m ≤ 80 := by omega
           clear hst hr hlen hO HO
           generalize s.lnms ++ s.vnms = xs at *
           generalize hn9 : k + m = n9 at *
           clear hn9
           go_upto_region 18 with fail
           clear d1
           have HWr := HW
           go_loopw [7] (fun iv wq => ∃ i : Nat, i ≤ n9 ∧ iv = .int .i64 i ∧ Hid (Below wr.heap.size wr wq) ∧ Hid (∀ j, j < i → NM.right (xs.getD j ⟨#[]⟩) = true)) (fun iv _ => n9 - (intOf iv).toNat)
           case atStart => exact ⟨0, by omega, rfl, zh (zB _ _), zh fun j hj => by omega⟩
           case round =>
            obtain ⟨i, hi, rfl, HWq, HGi⟩ := hrel
            by_cases hlt2 : i < n9
            ·obtain ⟨bx, ox, hX, hcx⟩ := (HST.out.below HWq.out).at (k := i) (by rw [HLEN.out]; exact hlt2)
             have hci := hcx i (by rw [HLEN.out]; exact hlt2)
             subst hX
             have hii : (i : Int) < (n9 : Int) := by omega
             have HBD3 : Hid (NM.right (xs.getD i ⟨#[]⟩) = false → xs.all NM.right = false) := zh fun h => all_bad2 (by rw [HLEN.out]; exact hlt2) h
             have HGi1 : Hid (NM.right (xs.getD i ⟨#[]⟩) = true → ∀ j, j < i + 1 → NM.right (xs.getD j ⟨#[]⟩) = true) := zh fun h j hj => by
                 by_cases e : j = i
                 ·rw [e]; exact h
                 ·exact HGi.out j (by omega)
             clear hcx
             generalize xs.getD i ⟨#[]⟩ = t at *
             have HRT := zh (refRight_any t)
             cases hrt : NM.right t with
             | false =>
               have hal := HBD3.out hrt
               rw [hal] at HQ
               rw [hrt] at HRT
               clear hal hrt
               go_wp2_with (go_at_call 79; refine (HRT.out _).mono ?_; rintro e wt ⟨rfl, hdr⟩; have HBt := zh (HWq.out.trans (hdr.below.mono HWq.out.size)); clear hdr)
               exact HQ.out _ _ ⟨rfl, HB.out.trans ((HWr.out.trans (HBt.out.mono HWr.out.size)).mono (by have := HR0L.out; omega))⟩
             | true =>
               have HG9 := zh (HGi1.out hrt)
               rw [hrt] at HRT
               clear hrt
               go_wp2_with (go_at_call 79; refine (HRT.out _).mono ?_; rintro e wt ⟨rfl, hdr⟩; have HBt := zh (HWq.out.trans (hdr.below.mono HWq.out.size)); clear hdr)
               go_roundw
               case rel => exact ⟨i + 1, by omega, by go_num, HBt, HG9⟩
               case measure => simp [intOf]; omega
            ·obtain rfl : i = n9 := by omega
             have hal : xs.all NM.right = true := all_good ⟨#[]⟩ (fun j hj => HGi.out j (by rw [HLEN.out] at hj; exact hj))
             rw [hal, Bool.true_and] at HQ
             have HTq := zh (HTW.out _ HWq.out)
             generalize twc xs = tw at *
             clear hal
             go_wp2_with (go_at_call 80; refine HTq.out.mono ?_; rintro e w' ⟨rfl, rfl⟩)
             exact HQ.out _ _ ⟨rfl, HB.out.trans ((HWr.out.trans (HWq.out.mono HWr.out.size)).mono (by have := HR0L.out; omega))⟩
  ·have hr : rightSc s = false := by rw [HD.out, zF h64]; simp
   rw [hr] at HQ
   have q64 : 64 < vn := by omega
   clear HD hr
   go_wp2_with fail
   exact HQ.out _ _ ⟨rfl, HB.out⟩
 ·have hr : rightSc s = false := by rw [HD.out, zF h16]; simp
  rw [hr] at HQ
  have q16 : 16 < ln := by omega
  clear HD hr
  go_wp2_with fail
  exact HQ.out _ _ ⟨rfl, HB.out⟩
end
end Go.Proofs.YtebnfmfpejnkcaaGreatDoor
