/- Texts that all the claims need. Conditions: those that each states. -/

import Derived.Test.YtmobcncgfbfmcaaGreatDoorCa15
import Derived.Test.YtmobcncgfbfmcaaGreatDoorCa17
import Derived.Test.YtmobcncgfbfmcaaGreatDoorCa20
set_option linter.unusedSimpArgs false
set_option linter.unusedVariables false
set_option maxRecDepth 100000
set_option maxHeartbeats 40000000
namespace Go.Proofs.YtmobcncgfbfmcaaGreatDoor
section
open Go.RowKit LX TR TM CM
namespace CM
def exD : ByteArray := ⟨#[116, 97, 98, 108, 101, 32, 32, 116, 32, 123, 97, 44, 32, 98, 125, 123, 97, 60, 98, 125]⟩
def exDT : ByteArray := ⟨#[116, 97, 98, 108, 101, 32, 116, 32, 123, 97, 44, 98, 125, 32, 123, 97, 60, 98, 125]⟩
def exE : ByteArray := ⟨#[108, 101, 113, 32, 107, 32, 120]⟩
def Q7k : List Tk := [⟨97, ⟨#[116, 97, 98, 108, 101]⟩, 0⟩, ⟨97, ⟨#[116]⟩, 7⟩, ⟨123, ⟨#[123]⟩, 9⟩, ⟨97, ⟨#[97]⟩, 10⟩, ⟨44, ⟨#[44]⟩, 11⟩, ⟨97, ⟨#[98]⟩, 13⟩, ⟨125, ⟨#[125]⟩, 14⟩, ⟨123, ⟨#[123]⟩, 15⟩, ⟨97, ⟨#[97]⟩, 16⟩, ⟨60, ⟨#[60]⟩, 17⟩, ⟨97, ⟨#[98]⟩, 18⟩, ⟨125, ⟨#[125]⟩, 19⟩]
def Q7l : List Tr := [.mk ⟨97, ⟨#[116, 97, 98, 108, 101]⟩, 0⟩ none 0 [] 0, .mk ⟨97, ⟨#[116]⟩, 7⟩ none 0 [] 7, .mk ⟨123, ⟨#[123]⟩, 9⟩ none 0 [.mk ⟨97, ⟨#[97]⟩, 10⟩ none 0 [] 10, .mk ⟨44, ⟨#[44]⟩, 11⟩ none 0 [] 11, .mk ⟨97, ⟨#[98]⟩, 13⟩ none 0 [] 13] 14, .mk ⟨123, ⟨#[123]⟩, 15⟩ none 0 [.mk ⟨97, ⟨#[97]⟩, 16⟩ none 0 [] 16, .mk ⟨60, ⟨#[60]⟩, 17⟩ none 0 [] 17, .mk ⟨97, ⟨#[98]⟩, 18⟩ none 0 [] 18] 19]
def exDC : Cm := ⟨5, 0, ⟨⟨#[116]⟩, 7⟩, none, 0, [⟨⟨#[97]⟩, 10⟩, ⟨⟨#[98]⟩, 13⟩], none, 0, [⟨⟨⟨#[97]⟩, 16⟩, ⟨⟨#[98]⟩, 18⟩⟩], 15, n0, n0⟩
def Q7m : List Tk := [⟨97, ⟨#[108, 101, 113]⟩, 0⟩, ⟨97, ⟨#[107]⟩, 4⟩, ⟨97, ⟨#[120]⟩, 6⟩]
def Q7n : List Tr := [.mk ⟨97, ⟨#[108, 101, 113]⟩, 0⟩ none 0 [] 0, .mk ⟨97, ⟨#[107]⟩, 4⟩ none 0 [] 4, .mk ⟨97, ⟨#[120]⟩, 6⟩ none 0 [] 6]
theorem Qby : scan exD 0 [] = .ok Q7k := by kernel_rfl
theorem Qbz : parse Q7k = .ok Q7l := by rfl
theorem QbA : cmdR 21 Q7l 20 = .ok exDC := by kernel_rfl
theorem QbB : Q0L 21 exD = .ok exDC := by
 rw [Q3T Qby Qbz, show ((exD.size : Nat) : Int) = 20 from rfl, QbA]
theorem QbC : scan exE 0 [] = .ok Q7m := by kernel_rfl
theorem QbD : parse Q7m = .ok Q7n := by rfl
theorem QbE : cmdR 8 Q7n 7 = .error 7 := by kernel_rfl
theorem QbF : Q0L 8 exE = .error (2, 7) := by
 rw [Q3T QbC QbD, show ((exE.size : Nat) : Int) = 7 from rfl, QbE]
theorem QbG {x : Cm} (h : erc x = exDC) : x.pp = 15 ∧ Q2O x = exDT ∧ (ctx x).length ≤ 100 ∧ SmlC x := by
 obtain ⟨op, p, n, A, c, ws, B, d, ps, pp, l, r⟩ := x
 unfold erc exDC at h
 injection h with h1 h2 h3 _ _ h4 _ _ h5 h6 h7 h8
 simp only at h1 h2 h3 h4 h5 h6 h7 h8
 subst h1 h2 h3 h4 h5 h6
 have hc1 : cnt [l] = 1 := by rw [← Q4l [l], Q1V, h7]; simp [cnt, n0, nd]
 have hc2 : cnt [r] = 1 := by rw [← Q4l [r], Q1V, h8]; simp [cnt, n0, nd]
 have ht : Q2O (Cm.mk 5 0 ⟨⟨#[116]⟩, 7⟩ A c [⟨⟨#[97]⟩, 10⟩, ⟨⟨#[98]⟩, 13⟩] B d [⟨⟨⟨#[97]⟩, 16⟩, ⟨⟨#[98]⟩, 18⟩⟩] 15 l r) = exDT := by kernel_rfl
 refine ⟨rfl, ht, (show (Q2O (Cm.mk 5 0 ⟨⟨#[116]⟩, 7⟩ A c [⟨⟨#[97]⟩, 10⟩, ⟨⟨#[98]⟩, 13⟩] B d [⟨⟨⟨#[97]⟩, 16⟩, ⟨⟨#[98]⟩, 18⟩⟩] 15 l r)).size ≤ 100 by rw [ht]; decide), ?_, ?_, ?_, ?_⟩
 ·show 2 ≤ 4294967296
  omega
 ·show 1 ≤ 4294967296
  omega
 ·show cnt [l] ≤ _
  omega
 ·show cnt [r] ≤ _
  omega
end CM
theorem Q7o (w : World) (hT : Cmds w) :
 Calls Tryz.prog 7 #[] w fun e w' => e = .returned (.bool true) ∧ Below w.heap.size w w' := by
 have HP1 := zh (Q52 exD w (D := 21) (by decide) hT (by decide) (by decide))
 have HP2 : Hid (∀ W, Below w.heap.size w W → Calls Tryz.prog 8 #[.string exE] W fun e' w' => Q3f 8 exE W.heap.size e' W w') := zh fun W hW => Q52 exE W (by decide) (hT.low hW) (by decide) (by decide)
 have HT := zh hT
 clear hT
 unfold exD at HP1
 unfold exE at HP2
 have hdr := QbB
 have her := QbF
 unfold exD at hdr
 unfold exE at her
 go_enter Tryz.func7, Tryz.ntmps7
 go_wp2_with fail
 refine HP1.out.mono ?_
 rintro e' w1 ⟨hb1, hrd⟩
 rw [hdr] at hrd
 obtain ⟨x, rfl, hx, hdx⟩ := hrd
 obtain ⟨hpp, htx, hcx, hsx⟩ := QbG hx
 have HB1 := zh hb1
 have HIN := zh hdx.inn
 have HSX := zh hsx
 have HTXT := zh htx
 have HCX := zh hcx
 have HPP := zh hpp
 clear HP1 hdr hb1 hx hdx hpp htx hcx hsx
 have hn1 := (RowAt.new w1 31 (cv c0)).alloc (.cells #[.int .i64 0, .int .i64 0] 33)
 have hn2 := RowAt.new (w1.alloc (.cells (cv c0) 31)) 33 #[.int .i64 0, .int .i64 0]
 rw [show (w1.alloc (.cells (cv c0) 31)).heap.size = w1.heap.size + 1 by simp] at hn2
 have HN1 : Hid (RowAt ((w1.alloc (.cells (cv c0) 31)).alloc (.cells #[.int .i64 0, .int .i64 0] 33)) w1.heap.size 31 (cv c0)) := zh hn1
 have HN2 : Hid (RowAt (((w1.alloc (.cells (cv c0) 31)).alloc (.cells #[.int .i64 0, .int .i64 0] 33)).setRow w1.heap.size (cv x)) (w1.heap.size + 1) 33 #[.int .i64 0, .int .i64 0]) := zh ((setRow_other _ _ _ _ (by omega)).trans hn2)
 have HXw2 : Hid (RowAt ((((w1.alloc (.cells (cv c0) 31)).alloc (.cells #[.int .i64 0, .int .i64 0] 33)).setRow w1.heap.size (cv x)).setRow (w1.heap.size + 1) #[.int .i64 0, .int .i64 0]) w1.heap.size 31 (cv x)) := zh ((setRow_other _ _ _ _ (by omega)).trans (HN1.out.setRow (cv x)))
 have HFw2 : Hid (RowAt ((((w1.alloc (.cells (cv c0) 31)).alloc (.cells #[.int .i64 0, .int .i64 0] 33)).setRow w1.heap.size (cv x)).setRow (w1.heap.size + 1) #[.int .i64 0, .int .i64 0]) (w1.heap.size + 1) 33 #[.int .i64 0, .int .i64 0]) := zh (HN2.out.setRow #[.int .i64 0, .int .i64 0])
 have hbbw2 : Below w1.heap.size w1 ((((w1.alloc (.cells (cv c0) 31)).alloc (.cells #[.int .i64 0, .int .i64 0] 33)).setRow w1.heap.size (cv x)).setRow (w1.heap.size + 1) #[.int .i64 0, .int .i64 0]) := ((((zB _ _).alloc (zL _) _).alloc (by simp) _).trans (below_setRow (zL _) _)).trans (below_setRow (by omega) _)
 have HBBw2 := zh hbbw2
 clear hn1 hn2 hbbw2
 go_upto_region 2 with (first | (refine wpList_store_row rfl _ _ _ rfl w1.heap.size (cv x) rfl rfl _ _ HN1.out (Q01 _) rfl (by simp [cv, c0, Value.oneCell']) ?_) | (refine wpList_store_row rfl _ _ _ rfl (w1.heap.size + 1) #[.int .i64 0, .int .i64 0] rfl rfl _ _ HN2.out (Q06 _ _) rfl (by simp [Value.oneCell']) ?_))
 clear HN1 HN2
 change Code.wp _ _ _ _ ((((w1.alloc (.cells (cv c0) 31)).alloc (.cells #[.int .i64 0, .int .i64 0] 33)).setRow w1.heap.size (cv x)).setRow (w1.heap.size + 1) #[.int .i64 0, .int .i64 0])
 generalize ((((w1.alloc (.cells (cv c0) 31)).alloc (.cells #[.int .i64 0, .int .i64 0] 33)).setRow w1.heap.size (cv x)).setRow (w1.heap.size + 1) #[.int .i64 0, .int .i64 0]) = w2 at *
 have HB2 := zh (HB1.out.trans (HBBw2.out.mono HB1.out.size))
 have HIN2 := zh ((HIN.out.below HBBw2.out).mono HBBw2.out.size)
 have hz1 : w1.heap.size + 1 < w2.heap.size := HFw2.out.lt
 clear HIN HBBw2 HB1
 go_wp2_with fail
 refine (HP2.out w2 HB2.out).mono ?_
 rintro e' w3 ⟨hb3, hrd⟩
 rw [her] at hrd
 subst hrd
 have HX3 := zh (HXw2.out.below hb3 (by omega))
 have HF3 := zh (HFw2.out.below hb3 hz1)
 have HB3 := zh (HB2.out.trans (hb3.mono HB2.out.size))
 have HIN3 := zh ((HIN2.out.below hb3).mono hb3.size)
 have hz3 : w2.heap.size ≤ w3.heap.size := hb3.size
 clear HP2 her hb3 HXw2 HFw2 HB2 HIN2
 have hn1 := (RowAt.new w3 31 (cv c0)).alloc (.cells #[.int .i64 0, .int .i64 0] 33)
 have hn2 := RowAt.new (w3.alloc (.cells (cv c0) 31)) 33 #[.int .i64 0, .int .i64 0]
 rw [show (w3.alloc (.cells (cv c0) 31)).heap.size = w3.heap.size + 1 by simp] at hn2
 have HN1 : Hid (RowAt ((w3.alloc (.cells (cv c0) 31)).alloc (.cells #[.int .i64 0, .int .i64 0] 33)) w3.heap.size 31 (cv c0)) := zh hn1
 have HN2 : Hid (RowAt (((w3.alloc (.cells (cv c0) 31)).alloc (.cells #[.int .i64 0, .int .i64 0] 33)).setRow w3.heap.size (cv c0)) (w3.heap.size + 1) 33 #[.int .i64 0, .int .i64 0]) := zh ((setRow_other _ _ _ _ (by omega)).trans hn2)
 have HXw4 : Hid (RowAt ((((w3.alloc (.cells (cv c0) 31)).alloc (.cells #[.int .i64 0, .int .i64 0] 33)).setRow w3.heap.size (cv c0)).setRow (w3.heap.size + 1) #[.int .i64 2, .int .i64 7]) w3.heap.size 31 (cv c0)) := zh ((setRow_other _ _ _ _ (by omega)).trans (HN1.out.setRow (cv c0)))
 have HFw4 : Hid (RowAt ((((w3.alloc (.cells (cv c0) 31)).alloc (.cells #[.int .i64 0, .int .i64 0] 33)).setRow w3.heap.size (cv c0)).setRow (w3.heap.size + 1) #[.int .i64 2, .int .i64 7]) (w3.heap.size + 1) 33 #[.int .i64 2, .int .i64 7]) := zh (HN2.out.setRow #[.int .i64 2, .int .i64 7])
 have hbbw4 : Below w3.heap.size w3 ((((w3.alloc (.cells (cv c0) 31)).alloc (.cells #[.int .i64 0, .int .i64 0] 33)).setRow w3.heap.size (cv c0)).setRow (w3.heap.size + 1) #[.int .i64 2, .int .i64 7]) := ((((zB _ _).alloc (zL _) _).alloc (by simp) _).trans (below_setRow (zL _) _)).trans (below_setRow (by omega) _)
 have HBBw4 := zh hbbw4
 clear hn1 hn2 hbbw4
 go_upto_region 3 with (first | (refine wpList_store_row rfl _ _ _ rfl w3.heap.size (cv c0) rfl rfl _ _ HN1.out (Q01 _) rfl (by simp [cv, c0, Value.oneCell']) ?_) | (refine wpList_store_row rfl _ _ _ rfl (w3.heap.size + 1) #[.int .i64 2, .int .i64 7] rfl rfl _ _ HN2.out (Q06 _ _) rfl (by simp [Value.oneCell']) ?_))
 clear HN1 HN2
 change Code.wp _ _ _ _ ((((w3.alloc (.cells (cv c0) 31)).alloc (.cells #[.int .i64 0, .int .i64 0] 33)).setRow w3.heap.size (cv c0)).setRow (w3.heap.size + 1) #[.int .i64 2, .int .i64 7])
 generalize ((((w3.alloc (.cells (cv c0) 31)).alloc (.cells #[.int .i64 0, .int .i64 0] 33)).setRow w3.heap.size (cv c0)).setRow (w3.heap.size + 1) #[.int .i64 2, .int .i64 7]) = w4 at *
 have HX4 := zh (HX3.out.below HBBw4.out (by omega))
 have HF4 := zh (HF3.out.below HBBw4.out (by omega))
 have HB4 := zh (HB3.out.trans (HBBw4.out.mono HB3.out.size))
 have HIN4 := zh ((HIN3.out.below HBBw4.out).mono HBBw4.out.size)
 have HT4 := zh (HT.out.low HB4.out)
 have htx := Q8T x w4 HT4.out HIN4.out HSX.out (by have := HCX.out; omega)
 rw [HTXT.out] at htx
 unfold cv exDT at htx
 have HTX := zh htx
 clear htx HX3 HF3 HB3 HIN3 HBBw4 HXw4 HIN4
 have xc0 := (HX4.out.cell 0).trans (show (cv x)[0]? = some (.int .i64 x.op) from rfl)
 have xc1 := (HX4.out.cell 1).trans (show (cv x)[1]? = some (.int .i64 x.p) from rfl)
 have xc2 := (HX4.out.cell 2).trans (show (cv x)[2]? = some (.string x.n.s) from rfl)
 have xc3 := (HX4.out.cell 3).trans (show (cv x)[3]? = some (.int .i64 x.n.p) from rfl)
 have xc4 := (HX4.out.cell 4).trans (show (cv x)[4]? = some (.slice x.A x.ws.length x.c) from rfl)
 have xc5 := (HX4.out.cell 5).trans (show (cv x)[5]? = some (.slice x.B x.ps.length x.d) from rfl)
 have xc6 := (HX4.out.cell 6).trans (show (cv x)[6]? = some (.int .i64 x.pp) from rfl)
 have xc7 := (HX4.out.cell 7).trans (show (cv x)[7]? = some (.int .i64 x.l.k) from rfl)
 have xc8 := (HX4.out.cell 8).trans (show (cv x)[8]? = some (.int .i64 x.l.p) from rfl)
 have xc9 := (HX4.out.cell 9).trans (show (cv x)[9]? = some (.string x.l.s) from rfl)
 have xc10 := (HX4.out.cell 10).trans (show (cv x)[10]? = some (.slice x.l.A x.l.ws.length x.l.c) from rfl)
 have xc11 := (HX4.out.cell 11).trans (show (cv x)[11]? = some (.slice x.l.B x.l.ks.length x.l.d) from rfl)
 have xc12 := (HX4.out.cell 12).trans (show (cv x)[12]? = some (.int .i64 x.r.k) from rfl)
 have xc13 := (HX4.out.cell 13).trans (show (cv x)[13]? = some (.int .i64 x.r.p) from rfl)
 have xc14 := (HX4.out.cell 14).trans (show (cv x)[14]? = some (.string x.r.s) from rfl)
 have xc15 := (HX4.out.cell 15).trans (show (cv x)[15]? = some (.slice x.r.A x.r.ws.length x.r.c) from rfl)
 have xc16 := (HX4.out.cell 16).trans (show (cv x)[16]? = some (.slice x.r.B x.r.ks.length x.r.d) from rfl)
 rw [HPP.out] at xc6
 rw [HPP.out] at HTX
 obtain ⟨f0, f1, _, _⟩ := row2 HF4.out
 obtain ⟨g0, g1, _, _⟩ := row2 HFw4.out
 go_wp2_with fail
 refine HTX.out.mono ?_
 rintro e' w5 ⟨rfl, hb5⟩
 have xc6 : w5.cell? ⟨w1.heap.size, 6, none⟩ = some (.int .i64 15) := by
  have h := ((HX4.out.below hb5 HX4.out.lt).cell 6).trans (show (cv x)[6]? = some (.int .i64 x.pp) from rfl)
  rw [HPP.out] at h
  exact h
 obtain ⟨g0', g1', _, _⟩ := row2 (HFw4.out.below hb5 HFw4.out.lt)
 have HB5 := zh (HB4.out.trans (hb5.mono HB4.out.size))
 clear hb5 f0 f1 g0 g1
 go_wp2_with fail
 go_ret
 exact ⟨rfl, HB5.out⟩
end
section
open LX TR TM CM
namespace FP
variable {P : Int → Prop} {α β : Type}
def PosT (P : Int → Prop) (l : List Tr) : Prop := ∀ x ∈ nodes l, P x.t.p ∧ P x.e
theorem PosT.drop {l : List Tr} (h : PosT P l) (m : Nat) : PosT P (l.drop m) := fun x hx => h x (by
 have e := Q2u (l.take m) (l.drop m)
 rw [List.take_append_drop] at e
 rw [e]
 exact List.mem_append_right _ hx)
theorem PosT.kids {x : Tr} {r : List Tr} (h : PosT P (x :: r)) : PosT P x.ks ∧ P x.t.p ∧ P x.e := by
 have hx : x ∈ nodes (x :: r) := Q31 (List.mem_cons_self ..)
 exact ⟨fun y hy => h y (mem_kids (List.mem_cons_self ..) hy), h x hx⟩
structure PbR (P : Int → Prop) (rd : Rdr α) : Prop where
 bad : ∀ ts e p, PosT P ts → P e → rd ts e = .error p → P p
 ok : ∀ ts e x r, rd ts e = .ok (x, r) → ∃ m, r = ts.drop m
theorem PbR.pure {f : List Tr → α} : PbR P (fun ts _ => .ok (f ts, ts)) := ⟨fun ts e p _ _ h => (by cases h), fun ts e x r h => by
 simp only [Except.ok.injEq, Prod.mk.injEq] at h
 exact ⟨0, by rw [List.drop_zero, h.2]⟩⟩
theorem PbR.bnd {rd : Rdr α} {f : List Tr → Int → α → Rdr β} (h : PbR P rd) (h2 : ∀ ts e x, PbR P (f ts e x)) : PbR P (fun ts e => bnd (rd ts e) fun x r => f ts e x r e) := by
 refine ⟨fun ts e p ht he hp => ?_, fun ts e x r hr => ?_⟩
 ·cases hq : rd ts e with
  | error q =>
    rw [hq] at hp
    simp only [TM.bnd, Except.error.injEq] at hp
    rw [← hp]; exact h.bad ts e q ht he hq
  | ok yr =>
    obtain ⟨y, r⟩ := yr
    rw [hq] at hp
    obtain ⟨m, rfl⟩ := h.ok _ _ _ _ hq
    exact (h2 ts e y).bad _ _ _ (ht.drop m) he hp
 ·cases hq : rd ts e with
  | error q => rw [hq] at hr; cases hr
  | ok yr =>
    obtain ⟨y, r2⟩ := yr
    rw [hq] at hr
    obtain ⟨m, rfl⟩ := h.ok _ _ _ _ hq
    obtain ⟨m2, rfl⟩ := (h2 ts e y).ok _ _ _ _ hr
    exact ⟨m + m2, by rw [List.drop_drop]⟩
theorem PbR.map {rd : Rdr α} {f : List Tr → Int → α → β} (h : PbR P rd) : PbR P (fun ts e => TM.bnd (rd ts e) fun x r => .ok (f ts e x, r)) := h.bnd (f := fun ts e x r _ => .ok (f ts e x, r)) fun ts e x => PbR.pure (f := fun _ => f ts e x)
theorem Q4i (k : Nat) : PbR P (Q0d k) := by
 refine ⟨fun ts e p ht he hp => ?_, fun ts e x r hr => ?_⟩
 ·cases ts with
  | nil => simp only [Q0d, Except.error.injEq] at hp; rw [← hp]; exact he
  | cons x r =>
    simp only [Q0d] at hp
    split at hp
    ·cases hp
    ·simp only [Except.error.injEq] at hp; rw [← hp]; exact ht.kids.2.1
 ·cases ts with
  | nil => cases hr
  | cons y s =>
    simp only [Q0d] at hr
    split at hr
    ·simp only [Except.ok.injEq, Prod.mk.injEq] at hr; exact ⟨1, by rw [← hr.2]; rfl⟩
    ·cases hr
theorem Q1N : PbR P Q05 := (Q4i 97).map
theorem Q7p {el : Rdr α} (h : PbR P el) : ∀ n, PbR P (Q0v el n)
 | 0 => PbR.pure
 | n + 1 => by
   have ih := (h.bnd (f := fun ts e x r e => TM.bnd (Q0v el n r e) fun xs r3 => .ok (x :: xs, r3)) fun ts e x => (Q7p h n).map)
   refine ⟨fun ts e p ht he hp => ?_, fun ts e x r hr => ?_⟩
   ·cases ts with
    | nil => cases hp
    | cons c r =>
      simp only [Q0v] at hp
      split at hp
      ·exact ih.bad r e p (ht.drop 1) he hp
      ·cases hp
   ·cases ts with
    | nil => simp only [Q0v, Except.ok.injEq, Prod.mk.injEq] at hr; exact ⟨0, hr.2.symm⟩
    | cons c s =>
      simp only [Q0v] at hr
      split at hr
      ·obtain ⟨m, rfl⟩ := ih.ok s e x r hr
       exact ⟨m + 1, rfl⟩
      ·simp only [Except.ok.injEq, Prod.mk.injEq] at hr; exact ⟨0, by rw [← hr.2]; rfl⟩
theorem Q2V {el : Rdr α} (h : PbR P el) : PbR P (Q0c el) := h.bnd (f := fun ts e x r e => TM.bnd (Q0v el ts.length r e) fun xs r3 => .ok (x :: xs, r3)) fun ts e x => (Q7p h ts.length).map
theorem Q3v {el : Rdr α} (h : PbR P el) : PbR P (optR el) := by
 refine ⟨fun ts e p ht he hp => ?_, fun ts e x r hr => ?_⟩
 ·cases ts with
  | nil => cases hp
  | cons c r =>
    simp only [optR] at hp
    split at hp
    ·cases hp
    ·exact (Q2V h).bad _ _ _ ht he hp
 ·cases ts with
  | nil => simp only [optR, Except.ok.injEq, Prod.mk.injEq] at hr; exact ⟨0, hr.2.symm⟩
  | cons c s =>
    simp only [optR] at hr
    split at hr
    ·simp only [Except.ok.injEq, Prod.mk.injEq] at hr; exact ⟨0, hr.2.symm⟩
    ·exact (Q2V h).ok _ _ _ _ hr
theorem QbH {k : Nat} {rd : Rdr α} (h : ∀ ts e p, PosT P ts → P e → rd ts e = .error p → P p) (h2 : ∀ ts e x r, rd ts e = .ok (x, r) → ∃ m, r = ts.drop m) : PbR P (Q0f k rd) := by
 refine ⟨fun ts e p ht he hp => ?_, fun ts e x r hr => ?_⟩
 ·cases ts with
  | nil => simp only [Q0f, Except.error.injEq] at hp; rw [← hp]; exact he
  | cons c r =>
    obtain ⟨k1, k2, k3⟩ := ht.kids
    simp only [Q0f] at hp
    split at hp
    ·cases hq : rd c.ks c.e with
     | error q =>
       rw [hq] at hp
       simp only [TM.bnd, Except.error.injEq] at hp
       rw [← hp]; exact h _ _ _ k1 k3 hq
     | ok yr =>
       obtain ⟨y, q⟩ := yr
       rw [hq] at hp
       obtain ⟨m, hm⟩ := h2 _ _ _ _ hq
       cases q with
       | nil => cases hp
       | cons a b =>
         simp only [TM.bnd, Except.error.injEq] at hp
         rw [← hp]
         have := k1.drop m
         rw [← hm] at this
         exact this.kids.2.1
    ·simp only [Except.error.injEq] at hp; rw [← hp]; exact k2
 ·cases ts with
  | nil => cases hr
  | cons c s =>
    simp only [Q0f] at hr
    split at hr
    ·cases hq : rd c.ks c.e with
     | error q => rw [hq] at hr; cases hr
     | ok yr =>
       obtain ⟨y, q⟩ := yr
       rw [hq] at hr
       cases q with
       | nil => simp only [TM.bnd, Except.ok.injEq, Prod.mk.injEq] at hr; exact ⟨1, by rw [← hr.2]; rfl⟩
       | cons a b => cases hr
    ·cases hr
theorem PbR.within {k : Nat} {rd : Rdr α} (h : PbR P rd) : PbR P (Q0f k rd) := QbH h.bad h.ok
theorem Q5r : PbR P setR := (Q3v Q1N).within
theorem QbI : PbR P Q0K := (Q2V Q1N).within
theorem Q7q : PbR P Q0z := Q1N.bnd (f := fun ts e w r e => TM.bnd (Q0d 58 r e) fun _ r2 => TM.bnd (setR r2 e) fun ws r3 => .ok (nd 6 w.p w.s ws [], r3)) fun ts e w => (Q4i 58).bnd (f := fun ts e _ r2 e => TM.bnd (setR r2 e) fun ws r3 => .ok (nd 6 w.p w.s ws [], r3)) fun ts e x => Q5r.map
theorem Q5s (h00 : P 0) : ∀ d, PbR P (Q0a d)
 | 0 => ⟨fun ts e p _ _ h => (by simp only [Q0a, Except.error.injEq] at h; rw [← h]; exact h00), fun ts e x r h => (by cases h)⟩
 | d + 1 => by
   refine ⟨fun ts e p ht he hp => ?_, fun ts e x r hr => ?_⟩
   ·cases ts with
    | nil => simp only [Q0a, Except.error.injEq] at hp; rw [← hp]; exact he
    | cons c r =>
      simp only [Q0a] at hp
      split at hp
      ·cases hp
      ·split at hp
       ·exact (Q5r.map (f := fun _ _ ws => nd 3 c.t.p e0 ws [])).bad (c :: r) e p ht he hp
       ·split at hp
        ·exact ((Q2V (Q5s h00 d)).within.map (f := fun _ _ ks => nd 4 c.t.p e0 [] ks)).bad (c :: r) e p ht he hp
        ·split at hp
         ·exact ((Q3v Q7q).within.map (f := fun _ _ ks => nd 5 c.t.p e0 [] ks)).bad (c :: r) e p ht he hp
         ·simp only [Except.error.injEq] at hp; rw [← hp]; exact ht.kids.2.1
   ·cases ts with
    | nil => cases hr
    | cons c s =>
      simp only [Q0a] at hr
      split at hr
      ·simp only [Except.ok.injEq, Prod.mk.injEq] at hr; exact ⟨1, by rw [← hr.2]; rfl⟩
      ·split at hr
       ·exact (Q5r.map (P := P) (f := fun _ _ ws => nd 3 c.t.p e0 ws [])).ok (c :: s) e x r hr
       ·split at hr
        ·exact ((Q2V (Q5s h00 d)).within.map (f := fun _ _ ks => nd 4 c.t.p e0 [] ks)).ok (c :: s) e x r hr
        ·split at hr
         ·exact ((Q3v (P := P) Q7q).within.map (f := fun _ _ ks => nd 5 c.t.p e0 [] ks)).ok (c :: s) e x r hr
         ·cases hr
theorem Q4j : PbR P varR := Q1N.map
theorem Q5t (h00 : P 0) (d : Nat) : PbR P (Q0n d) := by
 have h1 := fun c : Tr => (Q5s h00 d).map (f := fun _ _ n => nd 7 c.t.p e0 [] [n])
 refine ⟨fun ts e p ht he hp => ?_, fun ts e x r hr => ?_⟩
 ·cases ts with
  | nil => simp only [Q0n, Except.error.injEq] at hp; rw [← hp]; exact he
  | cons c r =>
    simp only [Q0n] at hp
    split at hp
    ·exact (h1 c).bad r e p (ht.drop 1) he hp
    ·exact Q4j.bad _ _ _ ht he hp
 ·cases ts with
  | nil => cases hr
  | cons c s =>
    simp only [Q0n] at hr
    split at hr
    ·obtain ⟨m, rfl⟩ := (h1 c).ok s e x r hr
     exact ⟨m + 1, rfl⟩
    ·exact (Q4j (P := P)).ok _ _ _ _ hr
theorem Q7r (h00 : P 0) : ∀ d, PbR P (Q09 d)
 | 0 => ⟨fun ts e p _ _ h => (by simp only [Q09, Except.error.injEq] at h; rw [← h]; exact h00), fun ts e x r h => (by cases h)⟩
 | d + 1 => by
   have h1 := fun (k : Int) (c : Tr) => (Q2V (Q7r h00 d)).within (k := 40) |>.map (f := fun _ _ ks => nd k c.t.p e0 [] ks)
   refine ⟨fun ts e p ht he hp => ?_, fun ts e x r hr => ?_⟩
   ·cases ts with
    | nil => simp only [Q09, Except.error.injEq] at hp; rw [← hp]; exact he
    | cons c r =>
      simp only [Q09] at hp
      split at hp
      ·exact (h1 8 c).bad r e p (ht.drop 1) he hp
      ·split at hp
       ·exact (h1 9 c).bad r e p (ht.drop 1) he hp
       ·exact (Q5t h00 _).bad _ _ _ ht he hp
   ·cases ts with
    | nil => cases hr
    | cons c s =>
      simp only [Q09] at hr
      split at hr
      ·obtain ⟨m, rfl⟩ := (h1 8 c).ok s e x r hr
       exact ⟨m + 1, rfl⟩
      ·split at hr
       ·obtain ⟨m, rfl⟩ := (h1 9 c).ok s e x r hr
        exact ⟨m + 1, rfl⟩
       ·exact (Q5t h00 _).ok _ _ _ _ hr
theorem QbJ (h00 : P 0) (d : Nat) : PbR P (Q0G d) := Q1N.bnd (f := fun ts e w r e => TM.bnd (Q0d 61 r e) fun _ r2 => TM.bnd (Q0n d r2 e) fun n r3 => .ok (nd 11 w.p w.s [] [n], r3)) fun ts e w => (Q4i 61).bnd (f := fun ts e _ r2 e => TM.bnd (Q0n d r2 e) fun n r3 => .ok (nd 11 w.p w.s [] [n], r3)) fun ts e x => (Q5t h00 d).map
theorem QbK (ks : List Nd) : PbR P (Q0W ks) := by
 have h1 := Q1N.map (P := P) (f := fun _ _ w => (ks, [w]))
 refine ⟨fun ts e p ht he hp => ?_, fun ts e x r hr => ?_⟩
 ·cases ts with
  | nil => cases hp
  | cons c r =>
    simp only [Q0W] at hp
    split at hp
    ·exact h1.bad r e p (ht.drop 1) he hp
    ·cases hp
 ·cases ts with
  | nil => simp only [Q0W, Except.ok.injEq, Prod.mk.injEq] at hr; exact ⟨0, hr.2.symm⟩
  | cons c s =>
    simp only [Q0W] at hr
    split at hr
    ·obtain ⟨m, rfl⟩ := h1.ok s e x r hr
     exact ⟨m + 1, rfl⟩
    ·simp only [Except.ok.injEq, Prod.mk.injEq] at hr; exact ⟨0, hr.2.symm⟩
theorem QbL (h00 : P 0) (d : Nat) : PbR P (Q0Y d) := (Q3v (QbJ h00 d)).bnd (f := fun ts e ks r e => Q0W ks r e) fun ts e ks => QbK ks
theorem QbM (h00 : P 0) (d : Nat) : PbR P (rowR d) := by
 have h1 := fun c : Tr => (QbL h00 d).within (k := 91) |>.map (f := fun _ _ kw => nd 10 c.t.p e0 kw.2 kw.1)
 refine ⟨fun ts e p ht he hp => ?_, fun ts e x r hr => ?_⟩
 ·cases ts with
  | nil => simp only [rowR, Except.error.injEq] at hp; rw [← hp]; exact he
  | cons c r =>
    simp only [rowR] at hp
    split at hp
    ·exact (h1 c).bad _ e p ht he hp
    ·exact Q4j.bad _ _ _ ht he hp
 ·cases ts with
  | nil => cases hr
  | cons c s =>
    simp only [rowR] at hr
    split at hr
    ·exact (h1 c).ok _ e x r hr
    ·exact (Q4j (P := P)).ok _ _ _ _ hr
theorem QbN : PbR P Q0w := Q1N.bnd (f := fun ts e (a : Wd) r e => TM.bnd (Q0d 60 r e) fun _ r2 => TM.bnd (Q05 r2 e) fun b r3 => .ok (Pw.mk a b, r3)) fun ts e a => (Q4i 60).bnd (f := fun ts e (_ : Tk) r2 e => TM.bnd (Q05 r2 e) fun (b : Wd) r3 => .ok (Pw.mk a b, r3)) fun ts e x => Q1N.map
theorem QbO : PbR P prsR := (Q3v QbN).within
theorem QbP (h00 : P 0) (D k : Nat) (s : Cs) : PbR P (Q0b D k s) := by
 unfold Q0b
 by_cases h1 : k = 110
 ·simp only [h1, if_true]; exact Q1N.map (f := fun _ _ w => (⟨w, s.ws, s.ps, s.pp, s.ts⟩ : Cs))
 ·by_cases h2 : k = 102
  ·simp only [h1, h2, if_true, if_false]; exact Q1N.map (f := fun _ _ w => (⟨s.n, [w], s.ps, s.pp, s.ts⟩ : Cs))
  ·by_cases h3 : k = 119
   ·simp only [h1, h2, h3, if_true, if_false]; exact QbI.map (f := fun _ _ l => (⟨s.n, l, s.ps, s.pp, s.ts⟩ : Cs))
   ·by_cases h4 : k = 112
    ·simp only [h1, h2, h3, h4, if_true, if_false]; exact QbO.map (f := fun ts e l => (⟨s.n, s.ws, l, Q00 ts e, s.ts⟩ : Cs))
    ·by_cases h5 : k = 114
     ·simp only [h1, h2, h3, h4, h5, if_true, if_false]; exact (QbM h00 D).map (f := fun _ _ z => (⟨s.n, s.ws, s.ps, s.pp, s.ts ++ [z]⟩ : Cs))
     ·simp only [h1, h2, h3, h4, h5, if_false]; exact (Q7r h00 D).map (f := fun _ _ z => (⟨s.n, s.ws, s.ps, s.pp, s.ts ++ [z]⟩ : Cs))
theorem Q5u (h00 : P 0) (D : Nat) : ∀ (ks : List Nat) (s : Cs), PbR P (Q0m D ks s)
 | [], s => PbR.pure (f := fun _ => s)
 | k :: ks, s => (QbP h00 D k s).bnd (f := fun ts e s2 r e => Q0m D ks s2 r e) fun ts e s2 => Q5u h00 D ks s2
theorem QbQ (h00 : P 0) {D : Nat} {ts : List Tr} {e p : Int} (ht : PosT P ts) (he : P e) (h : cmdR D ts e = .error p) : P p := by
 cases ts with
 | nil => cases h
 | cons x r =>
   unfold cmdR at h
   simp only at h
   split at h
   ·cases hq : Q0m D (ltl (numOf x.t.s)) s0 r e with
    | error q =>
      rw [hq] at h
      simp only [Except.error.injEq] at h
      rw [← h]; exact (Q5u h00 D _ _).bad _ _ _ (ht.drop 1) he hq
    | ok yr =>
      obtain ⟨y, q⟩ := yr
      rw [hq] at h
      obtain ⟨m, hm⟩ := (Q5u h00 D _ _).ok _ _ _ _ hq
      cases q with
      | nil => cases h
      | cons a b =>
        simp only [Except.error.injEq] at h
        rw [← h]
        have := (ht.drop 1).drop m
        rw [show (x :: r).drop 1 = r from rfl, ← hm] at this
        exact this.kids.2.1
   ·simp only [Except.error.injEq] at h; rw [← h]; exact ht.kids.2.1
end FP
end
section
open LX TR TM CM
namespace FP
variable {P : Int → Prop}
theorem QbR {l : List Tk} {ts : List Tr} (h : Spells l ts) (hP : ∀ t ∈ l, P t.p) : PosT P ts := by
 induction h with
 | nil => intro x hx; simp [nodes] at hx
 | leaf _ _ _ ih =>
   intro x hx
   rw [nodes] at hx
   simp only [nodes, List.nil_append, List.mem_cons] at hx
   rcases hx with rfl | hx
   ·exact ⟨hP _ (List.mem_cons_self ..), hP _ (List.mem_cons_self ..)⟩
   ·exact ih (fun t ht => hP t (List.mem_cons_of_mem _ ht)) x hx
 | node _ _ _ _ ih1 ih2 =>
   intro x hx
   rw [nodes] at hx
   rcases List.mem_cons.1 hx with rfl | hx
   ·exact ⟨hP _ (List.mem_cons_self ..), hP _ (by simp)⟩
   ·rcases List.mem_append.1 hx with hx | hx
    ·exact ih1 (fun t ht => hP t (by simp [ht])) x hx
    ·exact ih2 (fun t ht => hP t (by simp [ht])) x hx
theorem QbS {s : ByteArray} {i : Nat} {l : List Tk} (h : Placed s i l) : ∀ t ∈ l, 0 ≤ t.p ∧ t.p ≤ s.size := by
 induction h with
 | nil => intro t ht; cases ht
 | cons a p t l hp ha hl hs hr hb _ ih =>
   intro u hu
   rcases List.mem_cons.1 hu with rfl | hu
   ·rw [hp]; omega
   ·exact ih u hu
def StP (P : Int → Prop) (st : List Tr) : Prop := ∀ f ∈ st.dropLast, P f.t.p
theorem StP.tail {f : Tr} {r : List Tr} (h : StP P (f :: r)) : StP P r := by
 cases r with
 | nil => intro x hx; simp at hx
 | cons g r => exact fun x hx => h x (by rw [List.dropLast_cons_cons]; exact List.mem_cons_of_mem _ hx)
theorem StP.swap {f g : Tr} {r : List Tr} (h : StP P (f :: r)) (e : g.t = f.t) : StP P (g :: r) := by
 cases r with
 | nil => intro x hx; simp at hx
 | cons a r =>
   intro x hx
   rw [List.dropLast_cons_cons] at hx
   rcases List.mem_cons.1 hx with rfl | hx
   ·rw [e]; exact h f (by rw [List.dropLast_cons_cons]; exact List.mem_cons_self ..)
   ·exact h x (by rw [List.dropLast_cons_cons]; exact List.mem_cons_of_mem _ hx)
theorem StP.more {f : Tr} {st : List Tr} (h : StP P st) (hf : P f.t.p) : StP P (f :: st) := by
 cases st with
 | nil => intro x hx; simp at hx
 | cons a r =>
   intro x hx
   rw [List.dropLast_cons_cons] at hx
   rcases List.mem_cons.1 hx with rfl | hx
   ·exact hf
   ·exact h x hx
theorem QbT {t : Tk} {st st' : List Tr} (ht : P t.p) (h : StP P st) (hs : Q0x st t = some st') : StP P st' := by
 unfold Q0x at hs
 split at hs
 ·split at hs
  ·split at hs
   ·split at hs
    ·injection hs with hs
     rw [← hs]
     exact h.tail.swap rfl
    ·cases hs
   ·cases hs
  ·split at hs
   ·injection hs with hs
    rw [← hs]
    exact h.swap rfl
   ·cases hs
 ·split at hs
  ·cases hs
  ·injection hs with hs
   rw [← hs]
   exact h.more ht
theorem Q7s {p : Int} : ∀ (l : List Tk) (st : List Tr), (∀ t ∈ l, P t.p) → StP P st → mrun l st = .error p → P p
 | [], st, _, hst, h => by
   match st, hst, h with
   | [], _, h => cases h
   | [f], _, h => cases h
   | f :: g :: r, hst, h =>
     simp only [mrun, Except.error.injEq] at h
     rw [← h]
     exact hst f (by rw [List.dropLast_cons_cons]; exact List.mem_cons_self ..)
 | t :: l, st, hl, hst, h => by
   cases hs : Q0x st t with
   | none =>
     rw [Q4t hs] at h
     simp only [Except.error.injEq] at h
     rw [← h]; exact hl t (List.mem_cons_self ..)
   | some st' =>
     rw [Q4s hs] at h
     exact Q7s l st' (fun u hu => hl u (List.mem_cons_of_mem _ hu)) (QbT (hl t (List.mem_cons_self ..)) hst hs) h
theorem QbU {D : Nat} {line : ByteArray} {k p : Int} (h : Q0L D line = .error (k, p)) : (k = 1 ∨ k = 2) ∧ 0 ≤ p ∧ p ≤ line.size := by
 unfold Q0L at h
 cases hs : scan line 0 [] with
 | error f =>
   rw [hs] at h
   simp only [Except.error.injEq, Prod.mk.injEq] at h
   have := Q8e 0 [] f hs
   obtain ⟨rfl, rfl⟩ := h
   exact ⟨.inl rfl, by omega, by omega⟩
 | ok R =>
   rw [hs] at h
   simp only at h
   obtain ⟨l, h1, h2⟩ := Q5S 0 [] R hs
   obtain rfl : R = l := by simpa using h1
   have hpos := QbS h2
   cases hp : parse R with
   | error q =>
     rw [hp] at h
     simp only [Except.error.injEq, Prod.mk.injEq] at h
     obtain ⟨rfl, rfl⟩ := h
     exact ⟨.inr rfl, Q7s (P := fun p => 0 ≤ p ∧ p ≤ (line.size : Int)) R [r0] hpos (fun x hx => by simp at hx) hp⟩
   | ok ts =>
     rw [hp] at h
     simp only at h
     cases hc : cmdR D ts line.size with
     | error q =>
       rw [hc] at h
       simp only [Except.error.injEq, Prod.mk.injEq] at h
       obtain ⟨rfl, rfl⟩ := h
       exact ⟨.inr rfl, QbQ (P := fun p => 0 ≤ p ∧ p ≤ (line.size : Int)) ⟨by omega, by omega⟩ (QbR (Q4v hp).1 hpos) ⟨by omega, by omega⟩ hc⟩
     | ok c => rw [hc] at h; cases h
end FP
end
section
open Go.RowKit LX TR TM DT CM
theorem DeepC.more {W : World} {ok : Nat → Prop} {x : Cm} (h : DeepC W (fun k => k < W.heap.size ∧ ok k) x) (n : Nat) (hn : W.heap.size ≤ n) (o : Obj) : DeepC (W.alloc o) (fun k => k < (W.alloc o).heap.size ∧ (ok k ∧ k ≠ n)) x :=
 (h.keep9 fun k hk _ => ((zB W.heap.size W).alloc (zL _) o).block k hk).weak fun k hk h => ⟨hk, h.2, by omega⟩
theorem Gq.keep {ok ok2 : Nat → Prop} {D k op : Nat} {p : Int} {s : Cs} {l : List Tr} {i : Nat} {e : Int} {y : Cm} {n bad : Int} {w w2 : World} (hk : ∀ _ : Unit, ∀ k, k < w.heap.size → ok k → w2.heap[k]? = w.heap[k]?) (ho : ∀ k, k < w.heap.size → ok k → ok2 k) (h : Gq ok D k op p s l i e y n bad w) : Gq ok2 D k op p s l i e y n bad w2 := by
 unfold Gq at h ⊢
 split
 ·rename_i q hq
  rw [hq] at h
  exact h
 ·rename_i s2 r hq
  rw [hq] at h
  obtain ⟨h1, h2, h3, h4⟩ := h
  have h5 := h4.weak (ok' := fun k => k < w.heap.size ∧ ok k ∧ ok2 k) fun k hk h => ⟨hk, h, ho k hk h⟩
  exact ⟨h1, h2, h3, (h5.keep9 fun k hk2 h => hk () k hk2 h.2.1).weak fun k _ h => h.2.2⟩
namespace DT
theorem QbV (N : Nat) (p : Int) (w : World) (ok : Nat → Prop) : DeepC w ok (cmd0 N p) := ⟨SlC.nil _ _ _, zL _, SlC.nil _ _ _, zL _, Q26 _ _, Q26 _ _⟩
theorem Q7t (D : Nat) : ∀ (a b : List Nat) (s : Cs) (ts : List Tr) (e : Int), Q0m D (a ++ b) s ts e = bnd (Q0m D a s ts e) fun s2 r => Q0m D b s2 r e
 | [], b, s, ts, e => rfl
 | j :: a, b, s, ts, e => by
   show bnd (Q0b D j s ts e) (fun s2 r => Q0m D (a ++ b) s2 r e) = bnd (bnd (Q0b D j s ts e) fun s2 r => Q0m D a s2 r e) _
   cases Q0b D j s ts e with
   | error p => rfl
   | ok yr => exact Q7t D a b yr.1 yr.2 e
theorem QbW {D pos k : Nat} {ks : List Nat} {s s1 : Cs} {ts r : List Tr} {e q : Int} (h : Q0m D (ks.take pos) s ts e = .ok (s1, r)) (h2 : ks.take (pos + 1) = ks.take pos ++ [k]) (h3 : Q0b D k s1 r e = .error q) : Q0m D ks s ts e = .error q := by
 have h4 : ks = ks.take pos ++ ([k] ++ ks.drop (pos + 1)) := by rw [← List.append_assoc, ← h2, List.take_append_drop]
 rw [h4, Q7t, h]
 show bnd (Q0b D k s1 r e) _ = _
 rw [h3]; rfl
theorem QbX {D pos k : Nat} {ks : List Nat} {s s1 s2 : Cs} {ts r r2 : List Tr} {e : Int} (h : Q0m D (ks.take pos) s ts e = .ok (s1, r)) (h2 : ks.take (pos + 1) = ks.take pos ++ [k]) (h3 : Q0b D k s1 r e = .ok (s2, r2)) : Q0m D (ks.take (pos + 1)) s ts e = .ok (s2, r2) := by
 rw [h2, Q4N, h]
 exact h3
def numT (x : Tk) : Nat := if x.k = 97 then numOf x.s else 0
theorem QbY (x : Tk) : numT x < 16 := by unfold numT; split; exact Q3j _; omega
theorem QbZ {x : Tk} {k : Nat} (h1 : 1 ≤ k) (h2 : k < 16) : numT x = k ↔ x.k = 97 ∧ x.s = wrd k := by
 rw [Q45 h2]
 unfold numT
 by_cases h : x.k = 97
 ·rw [if_pos h, ← Qap h1 h2]
  exact ⟨fun e => ⟨h, e.symm⟩, fun e => e.2.symm⟩
 ·rw [if_neg h]
  exact ⟨fun e => absurd e (by omega), fun e => absurd e.1 h⟩
theorem Qc0 {D : Nat} {x : Tr} {r : List Tr} {e : Int} (h : numT x.t ≠ 0) : cmdR D (x :: r) e = match Q0m D (ltl (numT x.t)) s0 r e with
 | .error p => .error p
 | .ok (s, []) => .ok (finC (numT x.t) x.t.p s)
 | .ok (_, y :: _) => .error y.t.p := by
 unfold numT at h ⊢
 by_cases hk : x.t.k = 97
 ·rw [if_pos hk] at h ⊢
  unfold cmdR
  simp only
  rw [if_pos ⟨hk, h⟩]
  rfl
 ·rw [if_neg hk] at h
  exact absurd rfl h
theorem Qc1 {D : Nat} {x : Tr} {r : List Tr} {e : Int} (h : numT x.t = 0) : cmdR D (x :: r) e = .error x.t.p := by
 unfold numT at h
 unfold cmdR
 simp only
 rw [if_neg]
 rintro ⟨h1, h2⟩
 rw [if_pos h1] at h
 exact h2 h
theorem Qc2 {N : Nat} (h : N < 16) : (ltr (N : Int)).size ≤ 3 := by
 have : ∀ N : Fin 16, (ltr (N.val : Int)).size ≤ 3 := by decide
 exact this ⟨N, h⟩
theorem Qc3 (j : Nat) (k : Int) : (cv c0)[j]? ≠ some (.int .u8 k) := fun h => by
 have h1 : Value.int .u8 k ∈ (cv c0).toList := Array.mem_toList_iff.2 (Array.mem_of_getElem? h)
 simp [cv, c0, w0, n0, nd, Nd.k, Nd.p, Nd.s, Nd.A, Nd.c, Nd.ws, Nd.B, Nd.d, Nd.ks] at h1
theorem Qc4 (j : Nat) (k : Int) : (#[Value.int .i64 0, .int .i64 0])[j]? ≠ some (.int .u8 k) := fun h => by
 have h1 : Value.int .u8 k ∈ (#[Value.int .i64 0, .int .i64 0]).toList := Array.mem_toList_iff.2 (Array.mem_of_getElem? h)
 simp at h1
theorem Qc5 (N : Nat) (p : Int) : HoldD N p (cmd0 N p) s0 := ⟨rfl, rfl, rfl, rfl, rfl, rfl, Q3c, Q3c, fun z hz => by cases hz⟩
theorem Qc6 {N : Nat} {p : Int} {x : Cm} {s : Cs} (h : HoldD N p x s) : erc x = finC N p s := by
 obtain ⟨h1, h2, h3, h4, h5, h6, h7, h8, _⟩ := h
 unfold erc finC
 rw [h1, h2, h3, h4, h5, h6, h7, h8]
theorem Qc7 {N pos : Nat} (h : N < 16) (hp : pos < (ltr (N : Int)).size) (ht : isT ((ltr (N : Int))[pos]'hp).toNat = true) : (((ltl (N : Int)).take pos).filter isT).length ≤ 1 := by
 have h1 := Q3K hp
 have h2 : (((ltl (N : Int)).take (pos + 1)).filter isT).length = (((ltl (N : Int)).take pos).filter isT).length + 1 := by
  rw [h1, List.filter_append, zA7, List.filter_cons_of_pos ht]; rfl
 have h3 : (((ltl (N : Int)).take (pos + 1)).filter isT).length ≤ ((ltl (N : Int)).filter isT).length := ((List.take_sublist _ _).filter _).length_le
 rcases Q4S h with h4 | h4 <;> omega
end DT
theorem Q7u {ok : Nat → Prop} {d op : Nat} (k : Nat) (hk : k ∈ LET) {p : Int} {s : Cs} (x : Cm) (A : Option Addr) (c : Nat) (l : List Tr) (i : Nat) (e : Int) (w : World) (hok : ∀ k, w.heap.size ≤ k → ok k) (hT : Trs w w.heap.size A l) (hF : Fw l) (hi : i ≤ l.length) (hN : (nodes (l.drop i)).length ≤ d) (hts : isT k = true → s.ts.length ≤ 1) (hH : HoldD op p x s) (hD : DeepC w (fun k => k < w.heap.size ∧ ok k) x) :
 Calls Tryz.prog 26 #[.agg (cv x), .int .u8 (k : Int), .slice A l.length c, .int .i64 (i : Int), .int .i64 e] w fun e' w' => ∃ y n bad, e' = .returned (.tuple #[.agg (cv y), .int .i64 n, .int .i64 bad]) ∧ Gq ok (d + 1) k op p s l i e y n bad w' ∧ Below w.heap.size w w' := by
 simp only [LET, List.mem_cons, List.not_mem_nil, or_false] at hk
 rcases hk with rfl | rfl | rfl | rfl | rfl | rfl
 ·exact Q9B x A c l i e w hok hT hF.1 hH hD
 ·exact QaX x A c l i e w hok hT hF hH hD
 ·exact Q9C x A c l i e w hok hT hF.1 hH hD
 ·exact QaY x A c l i e w hok hT hF hH hD
 ·exact Q72 (.inl rfl) x A c l i e w hok hT hF hi hN (hts rfl) hH hD
 ·exact Q72 (.inr rfl) x A c l i e w hok hT hF hi hN (hts rfl) hH hD
theorem Qc8 (s : ByteArray) (w : World) (hl : s.size ≤ 1048576) :
 Calls Tryz.prog 9 #[.string s] w fun e' w' => Q3f (s.size + 1) s w.heap.size e' w w' := by
 have hg0 := RowAt.new w 31 (cv c0)
 have hg1 := RowAt.new (w.alloc (.cells (cv c0) 31)) 33 #[.int .i64 0, .int .i64 0]
 rw [show (w.alloc (.cells (cv c0) 31)).heap.size = w.heap.size + 1 by simp] at hg1
 have HGC1 := zh (hg0.alloc (.cells #[.int .i64 0, .int .i64 0] 33))
 have HGF1 := zh hg1
 have hb1 : Below w.heap.size w ((w.alloc (.cells (cv c0) 31)).alloc (.cells #[.int .i64 0, .int .i64 0] 33)) := ((zB _ _).alloc (zL _) _).alloc (by simp) _
 have HB1 := zh hb1
 clear hg0 hg1 hb1
 refine Q0e fun Q' hQ => ?_
 have HQ := zh hQ; clear hQ
 go_enter Tryz.func9, Tryz.ntmps9
 go_upto_region 1 with fail
 change Code.wp _ _ _ _ ((w.alloc (.cells (cv c0) 31)).alloc (.cells #[.int .i64 0, .int .i64 0] 33))
 generalize (w.alloc (.cells (cv c0) 31)).alloc (.cells #[.int .i64 0, .int .i64 0] 33) = w1 at *
 have hz1 : w.heap.size + 1 < w1.heap.size := HGF1.out.lt
 have HRD := zh (Qa4 s w1 (by omega))
 go_wp2_with fail
 refine HRD.out.mono ?_
 rintro e' w2 ⟨hb2, hrd⟩
 have HGC2' := zh (HGC1.out.below hb2 (by omega))
 have HGF2' := zh (HGF1.out.below hb2 (by omega))
 have HB2 : Hid (Below w.heap.size w w2) := zh (HB1.out.trans (hb2.mono (by omega)))
 have hz2 : w.heap.size + 1 < w2.heap.size := HGF2'.out.lt
 clear HRD HGC1 HGF1 HB1 hb2
 cases hsc : scan s 0 [] with
 | error p =>
   rw [hsc] at hrd
   subst hrd
   have HR := zh (Q6z (D := (s.size + 1)) hsc)
   have hb3 : Below w2.heap.size w2 (w2.alloc (.cells #[.int .i64 1, .int .i64 (p : Int)] 33)) := (zB _ _).alloc (zL _) _
   have h5n := RowAt.new w2 33 #[.int .i64 1, .int .i64 (p : Int)]
   have HGC := zh (HGC2'.out.below hb3 (by omega))
   have HGF := zh (HGF2'.out.below hb3 (by omega))
   have HB := zh (HB2.out.trans (hb3.mono (by omega)))
   have H5 := zh h5n
   clear hb3 h5n HGC2' HGF2' HB2 hsc
   go_upto_region 3 with fail
   generalize hg5 : w2.heap.size = g5 at *
   generalize w2.alloc (.cells #[.int .i64 1, .int .i64 (p : Int)] 33) = w3 at *
   have hz5 : w.heap.size + 1 < g5 := hz2
   clear hg5
   have HGC2 : Hid (RowAt (w3.drew.setRow w.heap.size (cv c0)) w.heap.size 31 (cv c0)) := zh (HGC.out.drew.setRow (cv c0))
   have HGF2 : Hid (RowAt (w3.drew.setRow w.heap.size (cv c0)) (w.heap.size + 1) 33 #[.int .i64 0, .int .i64 0]) := zh ((setRow_other w3.drew w.heap.size (w.heap.size + 1) _ (by omega)).trans HGF.out.drew)
   have HGF3 : Hid (RowAt ((w3.drew.setRow w.heap.size (cv c0)).setRow (w.heap.size + 1) #[.int .i64 1, .int .i64 (p : Int)]) (w.heap.size + 1) 33 #[.int .i64 1, .int .i64 (p : Int)]) := zh (HGF2.out.setRow #[.int .i64 1, .int .i64 (p : Int)])
   have HGC3 : Hid (RowAt ((w3.drew.setRow w.heap.size (cv c0)).setRow (w.heap.size + 1) #[.int .i64 1, .int .i64 (p : Int)]) w.heap.size 31 (cv c0)) := zh ((setRow_other (w3.drew.setRow w.heap.size (cv c0)) (w.heap.size + 1) w.heap.size _ (by omega)).trans HGC2.out)
   have HB3 : Hid (Below w.heap.size w ((w3.drew.setRow w.heap.size (cv c0)).setRow (w.heap.size + 1) #[.int .i64 1, .int .i64 (p : Int)])) := zh ((HB.out.drew.trans (below_setRow (zL _) _)).trans (below_setRow (by omega) _))
   have HGFz : Hid (RowAt (((w3.drew.setRow w.heap.size (cv c0)).setRow (w.heap.size + 1) #[.int .i64 1, .int .i64 (p : Int)])) (w.heap.size + 1) 33 #[.int .i64 1, .int .i64 (p : Int)]) := HGF3
   have HGCz : Hid (RowAt (((w3.drew.setRow w.heap.size (cv c0)).setRow (w.heap.size + 1) #[.int .i64 1, .int .i64 (p : Int)])) w.heap.size 31 (cv c0)) := HGC3
   have HBz : Hid (Below w.heap.size w (((w3.drew.setRow w.heap.size (cv c0)).setRow (w.heap.size + 1) #[.int .i64 1, .int .i64 (p : Int)]))) := HB3
   have HQz : Hid (Q' (.returned (.tuple #[.agg (cv c0), .agg #[.int .i64 1, .int .i64 (p : Int)]])) (((w3.drew.setRow w.heap.size (cv c0)).setRow (w.heap.size + 1) #[.int .i64 1, .int .i64 (p : Int)]))) := zh (HQ.out _ _ ⟨HBz.out, by rw [HR.out]⟩)
   have C0 : ∀ V, RowAt V g5 33 #[.int .i64 1, .int .i64 (p : Int)] → V.cell? ⟨g5, 0, none⟩ = _ := fun V h => (RowAt.cell h 0).trans rfl
   have C1 : ∀ V, RowAt V g5 33 #[.int .i64 1, .int .i64 (p : Int)] → V.cell? ⟨g5, 1, none⟩ = _ := fun V h => (RowAt.cell h 1).trans rfl
   have HS1 : Hid (RowAt (w3.drew.setRow w.heap.size (cv c0)) g5 33 #[.int .i64 1, .int .i64 (p : Int)]) := zh ((setRow_other w3.drew w.heap.size g5 _ (by omega)).trans (H5.out.drew))
   have HS2 : Hid (RowAt ((w3.drew.setRow w.heap.size (cv c0)).setRow (w.heap.size + 1) #[.int .i64 1, .int .i64 (p : Int)]) g5 33 #[.int .i64 1, .int .i64 (p : Int)]) := zh ((setRow_other (w3.drew.setRow w.heap.size (cv c0)) (w.heap.size + 1) g5 _ (by omega)).trans HS1.out)
   have HGC1 := zh HGC.out.drew
   refine Q0y (fun V => RowAt V g5 33 #[.int .i64 1, .int .i64 (p : Int)]) ((.take 0 (.take 1 (.solo 2 (.solo 3 .nil))))) (by kernel_rfl) (by kernel_rfl) rfl (by kernel_rfl) (H5.out.drew) ?_
   iterate 2
    (refine Q07 (zO rfl) ?_)
    (first
         | (refine Q08 (by rfl) ?_)
         | (refine Q03 (v := ?_) (by rfl) ?_ ?_; rotate_left 1; (intro wx hSx; have hc_0 := C0 wx hSx; have hc_1 := C1 wx hSx; go_simp; try with_reducible rfl)))
    (try simp only [Act.put, zA4, zA5, zA6])
   (refine Q02 (zO rfl) ?_)
   intro K hK
   rw [if_pos (by rfl)]
   refine wp_store_row _ _ _ rfl w.heap.size (cv c0) rfl rfl _ _ HGC1.out (Q01 c0) rfl (by simp [cv, Value.oneCell']) ?_
   refine hK.out _ _ HS1.out ?_
   clear hK K
   (try simp only [Act.put, zA4, zA5, zA6])
   (refine Q02 (zO rfl) ?_)
   intro K hK
   rw [if_pos (by rfl)]
   refine wp_store_row _ _ _ rfl (w.heap.size + 1) #[.int .i64 1, .int .i64 (p : Int)] rfl rfl _ _ HGF2.out (Q06 _ _) rfl (by simp [Value.oneCell']) ?_
   refine hK.out _ _ HS2.out ?_
   clear hK K
   (try simp only [Act.put, zA4, zA5, zA6])
   refine Q0s ?_
   go_wp2_with fail
   exact bodyPost_ret (Q1u rfl _ _ w.heap.size (w.heap.size + 1) _ _ _ _ _ _ rfl rfl HGCz.out HGFz.out Tryz.underlying31 rfl (Q01 c0) Tryz.underlying33 rfl (Q06 _ _)) rfl (HQz.out)
 | ok R =>
   rw [hsc] at hrd
   obtain ⟨A, c, rfl, hown⟩ := hrd
   have HTK := zh (Sl.of_own hown)
   have hb3 : Below w2.heap.size w2 (w2.alloc (.cells #[.int .i64 0, .int .i64 0] 33)) := (zB _ _).alloc (zL _) _
   have h5n := RowAt.new w2 33 #[.int .i64 0, .int .i64 0]
   have HGC := zh (HGC2'.out.below hb3 (by omega))
   have HGF := zh (HGF2'.out.below hb3 (by omega))
   have HB := zh (HB2.out.trans (hb3.mono (by omega)))
   have HTK3 : Hid (Toks (w2.alloc (.cells #[.int .i64 0, .int .i64 0] 33)) A R) := zh (Toks.below HTK.out hb3)
   obtain ⟨k0', k1', _, _⟩ := row2 h5n
   have hRl : R.length ≤ s.size := by have := Q5B 0 [] R hsc (Nat.zero_le _); simpa using this
   have HSC := zh hsc
   clear hb3 h5n HGC2' HGF2' HB2 hsc hown HTK
   go_upto_region 4 with fail
   clear k0' k1'
   generalize hg5 : w2.heap.size = g5 at *
   generalize w2.alloc (.cells #[.int .i64 0, .int .i64 0] 33) = w3 at *
   have hz5 : w.heap.size + 1 < g5 := hz2
   clear hg5
   have HTR := zh (Qdw A c R w3 (by omega) HTK3.out)
   go_wp2_with fail
   refine HTR.out.mono ?_
   rintro e' w4 ⟨hb4, hrt⟩
   have HGC4 := zh (HGC.out.below hb4 (by have := HGC.out.lt; omega))
   have HGF4 := zh (HGF.out.below hb4 (by have := HGF.out.lt; omega))
   have HB4 : Hid (Below w.heap.size w w4) := zh (HB.out.trans (hb4.mono (by have := HGF.out.lt; omega)))
   have hz4 : w.heap.size + 1 < w4.heap.size := HGF4.out.lt
   clear HTR HGC HGF HB hb4 HTK3
   cases hps : parse R with
   | error p =>
     rw [hps] at hrt
     subst hrt
     have HR := zh (Q6A (D := (s.size + 1)) HSC.out hps)
     have hb3 : Below w4.heap.size w4 (w4.alloc (.cells #[.int .i64 2, .int .i64 p] 33)) := (zB _ _).alloc (zL _) _
     have h5n := RowAt.new w4 33 #[.int .i64 2, .int .i64 p]
     have HGC := zh (HGC4.out.below hb3 (by omega))
     have HGF := zh (HGF4.out.below hb3 (by omega))
     have HB := zh (HB4.out.trans (hb3.mono (by omega)))
     have H5 := zh h5n
     clear hb3 h5n HGC4 HGF4 HB4 hps
     go_upto_region 6 with fail
     generalize hg7 : w4.heap.size = g7 at *
     generalize w4.alloc (.cells #[.int .i64 2, .int .i64 p] 33) = w5 at *
     have hz7 : w.heap.size + 1 < g7 := hz4
     clear hg7
     have HGC2 : Hid (RowAt (w5.drew.setRow w.heap.size (cv c0)) w.heap.size 31 (cv c0)) := zh (HGC.out.drew.setRow (cv c0))
     have HGF2 : Hid (RowAt (w5.drew.setRow w.heap.size (cv c0)) (w.heap.size + 1) 33 #[.int .i64 0, .int .i64 0]) := zh ((setRow_other w5.drew w.heap.size (w.heap.size + 1) _ (by omega)).trans HGF.out.drew)
     have HGF3 : Hid (RowAt ((w5.drew.setRow w.heap.size (cv c0)).setRow (w.heap.size + 1) #[.int .i64 2, .int .i64 p]) (w.heap.size + 1) 33 #[.int .i64 2, .int .i64 p]) := zh (HGF2.out.setRow #[.int .i64 2, .int .i64 p])
     have HGC3 : Hid (RowAt ((w5.drew.setRow w.heap.size (cv c0)).setRow (w.heap.size + 1) #[.int .i64 2, .int .i64 p]) w.heap.size 31 (cv c0)) := zh ((setRow_other (w5.drew.setRow w.heap.size (cv c0)) (w.heap.size + 1) w.heap.size _ (by omega)).trans HGC2.out)
     have HB3 : Hid (Below w.heap.size w ((w5.drew.setRow w.heap.size (cv c0)).setRow (w.heap.size + 1) #[.int .i64 2, .int .i64 p])) := zh ((HB.out.drew.trans (below_setRow (zL _) _)).trans (below_setRow (by omega) _))
     have HGFz : Hid (RowAt (((w5.drew.setRow w.heap.size (cv c0)).setRow (w.heap.size + 1) #[.int .i64 2, .int .i64 p])) (w.heap.size + 1) 33 #[.int .i64 2, .int .i64 p]) := HGF3
     have HGCz : Hid (RowAt (((w5.drew.setRow w.heap.size (cv c0)).setRow (w.heap.size + 1) #[.int .i64 2, .int .i64 p])) w.heap.size 31 (cv c0)) := HGC3
     have HBz : Hid (Below w.heap.size w (((w5.drew.setRow w.heap.size (cv c0)).setRow (w.heap.size + 1) #[.int .i64 2, .int .i64 p]))) := HB3
     have HQz : Hid (Q' (.returned (.tuple #[.agg (cv c0), .agg #[.int .i64 2, .int .i64 p]])) (((w5.drew.setRow w.heap.size (cv c0)).setRow (w.heap.size + 1) #[.int .i64 2, .int .i64 p]))) := zh (HQ.out _ _ ⟨HBz.out, by rw [HR.out]⟩)
     have C0 : ∀ V, RowAt V g7 33 #[.int .i64 2, .int .i64 p] → V.cell? ⟨g7, 0, none⟩ = _ := fun V h => (RowAt.cell h 0).trans rfl
     have C1 : ∀ V, RowAt V g7 33 #[.int .i64 2, .int .i64 p] → V.cell? ⟨g7, 1, none⟩ = _ := fun V h => (RowAt.cell h 1).trans rfl
     have HS1 : Hid (RowAt (w5.drew.setRow w.heap.size (cv c0)) g7 33 #[.int .i64 2, .int .i64 p]) := zh ((setRow_other w5.drew w.heap.size g7 _ (by omega)).trans (H5.out.drew))
     have HS2 : Hid (RowAt ((w5.drew.setRow w.heap.size (cv c0)).setRow (w.heap.size + 1) #[.int .i64 2, .int .i64 p]) g7 33 #[.int .i64 2, .int .i64 p]) := zh ((setRow_other (w5.drew.setRow w.heap.size (cv c0)) (w.heap.size + 1) g7 _ (by omega)).trans HS1.out)
     have HGC1 := zh HGC.out.drew
     refine Q0y (fun V => RowAt V g7 33 #[.int .i64 2, .int .i64 p]) ((.take 0 (.take 1 (.solo 2 (.solo 3 .nil))))) (by kernel_rfl) (by kernel_rfl) rfl (by kernel_rfl) (H5.out.drew) ?_
     iterate 2
        (refine Q07 (zO rfl) ?_)
        (first
           | (refine Q08 (by rfl) ?_)
           | (refine Q03 (v := ?_) (by rfl) ?_ ?_; rotate_left 1; (intro wx hSx; have hc_0 := C0 wx hSx; have hc_1 := C1 wx hSx; go_simp; try with_reducible rfl)))
        (try simp only [Act.put, zA4, zA5, zA6])
     (refine Q02 (zO rfl) ?_)
     intro K hK
     rw [if_pos (by rfl)]
     refine wp_store_row _ _ _ rfl w.heap.size (cv c0) rfl rfl _ _ HGC1.out (Q01 c0) rfl (by simp [cv, Value.oneCell']) ?_
     refine hK.out _ _ HS1.out ?_
     clear hK K
     (try simp only [Act.put, zA4, zA5, zA6])
     (refine Q02 (zO rfl) ?_)
     intro K hK
     rw [if_pos (by rfl)]
     refine wp_store_row _ _ _ rfl (w.heap.size + 1) #[.int .i64 2, .int .i64 p] rfl rfl _ _ HGF2.out (Q06 _ _) rfl (by simp [Value.oneCell']) ?_
     refine hK.out _ _ HS2.out ?_
     clear hK K
     (try simp only [Act.put, zA4, zA5, zA6])
     refine Q0s ?_
     go_wp2_with fail
     exact bodyPost_ret (Q1u rfl _ _ w.heap.size (w.heap.size + 1) _ _ _ _ _ _ rfl rfl HGCz.out HGFz.out Tryz.underlying31 rfl (Q01 c0) Tryz.underlying33 rfl (Q06 _ _)) rfl (HQz.out)
   | ok ts =>
     rw [hps] at hrt
     obtain ⟨X, d, us, rfl, her, hcap, htrs⟩ := hrt
     have HR := zh (Q3T (D := (s.size + 1)) HSC.out hps)
     have HFEW : (nodes us).length ≤ s.size := by have h := Q5C s; rw [Q4n HSC.out hps, ← her, TR.Q85] at h; exact h
     have HER := zh her
     have hb3 : Below w4.heap.size w4 (w4.alloc (.cells #[.int .i64 0, .int .i64 0] 33)) := (zB _ _).alloc (zL _) _
     have h5n := RowAt.new w4 33 #[.int .i64 0, .int .i64 0]
     have HGC5 := zh (HGC4.out.below hb3 (by omega))
     have HGF5 := zh (HGF4.out.below hb3 (by omega))
     have HB5 := zh (HB4.out.trans (hb3.mono (by omega)))
     have HTRS := zh (htrs.below hb3)
     have H5 := zh h5n
     have h5z : w4.heap.size < (w4.alloc (.cells #[.int .i64 0, .int .i64 0] 33)).heap.size := h5n.lt
     obtain ⟨k0, k1, _, _⟩ := row2 h5n
     clear her htrs hps hb3 h5n HGC4 HGF4 HB4
     cases us with
     | nil =>
       have HR2 : Hid (Q0L (s.size + 1) s = .ok c0) := zh (by rw [HR.out, ← HER.out, Q4b]; rfl)
       have HGC := HGC5
       have HGF := HGF5
       have HB := HB5
       go_upto_region 6 with fail
       clear k0 k1
       generalize hg7 : w4.heap.size = g7 at *
       generalize w4.alloc (.cells #[.int .i64 0, .int .i64 0] 33) = w5 at *
       have hz7 : w.heap.size + 1 < g7 := hz4
       clear hg7
       have HGC2 : Hid (RowAt (w5.drew.setRow w.heap.size (cv c0)) w.heap.size 31 (cv c0)) := zh (HGC.out.drew.setRow (cv c0))
       have HGF2 : Hid (RowAt (w5.drew.setRow w.heap.size (cv c0)) (w.heap.size + 1) 33 #[.int .i64 0, .int .i64 0]) := zh ((setRow_other w5.drew w.heap.size (w.heap.size + 1) _ (by omega)).trans HGF.out.drew)
       have HGF3 : Hid (RowAt ((w5.drew.setRow w.heap.size (cv c0)).setRow (w.heap.size + 1) #[.int .i64 0, .int .i64 0]) (w.heap.size + 1) 33 #[.int .i64 0, .int .i64 0]) := zh (HGF2.out.setRow #[.int .i64 0, .int .i64 0])
       have HGC3 : Hid (RowAt ((w5.drew.setRow w.heap.size (cv c0)).setRow (w.heap.size + 1) #[.int .i64 0, .int .i64 0]) w.heap.size 31 (cv c0)) := zh ((setRow_other (w5.drew.setRow w.heap.size (cv c0)) (w.heap.size + 1) w.heap.size _ (by omega)).trans HGC2.out)
       have HB3 : Hid (Below w.heap.size w ((w5.drew.setRow w.heap.size (cv c0)).setRow (w.heap.size + 1) #[.int .i64 0, .int .i64 0])) := zh ((HB.out.drew.trans (below_setRow (zL _) _)).trans (below_setRow (by omega) _))
       have HGFz : Hid (RowAt (((w5.drew.setRow w.heap.size (cv c0)).setRow (w.heap.size + 1) #[.int .i64 0, .int .i64 0])) (w.heap.size + 1) 33 #[.int .i64 0, .int .i64 0]) := HGF3
       have HGCz : Hid (RowAt (((w5.drew.setRow w.heap.size (cv c0)).setRow (w.heap.size + 1) #[.int .i64 0, .int .i64 0])) w.heap.size 31 (cv c0)) := HGC3
       have HBz : Hid (Below w.heap.size w (((w5.drew.setRow w.heap.size (cv c0)).setRow (w.heap.size + 1) #[.int .i64 0, .int .i64 0]))) := HB3
       have HQz : Hid (Q' (.returned (.tuple #[.agg (cv c0), .agg #[.int .i64 0, .int .i64 0]])) (((w5.drew.setRow w.heap.size (cv c0)).setRow (w.heap.size + 1) #[.int .i64 0, .int .i64 0]))) := zh (HQ.out _ _ ⟨HBz.out, by rw [HR2.out]; exact ⟨c0, rfl, Q3U, Q51 _ _⟩⟩)
       have C0 : ∀ V, RowAt V g7 33 #[.int .i64 0, .int .i64 0] → V.cell? ⟨g7, 0, none⟩ = _ := fun V h => (RowAt.cell h 0).trans rfl
       have C1 : ∀ V, RowAt V g7 33 #[.int .i64 0, .int .i64 0] → V.cell? ⟨g7, 1, none⟩ = _ := fun V h => (RowAt.cell h 1).trans rfl
       have HS1 : Hid (RowAt (w5.drew.setRow w.heap.size (cv c0)) g7 33 #[.int .i64 0, .int .i64 0]) := zh ((setRow_other w5.drew w.heap.size g7 _ (by omega)).trans (H5.out.drew))
       have HS2 : Hid (RowAt ((w5.drew.setRow w.heap.size (cv c0)).setRow (w.heap.size + 1) #[.int .i64 0, .int .i64 0]) g7 33 #[.int .i64 0, .int .i64 0]) := zh ((setRow_other (w5.drew.setRow w.heap.size (cv c0)) (w.heap.size + 1) g7 _ (by omega)).trans HS1.out)
       have HGC1 := zh HGC.out.drew
       refine Q0y (fun V => RowAt V g7 33 #[.int .i64 0, .int .i64 0]) ((.take 0 (.take 1 (.solo 2 (.solo 3 .nil))))) (by kernel_rfl) (by kernel_rfl) rfl (by kernel_rfl) (H5.out.drew) ?_
       iterate 2
        (refine Q07 (zO rfl) ?_)
        (first
         | (refine Q08 (by rfl) ?_)
         | (refine Q03 (v := ?_) (by rfl) ?_ ?_; rotate_left 1; (intro wx hSx; have hc_0 := C0 wx hSx; have hc_1 := C1 wx hSx; go_simp; try with_reducible rfl)))
        (try simp only [Act.put, zA4, zA5, zA6])
       (refine Q02 (zO rfl) ?_)
       intro K hK
       rw [if_pos (by rfl)]
       refine wp_store_row _ _ _ rfl w.heap.size (cv c0) rfl rfl _ _ HGC1.out (Q01 c0) rfl (by simp [cv, Value.oneCell']) ?_
       refine hK.out _ _ HS1.out ?_
       clear hK K
       (try simp only [Act.put, zA4, zA5, zA6])
       (refine Q02 (zO rfl) ?_)
       intro K hK
       rw [if_pos (by rfl)]
       refine wp_store_row _ _ _ rfl (w.heap.size + 1) #[.int .i64 0, .int .i64 0] rfl rfl _ _ HGF2.out (Q06 _ _) rfl (by simp [Value.oneCell']) ?_
       refine hK.out _ _ HS2.out ?_
       clear hK K
       (try simp only [Act.put, zA4, zA5, zA6])
       refine Q0s ?_
       go_wp2_with fail
       exact bodyPost_ret (Q1u rfl _ _ w.heap.size (w.heap.size + 1) _ _ _ _ _ _ rfl rfl HGCz.out HGFz.out Tryz.underlying31 rfl (Q01 c0) Tryz.underlying33 rfl (Q06 _ _)) rfl (HQz.out)
     | cons y r =>
       have hne0 : (((y :: r).length : Int) == 0) = false := by rw [beq_eq_false_iff_ne]; simp only [zA8]; omega
       have HR2 : Hid (∀ u, cmdR (s.size + 1) (y :: r) s.size = u → Q0L (s.size + 1) s = match u with
           | .error p => .error (2, p)
           | .ok c => .ok c) := zh fun u hu => by rw [HR.out, ← HER.out, Q4b, hu]; cases u <;> rfl
       obtain ⟨bb, o, rfl, hbb, hc⟩ := HTRS.out.at (k := 0) (by simp)
       obtain ⟨b0, b1, b2, _, _⟩ := hc 0 (by simp)
       simp only [List.getD_cons_zero, Nat.zero_mul, Nat.add_zero] at b0 b1 b2
       have hlt : (0 : Int) < ((y :: r).length : Int) := by simp only [zA8]; omega
       obtain ⟨l, hly⟩ : ∃ l, l = y :: r := ⟨_, rfl⟩
       have hyl : y :: r = l := hly.symm
       have HYL := zh hly
       have hM1 := QbY y.t
       have HMI : Hid (∀ k, 1 ≤ k → k < 16 → (numT y.t = k ↔ y.t.k = 97 ∧ y.t.s = wrd k)) := zh fun k h1 h2 => QbZ h1 h2
       have HCN : Hid (numT y.t ≠ 0 → cmdR (s.size + 1) l s.size = match Q0m (s.size + 1) (ltl (numT y.t)) s0 (l.drop 1) s.size with
        | .error p => .error p
        | .ok (s, []) => .ok (finC (numT y.t) y.t.p s)
        | .ok (_, y :: _) => .error y.t.p) := zh fun h => by rw [hly]; exact Qc0 h
       have HC0 : Hid (numT y.t = 0 → cmdR (s.size + 1) l s.size = .error y.t.p) := zh fun h => by rw [hly]; exact Qc1 h
       rw [hyl] at hlt hne0 HTRS HFEW HR2 hcap ⊢
       have hlen : 1 ≤ l.length := by omega
       have hlt0 : 0 < l.length := hlen
       have HFW : Hid (Fw l) := zh (QcG (by omega))
       clear hc hyl hly HR HER
       generalize hMM : numT y.t = M at *
       clear hMM
       generalize y.t.k = yk at *
       generalize y.t.s = ys at *
       generalize y.t.p = yp at *
       generalize hln : l.length = n at *
       have HLN := zh hln; clear hln
       clear HYL
       go_upto_region 7 with fail
       clear k0 k1 hne0
       generalize hg7 : w4.heap.size = g7 at *
       generalize w4.alloc (.cells #[.int .i64 0, .int .i64 0] 33) = w5 at *
       have hz7 : w.heap.size + 1 < w5.heap.size := by omega
       clear hg7 H5
       have HN8 := zh (RowAt.new w5 31 (cv c0))
       have hb8 : Below w5.heap.size w5 ((w5.alloc (.cells (cv c0) 31)).setRow w5.heap.size (cv (cmd0 0 yp))) := ((zB _ _).alloc (zL _) _).trans (below_setRow (zL _) _)
       have HR8 := zh (HN8.out.setRow (cv (cmd0 0 yp)))
       have HB8 := zh hb8
       clear hb8
       go_upto_region 8 with (first | (refine wpList_store_row rfl _ _ _ rfl w5.heap.size (cv (cmd0 0 yp)) rfl rfl _ _ HN8.out (Q01 _) rfl (by simp [cv, cmd0, Value.oneCell']) ?_))
       clear HN8
       change Code.wp _ _ _ _ ((w5.alloc (.cells (cv c0) 31)).setRow w5.heap.size (cv (cmd0 0 yp)))
       generalize (w5.alloc (.cells (cv c0) 31)).setRow w5.heap.size (cv (cmd0 0 yp)) = w8 at *
       obtain ⟨g8, hg8⟩ : ∃ g8, g8 = w5.heap.size := ⟨_, rfl⟩
       rw [← hg8] at HR8 HB8 hz7 h5z ⊢
       have HTRW : Hid (∀ W, Below g8 w5 W → Trs W W.heap.size (some ⟨bb, o, none⟩) l) := zh fun W hW => by
        have hs := hW.size
        rw [← hg8] at hs
        exact ((HTRS.out.mono (Nat.le_of_lt h5z)).below hW).mono hs
       have K0 : ∀ W, Below g8 w5 W → W.cell? ⟨bb, o, none⟩ = _ := fun W hW => (hW.cell (p := ⟨bb, o, none⟩) (by show bb < g8; omega)).trans b0
       have K1 : ∀ W, Below g8 w5 W → W.cell? ⟨bb, o + 1, none⟩ = _ := fun W hW => (hW.cell (p := ⟨bb, o + 1, none⟩) (by show bb < g8; omega)).trans b1
       clear b0 b1 b2 hg8
       go_wp2_with fail
       go_loopw [9] (fun ov wr => ∃ k : Nat, ov = .int .i64 (k : Int) ∧ 1 ≤ k ∧ k ≤ 16 ∧ Hid (RowAt wr g8 31 (cv (cmd0 (if M < k then M else 0) yp))) ∧ Hid (Below g8 w5 wr)) (fun ov _ => 16 - (intOf ov).toNat)
       case atStart => exact ⟨1, rfl, by omega, by omega, by rw [show (if M < 1 then M else 0) = 0 by split <;> omega]; exact HR8.out, HB8.out⟩
       case round =>
        obtain ⟨k, rfl, hk1, hk2, HR, HB⟩ := hrel
        clear HR8 HB8
        by_cases hlt15 : k ≤ 15
        ·have e15 : decide ((k : Int) ≤ 15) = true := zE (by omega)
         have e15' : decide (k ≤ 15) = true := zE hlt15
         have hmk := HMI.out k hk1 (by omega)
         have HWD := zh (QaQ (k : Int))
         obtain ⟨b, hb⟩ : ∃ b : Bool, b = decide (M = k) := ⟨_, rfl⟩
         have HBB := zh hb
         clear hb
         generalize hN : (if M < k then M else 0) = N at *
         have HN := zh hN
         clear hN
         generalize wrd (k : Int) = wk at *
         go_upto_region 11 with fail
         go_cut [66] from 51 to 66 (fun v wx => v = .bool b ∧ Hid (RowAt wx g8 31 (cv (cmd0 N yp))) ∧ Hid (Below g8 w5 wx))
         case first =>
          have q1 := NM.str_eq ys wk
          have HS1 := zh HB.out.drew
          by_cases hq : yk = 97
          ·have e97 : ((yk : Int) == 97) = true := by rw [hq]; rfl
           by_cases hM : M = k
           focus
                  obtain rfl : b = true := by rw [HBB.out]; exact zE hM
                  rw [zE (hmk.1 hM).2] at q1
                  clear hM
           rotate_left 1
           focus
                  obtain rfl : b = false := by rw [HBB.out]; exact zF hM
                  rw [zF (fun h => hM (hmk.2 ⟨hq, h⟩))] at q1
                  clear hM
           rotate_left 1
           all_goals (
                  clear hq hmk
                  refine Q0y (fun W => Below g8 w5 W) ((.take 0 (.take 1 (.take 2 (.take 3 (.take 4 (.take 5 (.take 6 (.take 7 (.take 8 (.take 9 (.take 10 (.take 11 (.take 12 (.solo 13 (.take 14 (.take 15 .nil))))))))))))))))) (by kernel_rfl) (by kernel_rfl) rfl (by kernel_rfl) HS1.out ?_
                  iterate 13
                   (refine Q07 (zO rfl) ?_)
                   (first
                    | (refine Q08 (by rfl) ?_)
                    | (refine Q03 (v := ?_) (by rfl) ?_ ?_; rotate_left 1; (intro wx hSx; have hc_0 := K0 wx hSx; have hc_1 := K1 wx hSx; go_simp; try with_reducible rfl)))
                   (try simp only [Act.put, zA4, zA5, zA6])
                  (refine Q02 (zO rfl) ?_)
                  intro K hK
                  go_simp
                  refine (HWD.out wr.drew).mono ?_
                  rintro e' w9 ⟨rfl, hb9⟩
                  have HR9 := zh (HR.out.drew.below hb9 HR.out.drew.lt)
                  have HB9 := zh (HB.out.drew.trans (hb9.mono (Nat.le_of_lt HR.out.lt)))
                  clear hb9
                  refine hK.out _ _ HB9.out ?_
                  clear hK K
                  (try simp only [Act.put, zA4, zA5, zA6])
                  iterate 2
                   (refine Q07 (zO rfl) ?_)
                   (first
                    | (refine Q08 (by rfl) ?_)
                    | (refine Q03 (v := ?_) (by rfl) ?_ ?_; rotate_left 1; (intro wx hSx; have hc_0 := K0 wx hSx; have hc_1 := K1 wx hSx; go_simp; try with_reducible rfl)))
                   (try simp only [Act.put, zA4, zA5, zA6])
                  refine Q0s ?_
                  go_wp2
                  go_meet
                  case rel => exact ⟨by first | rfl | simp, HR9.out, HB9.out⟩)
          ·have e97 : ((yk : Int) == 97) = false := by rw [beq_eq_false_iff_ne]; omega
           obtain rfl : b = false := by rw [HBB.out]; exact zF fun h => hq (hmk.1 h).1
           clear hq hmk
           refine Q0y (fun W => Below g8 w5 W) ((.take 0 (.take 1 (.take 2 (.take 3 (.take 4 (.take 5 (.take 6 (.take 7 (.take 8 (.take 9 (.take 10 (.take 11 (.take 12 (.solo 13 (.take 14 (.take 15 .nil))))))))))))))))) (by kernel_rfl) (by kernel_rfl) rfl (by kernel_rfl) HS1.out ?_
           iterate 13
                  (refine Q07 (zO rfl) ?_)
                  (first
                   | (refine Q08 (by rfl) ?_)
                   | (refine Q03 (v := ?_) (by rfl) ?_ ?_; rotate_left 1; (intro wx hSx; have hc_0 := K0 wx hSx; have hc_1 := K1 wx hSx; go_simp; try with_reducible rfl)))
                  (try simp only [Act.put, zA4, zA5, zA6])
           (refine Q02 (zO rfl) ?_)
           intro K hK
           go_simp
           refine hK.out _ _ HS1.out ?_
           clear hK K
           (try simp only [Act.put, zA4, zA5, zA6])
           iterate 2
                  (refine Q07 (zO rfl) ?_)
                  (first
                   | (refine Q08 (by rfl) ?_)
                   | (refine Q03 (v := ?_) (by rfl) ?_ ?_; rotate_left 1; (intro wx hSx; have hc_0 := K0 wx hSx; have hc_1 := K1 wx hSx; go_simp; try with_reducible rfl)))
                  (try simp only [Act.put, zA4, zA5, zA6])
           refine Q0s ?_
           go_wp2
           go_meet
           case rel => exact ⟨by first | rfl | simp, HR.out.drew, HB.out.drew⟩
         case rest =>
          obtain ⟨rfl, HR2x, HB2x⟩ := hcut
          have hBB := HBB.out
          cases b with
          | true =>
            have hM : M = k := of_decide_eq_true hBB.symm
            have d0 : wc.cell? ⟨g8, 0, none⟩ = some (.int .i64 (N : Int)) := (HR2x.out.cell 0).trans rfl
            have f0 := HR2x.out.free 0
            have hr9 := HR2x.out.put 0 (.int .i64 (k : Int))
            have HR9 : Hid (RowAt (wc.setCell ⟨g8, 0, none⟩ (.int .i64 (k : Int))) g8 31 (cv (cmd0 k yp))) := zh hr9
            have HB9 := zh (HB2x.out.setCell (p := ⟨g8, 0, none⟩) (zL _) (.int .i64 (k : Int)))
            have HNX : Hid ((if M < k + 1 then M else 0) = k) := zh (by rw [if_pos (by omega)]; exact hM)
            clear hr9 hM hBB hmk
            go_wp2_with fail
            go_roundw
            case rel => exact ⟨k + 1, by go_num, by omega, by omega, by rw [HNX.out]; exact HR9.out, HB9.out⟩
            case measure => simp [intOf]; omega
          | false =>
            have hM : ¬ M = k := of_decide_eq_false hBB.symm
            have HNX : Hid ((if M < k + 1 then M else 0) = N) := zh (by rw [← HN.out]; split <;> split <;> omega)
            clear hM hBB hmk
            go_wp2_with fail
            go_roundw
            case rel => exact ⟨k + 1, by go_num, by omega, by omega, by rw [HNX.out]; exact HR2x.out, HB2x.out⟩
            case measure => simp [intOf]; omega
        ·obtain rfl : k = 16 := by omega
         rw [if_pos hM1] at HR
         have d0 : wr.cell? ⟨g8, 0, none⟩ = some (.int .i64 (M : Int)) := (HR.out.cell 0).trans rfl
         have HBr := HB
         clear HB
         by_cases hM0 : M = 0
         ·have eM : ((M : Int) == 0) = true := by rw [hM0]; rfl
          have HR3 : Hid (Q0L (s.size + 1) s = .error (2, yp)) := zh (HR2.out (.error yp) (HC0.out hM0))
          clear hM0 HCN HC0 HMI
          go_upto_region 14 with fail
          clear d0
          have HGC := zh (HGC5.out.below HBr.out (by omega))
          have HGF := zh (HGF5.out.below HBr.out (by omega))
          have HB := zh (HB5.out.trans (HBr.out.mono (by omega)))
          have HGC2 : Hid (RowAt (wr.drew.setRow w.heap.size (cv c0)) w.heap.size 31 (cv c0)) := zh (HGC.out.drew.setRow (cv c0))
          have HGF2 : Hid (RowAt (wr.drew.setRow w.heap.size (cv c0)) (w.heap.size + 1) 33 #[.int .i64 0, .int .i64 0]) := zh ((setRow_other wr.drew w.heap.size (w.heap.size + 1) _ (by omega)).trans HGF.out.drew)
          have HGF3 : Hid (RowAt ((wr.drew.setRow w.heap.size (cv c0)).setRow (w.heap.size + 1) #[.int .i64 2, .int .i64 yp]) (w.heap.size + 1) 33 #[.int .i64 2, .int .i64 yp]) := zh (HGF2.out.setRow #[.int .i64 2, .int .i64 yp])
          have HGC3 : Hid (RowAt ((wr.drew.setRow w.heap.size (cv c0)).setRow (w.heap.size + 1) #[.int .i64 2, .int .i64 yp]) w.heap.size 31 (cv c0)) := zh ((setRow_other (wr.drew.setRow w.heap.size (cv c0)) (w.heap.size + 1) w.heap.size _ (by omega)).trans HGC2.out)
          have HB3 : Hid (Below w.heap.size w ((wr.drew.setRow w.heap.size (cv c0)).setRow (w.heap.size + 1) #[.int .i64 2, .int .i64 yp])) := zh ((HB.out.drew.trans (below_setRow (zL _) _)).trans (below_setRow (by omega) _))
          have HGFz : Hid (RowAt (((wr.drew.setRow w.heap.size (cv c0)).setRow (w.heap.size + 1) #[.int .i64 2, .int .i64 yp])) (w.heap.size + 1) 33 #[.int .i64 2, .int .i64 yp]) := HGF3
          have HGCz : Hid (RowAt (((wr.drew.setRow w.heap.size (cv c0)).setRow (w.heap.size + 1) #[.int .i64 2, .int .i64 yp])) w.heap.size 31 (cv c0)) := HGC3
          have HBz : Hid (Below w.heap.size w (((wr.drew.setRow w.heap.size (cv c0)).setRow (w.heap.size + 1) #[.int .i64 2, .int .i64 yp]))) := HB3
          have HQz : Hid (Q' (.returned (.tuple #[.agg (cv c0), .agg #[.int .i64 2, .int .i64 yp]])) (((wr.drew.setRow w.heap.size (cv c0)).setRow (w.heap.size + 1) #[.int .i64 2, .int .i64 yp]))) := zh (HQ.out _ _ ⟨HBz.out, by rw [HR3.out]⟩)
          have C0 : ∀ V, RowAt V g8 31 (cv (cmd0 M yp)) → V.cell? ⟨g8, 1, none⟩ = some (.int .i64 yp) := fun V h => (RowAt.cell h 1).trans rfl
          have HS1 : Hid (RowAt (wr.drew.setRow w.heap.size (cv c0)) g8 31 (cv (cmd0 M yp))) := zh ((setRow_other wr.drew w.heap.size g8 _ (by omega)).trans (HR.out.drew))
          have HS2 : Hid (RowAt ((wr.drew.setRow w.heap.size (cv c0)).setRow (w.heap.size + 1) #[.int .i64 2, .int .i64 yp]) g8 31 (cv (cmd0 M yp))) := zh ((setRow_other (wr.drew.setRow w.heap.size (cv c0)) (w.heap.size + 1) g8 _ (by omega)).trans HS1.out)
          have HGC1 := zh HGC.out.drew
          refine Q0y (fun V => RowAt V g8 31 (cv (cmd0 M yp))) ((.take 0 (.take 1 (.take 2 (.take 3 (.solo 4 (.solo 5 .nil))))))) (by kernel_rfl) (by kernel_rfl) rfl (by kernel_rfl) (HR.out.drew) ?_
          iterate 4
           (refine Q07 (zO rfl) ?_)
           (first
            | (refine Q08 (by rfl) ?_)
            | (refine Q03 (v := ?_) (by rfl) ?_ ?_; rotate_left 1; (intro wx hSx; have hc_0 := C0 wx hSx; go_simp; try with_reducible rfl)))
           (try simp only [Act.put, zA4, zA5, zA6])
          (refine Q02 (zO rfl) ?_)
          intro K hK
          rw [if_pos (by rfl)]
          refine wp_store_row _ _ _ rfl w.heap.size (cv c0) rfl rfl _ _ HGC1.out (Q01 c0) rfl (by simp [cv, Value.oneCell']) ?_
          refine hK.out _ _ HS1.out ?_
          clear hK K
          (try simp only [Act.put, zA4, zA5, zA6])
          (refine Q02 (zO rfl) ?_)
          intro K hK
          rw [if_pos (by rfl)]
          refine wp_store_row _ _ _ rfl (w.heap.size + 1) #[.int .i64 2, .int .i64 yp] rfl rfl _ _ HGF2.out (Q06 _ _) rfl (by simp [Value.oneCell']) ?_
          refine hK.out _ _ HS2.out ?_
          clear hK K
          (try simp only [Act.put, zA4, zA5, zA6])
          refine Q0s ?_
          go_wp2_with fail
          exact bodyPost_ret (Q1u rfl _ _ w.heap.size (w.heap.size + 1) _ _ _ _ _ _ rfl rfl HGCz.out HGFz.out Tryz.underlying31 rfl (Q01 c0) Tryz.underlying33 rfl (Q06 _ _)) rfl (HQz.out)
         ·have eM : ((M : Int) == 0) = false := by rw [beq_eq_false_iff_ne]; omega
          have HPS := zh (HCN.out hM0)
          have HLI : Hid (∀ pos (h : pos < (ltr (M : Int)).size), ((ltr (M : Int))[pos]'h).toNat ∈ LET) := zh fun pos h => Q4O hM1 _ (Q4Q h)
          have HLA : Hid (∀ pos (h : pos < (ltr (M : Int)).size), (ltl (M : Int)).take (pos + 1) = (ltl (M : Int)).take pos ++ [((ltr (M : Int))[pos]'h).toNat]) := zh fun pos h => Q3K h
          have HL2 : Hid (∀ pos (h : pos < (ltr (M : Int)).size), isT ((ltr (M : Int))[pos]'h).toNat = true → (((ltl (M : Int)).take pos).filter isT).length ≤ 1) := zh fun pos h ht => Qc7 hM1 h ht
          have hL3 : (ltr (M : Int)).size ≤ 3 := Qc2 hM1
          have HLS : Hid ((ltl (M : Int)).length = (ltr (M : Int)).size) := zh (Q4P M)
          clear hM0 HCN HC0 HMI
          go_wp2_with fail
          refine (QaR (M : Int) wr).mono ?_
          rintro e' w9 ⟨rfl, hb9⟩
          have HR9 := zh (HR.out.below hb9 HR.out.lt)
          have HB9 := zh (HBr.out.trans (hb9.mono (Nat.le_of_lt HR.out.lt)))
          clear hb9 HR HBr d0 eM
          generalize ltr (M : Int) = L at *
          generalize ltl (M : Int) = KS at *
          go_wp2_with fail
          go_loopw [12, 10, 13, 14, 15] (fun iv av _ _ _ wr => ∃ (pos aa : Nat) (x : Cm) (sc : Cs), iv = .int .i64 (pos : Int) ∧ av = .int .i64 (aa : Int) ∧ pos ≤ L.size ∧ aa ≤ n ∧ Hid (Q0m (s.size + 1) (KS.take pos) s0 (l.drop 1) (s.size : Int) = .ok (sc, l.drop aa)) ∧ Hid (HoldD M yp x sc) ∧ Hid (RowAt wr g8 31 (cv x)) ∧ Hid (DeepC wr (fun k => w.heap.size + 2 ≤ k ∧ k ≠ g8) x) ∧ Hid (Below g8 w5 wr)) (fun iv _ _ _ _ _ => L.size - (intOf iv).toNat)
          case atStart => exact ⟨0, 1, cmd0 M yp, s0, rfl, rfl, Nat.zero_le _, hlen, rfl, Qc5 M yp, HR9.out, QbV M yp _ _, HB9.out⟩
          case round =>
           obtain ⟨pos, aa, x, sc, rfl, rfl, hpl, haa, HPT, HH, HR, HDx, HBr⟩ := hrel
           clear HR9 HB9
           by_cases hp : pos < L.size
           ·have ep : decide (pos < L.size) = true := zE hp
            have hKL := HLI.out pos hp
            have hKA := HLA.out pos hp
            have hK2 := HL2.out pos hp
            obtain ⟨kk, hkk⟩ : ∃ kk : Nat, kk = (L[pos]'hp).toNat := ⟨_, rfl⟩
            rw [← hkk] at hKL hKA hK2
            have HKK := zh hkk
            have HKL := zh hKL
            have HKA := zh hKA
            have HTA : Hid (isT kk = true → sc.ts.length ≤ 1) := zh fun h => by
             have h1 := Q4R _ HPT.out
             have h2 := hK2 h
             rw [show (s0.ts.length) = 0 from rfl] at h1
             omega
            have HAT : Hid (aa ≤ l.length) := zh (by rw [HLN.out]; exact haa)
            have HNA : Hid ((nodes (l.drop aa)).length ≤ s.size) := zh (zM (Q2k l aa) HFEW)
            clear hkk hKL hKA hK2
            go_upto_region 20 with fail
            go_cut [13, 14, 15] from 85 to 97 (fun dv nv bv wx => ∃ (gd : Nat) (y2 : Cm) (n2 bad : Int), dv = .pointer (some ⟨gd, 0, none⟩) ∧ nv = .int .i64 n2 ∧ bv = .int .i64 bad ∧ g8 < gd ∧ Hid (RowAt wx gd 31 (cv y2)) ∧ Hid (RowAt wx g8 31 (cv x)) ∧ Hid (Below g8 w5 wx) ∧ Hid (Gq (fun k => w.heap.size + 2 ≤ k ∧ k ≠ g8) (s.size + 1) kk M yp sc l aa (s.size : Int) y2 n2 bad wx))
            case first =>
             have HBv : Hid (Below g8 w5 wr.drew) := zh HBr.out.drew
             have HRv : Hid (RowAt wr.drew g8 31 (cv x)) := zh HR.out.drew
             have HDv : Hid (DeepC wr.drew (fun k => k < wr.drew.heap.size ∧ (fun k => w.heap.size + 2 ≤ k ∧ k ≠ g8) k) x) := zh ((HDx.out.keep9 (w' := wr.drew) fun k _ _ => rfl).weak fun k hk h => ⟨hk, h⟩)
             refine Q0y (fun W => Below g8 w5 W ∧ RowAt W g8 31 (cv x)) ((.take 0 (.take 1 (.take 2 (.take 3 (.take 4 (.take 5 (.take 6 (.take 7 (.two 8 (.take 9 (.take 10 (.take 11 (.take 12 (.solo 13 (.solo 14 (.take 15 (.take 16 .nil)))))))) 13 (.solo 8 (.take 9 (.take 10 (.take 11 (.take 12 (.solo 14 (.take 15 (.take 16 .nil)))))))))))))))))) (by kernel_rfl) (by kernel_rfl) rfl (by kernel_rfl) ⟨HBv.out, HRv.out⟩ ?_
             generalize wr.drew = v0 at HBv HRv HDv ⊢
             iterate 8
                  (refine Q07 (zO rfl) ?_)
                  (first
                    | (refine Q08 (by rfl) ?_)
                    | (refine Q03 (by rfl) (Q0R _ _ rfl g8 rfl _ (cv x) _ (fun W h => h.2) Tryz.underlying31 rfl (Q01 _)) ?_)
                    | (refine Q03 (v := ?_) (by rfl) ?_ ?_; rotate_left 1; (intro wx hSx; go_simp; try with_reducible rfl)))
                  (try simp only [Act.put, zA4, zA5, zA6])
             refine Q2c ?_ ?_
             ·(refine Q02 (zO rfl) ?_)
              intro K hK
              go_simp
              have hgW : g8 < v0.heap.size := HRv.out.lt
              have hpa := Q7u (ok := (fun k => w.heap.size + 2 ≤ k ∧ k ≠ g8)) (d := s.size) kk HKL.out x (some ⟨bb, o, none⟩) d l aa (s.size : Int) v0 (fun k h => by omega) (HTRW.out v0 HBv.out) HFW.out HAT.out HNA.out HTA.out HH.out HDv.out
              rw [HLN.out, HKK.out] at hpa
              refine hpa.mono ?_
              clear hpa
              rintro e' w9 ⟨y2, n2, bad, rfl, hgq, hb9⟩
              have HB9 : Hid (Below g8 w5 w9) := zh (HBv.out.trans (hb9.mono (Nat.le_of_lt hgW)))
              have HR9 : Hid (RowAt w9 g8 31 (cv x)) := zh (HRv.out.below hb9 HRv.out.lt)
              rw [← HKK.out] at hgq
              have HGQ := zh hgq
              clear hb9 hgq
              refine hK.out _ _ ⟨HB9.out, HR9.out⟩ ?_
              clear hK K
              (try simp only [Act.put, zA4, zA5, zA6])
              iterate 4
                    (refine Q07 (zO rfl) ?_)
                    (first
                      | (refine Q08 (by rfl) ?_)
                      | (refine Q03 (by rfl) (Q0R _ _ rfl g8 rfl _ (cv x) _ (fun W h => h.2) Tryz.underlying31 rfl (Q01 _)) ?_)
                      | (refine Q03 (v := ?_) (by rfl) ?_ ?_; rotate_left 1; (intro wx hSx; go_simp; try with_reducible rfl)))
                    (try simp only [Act.put, zA4, zA5, zA6])
              (refine Q02 (zO rfl) ?_)
              intro K hK
              go_simp
              have hgW : g8 < w9.heap.size := HR9.out.lt
              have hba : Below w9.heap.size w9 (w9.alloc (.cells (cv c0) 31)) := (zB _ _).alloc (zL _) _
              have HBa : Hid (Below g8 w5 (w9.alloc (.cells (cv c0) 31))) := zh (HB9.out.trans (hba.mono (Nat.le_of_lt hgW)))
              have HRa : Hid (RowAt (w9.alloc (.cells (cv c0) 31)) g8 31 (cv x)) := zh (HR9.out.below hba HR9.out.lt)
              have HGa := zh (RowAt.new w9 31 (cv c0))
              have HGQa : Hid (Gq (fun k => (w.heap.size + 2 ≤ k ∧ k ≠ g8) ∧ k ≠ w9.heap.size) (s.size + 1) kk M yp sc l aa (s.size : Int) y2 n2 bad (w9.alloc (.cells (cv c0) 31))) := zh (Gq.keep (fun _ k hk h => hba.block k hk) (fun k hk h => ⟨h, by omega⟩) HGQ.out)
              clear hba
              refine hK.out _ _ ⟨HBa.out, HRa.out⟩ ?_
              clear hK K
              (try simp only [Act.put, zA4, zA5, zA6])
              change wpOT _ _ _ _ _ _ (w9.alloc (.cells (cv c0) 31))
              generalize hgd9 : w9.heap.size = gd at *
              generalize (w9.alloc (.cells (cv c0) 31)) = wa at *
              clear hgd9
              (refine Q02 (zO rfl) ?_)
              intro K hK
              rw [if_pos (by rfl)]
              refine wp_store_row _ _ _ rfl gd (cv y2) rfl rfl _ _ HGa.out (Q01 y2) rfl (by simp [cv, Value.oneCell']) ?_
              have HBs : Hid (Below g8 w5 (wa.setRow gd (cv y2))) := zh (HBa.out.trans (below_setRow (by omega) _))
              have HRs : Hid (RowAt (wa.setRow gd (cv y2)) g8 31 (cv x)) := zh ((setRow_other _ _ _ _ (by omega)).trans HRa.out)
              have HGs := zh (HGa.out.setRow (cv y2))
              have HQs : Hid (Gq (fun k => w.heap.size + 2 ≤ k ∧ k ≠ g8) (s.size + 1) kk M yp sc l aa (s.size : Int) y2 n2 bad (wa.setRow gd (cv y2))) := zh (Gq.keep (fun _ k hk h => setRow_other _ _ k _ h.2) (fun k hk h => h.1) HGQa.out)
              refine hK.out _ _ ⟨HBs.out, HRs.out⟩ ?_
              clear hK K
              (try simp only [Act.put, zA4, zA5, zA6])
              iterate 2
                    (refine Q07 (zO rfl) ?_)
                    (first
                      | (refine Q08 (by rfl) ?_)
                      | (refine Q03 (by rfl) (Q0R _ _ rfl g8 rfl _ (cv x) _ (fun W h => h.2) Tryz.underlying31 rfl (Q01 _)) ?_)
                      | (refine Q03 (v := ?_) (by rfl) ?_ ?_; rotate_left 1; (intro wx hSx; go_simp; try with_reducible rfl)))
                    (try simp only [Act.put, zA4, zA5, zA6])
              refine Q0s ?_
              go_wp2
              go_meet
              case rel => exact ⟨gd, y2, n2, bad, rfl, rfl, rfl, by omega, HGs.out, HRs.out, HBs.out, HQs.out⟩
             ·(refine Q02 (zO rfl) ?_)
              intro K hK
              go_simp
              have hgW : g8 < v0.heap.size := HRv.out.lt
              have hba : Below v0.heap.size v0 (v0.alloc (.cells (cv c0) 31)) := (zB _ _).alloc (zL _) _
              have HBa : Hid (Below g8 w5 (v0.alloc (.cells (cv c0) 31))) := zh (HBv.out.trans (hba.mono (Nat.le_of_lt hgW)))
              have HRa : Hid (RowAt (v0.alloc (.cells (cv c0) 31)) g8 31 (cv x)) := zh (HRv.out.below hba HRv.out.lt)
              have HGa := zh (RowAt.new v0 31 (cv c0))
              have HDa : Hid (DeepC (v0.alloc (.cells (cv c0) 31)) (fun k => k < (v0.alloc (.cells (cv c0) 31)).heap.size ∧ (fun k => (w.heap.size + 2 ≤ k ∧ k ≠ g8) ∧ k ≠ v0.heap.size) k) x) := zh (HDv.out.more v0.heap.size (zL _) _)
              clear hba
              refine hK.out _ _ ⟨HBa.out, HRa.out⟩ ?_
              clear hK K
              (try simp only [Act.put, zA4, zA5, zA6])
              change wpOT _ _ _ _ _ _ (v0.alloc (.cells (cv c0) 31))
              generalize hgd9 : v0.heap.size = gd at *
              generalize (v0.alloc (.cells (cv c0) 31)) = wa at *
              clear hgd9
              (refine Q02 (zO rfl) ?_)
              intro K hK
              go_simp
              have hgW : g8 < wa.heap.size := HRa.out.lt
              have hgW2 : gd < wa.heap.size := HGa.out.lt
              have hpa := Q7u (ok := (fun k => (w.heap.size + 2 ≤ k ∧ k ≠ g8) ∧ k ≠ gd)) (d := s.size) kk HKL.out x (some ⟨bb, o, none⟩) d l aa (s.size : Int) wa (fun k h => by omega) (HTRW.out wa HBa.out) HFW.out HAT.out HNA.out HTA.out HH.out HDa.out
              rw [HLN.out, HKK.out] at hpa
              refine hpa.mono ?_
              clear hpa
              rintro e' w9 ⟨y2, n2, bad, rfl, hgq, hb9⟩
              have HB9 : Hid (Below g8 w5 w9) := zh (HBa.out.trans (hb9.mono (Nat.le_of_lt hgW)))
              have HR9 : Hid (RowAt w9 g8 31 (cv x)) := zh (HRa.out.below hb9 HRa.out.lt)
              rw [← HKK.out] at hgq
              have HGQ := zh hgq
              have HG9 : Hid (RowAt w9 gd 31 (cv c0)) := zh (HGa.out.below hb9 HGa.out.lt)
              clear hb9 hgq
              refine hK.out _ _ ⟨HB9.out, HR9.out⟩ ?_
              clear hK K
              (try simp only [Act.put, zA4, zA5, zA6])
              iterate 4
                    (refine Q07 (zO rfl) ?_)
                    (first
                      | (refine Q08 (by rfl) ?_)
                      | (refine Q03 (by rfl) (Q0R _ _ rfl g8 rfl _ (cv x) _ (fun W h => h.2) Tryz.underlying31 rfl (Q01 _)) ?_)
                      | (refine Q03 (v := ?_) (by rfl) ?_ ?_; rotate_left 1; (intro wx hSx; go_simp; try with_reducible rfl)))
                    (try simp only [Act.put, zA4, zA5, zA6])
              (refine Q02 (zO rfl) ?_)
              intro K hK
              rw [if_pos (by rfl)]
              refine wp_store_row _ _ _ rfl gd (cv y2) rfl rfl _ _ HG9.out (Q01 y2) rfl (by simp [cv, Value.oneCell']) ?_
              have HBs : Hid (Below g8 w5 (w9.setRow gd (cv y2))) := zh (HB9.out.trans (below_setRow (by omega) _))
              have HRs : Hid (RowAt (w9.setRow gd (cv y2)) g8 31 (cv x)) := zh ((setRow_other _ _ _ _ (by omega)).trans HR9.out)
              have HGs := zh (HG9.out.setRow (cv y2))
              have HQs : Hid (Gq (fun k => w.heap.size + 2 ≤ k ∧ k ≠ g8) (s.size + 1) kk M yp sc l aa (s.size : Int) y2 n2 bad (w9.setRow gd (cv y2))) := zh (Gq.keep (fun _ k hk h => setRow_other _ _ k _ h.2) (fun k hk h => h.1) HGQ.out)
              refine hK.out _ _ ⟨HBs.out, HRs.out⟩ ?_
              clear hK K
              (try simp only [Act.put, zA4, zA5, zA6])
              iterate 2
                    (refine Q07 (zO rfl) ?_)
                    (first
                      | (refine Q08 (by rfl) ?_)
                      | (refine Q03 (by rfl) (Q0R _ _ rfl g8 rfl _ (cv x) _ (fun W h => h.2) Tryz.underlying31 rfl (Q01 _)) ?_)
                      | (refine Q03 (v := ?_) (by rfl) ?_ ?_; rotate_left 1; (intro wx hSx; go_simp; try with_reducible rfl)))
                    (try simp only [Act.put, zA4, zA5, zA6])
              refine Q0s ?_
              go_wp2
              go_meet
              case rel => exact ⟨gd, y2, n2, bad, rfl, rfl, rfl, by omega, HGs.out, HRs.out, HBs.out, HQs.out⟩
            case rest =>
             obtain ⟨gd, y2, n2, bad, rfl, rfl, rfl, hgd, HGd, HR8x, HBx, HGQ⟩ := hcut
             clear HR HDx HBr
             have hgq := HGQ.out
             unfold Gq at hgq
             cases hP : Q0b (s.size + 1) kk sc (l.drop aa) (s.size : Int) with
             | error q =>
               rw [hP] at hgq
               obtain rfl := hgq
               have hE : Q0L (s.size + 1) s = .error (2, bad) := HR2.out (.error bad) (HPS.out.trans (by rw [QbW HPT.out HKA.out hP]))
               have hq0 := (FP.QbU hE).2.1
               have HR3 := zh hE
               have eq0 : decide (0 ≤ bad) = true := zE hq0
               clear hE hP HGQ
               go_upto_region 22 with fail
               clear eq0 ep
               have HGC := zh (HGC5.out.below HBx.out (by omega))
               have HGF := zh (HGF5.out.below HBx.out (by omega))
               have HB := zh (HB5.out.trans (HBx.out.mono (by omega)))
               have HGC2 : Hid (RowAt (wc.setRow w.heap.size (cv c0)) w.heap.size 31 (cv c0)) := zh (HGC.out.setRow (cv c0))
               have HGF2 : Hid (RowAt (wc.setRow w.heap.size (cv c0)) (w.heap.size + 1) 33 #[.int .i64 0, .int .i64 0]) := zh ((setRow_other wc w.heap.size (w.heap.size + 1) _ (by omega)).trans HGF.out)
               have HGF3 : Hid (RowAt ((wc.setRow w.heap.size (cv c0)).setRow (w.heap.size + 1) #[.int .i64 2, .int .i64 bad]) (w.heap.size + 1) 33 #[.int .i64 2, .int .i64 bad]) := zh (HGF2.out.setRow #[.int .i64 2, .int .i64 bad])
               have HGC3 : Hid (RowAt ((wc.setRow w.heap.size (cv c0)).setRow (w.heap.size + 1) #[.int .i64 2, .int .i64 bad]) w.heap.size 31 (cv c0)) := zh ((setRow_other (wc.setRow w.heap.size (cv c0)) (w.heap.size + 1) w.heap.size _ (by omega)).trans HGC2.out)
               have HB3 : Hid (Below w.heap.size w ((wc.setRow w.heap.size (cv c0)).setRow (w.heap.size + 1) #[.int .i64 2, .int .i64 bad])) := zh ((HB.out.trans (below_setRow (zL _) _)).trans (below_setRow (by omega) _))
               have HGFz : Hid (RowAt (((wc.setRow w.heap.size (cv c0)).setRow (w.heap.size + 1) #[.int .i64 2, .int .i64 bad])) (w.heap.size + 1) 33 #[.int .i64 2, .int .i64 bad]) := HGF3
               have HGCz : Hid (RowAt (((wc.setRow w.heap.size (cv c0)).setRow (w.heap.size + 1) #[.int .i64 2, .int .i64 bad])) w.heap.size 31 (cv c0)) := HGC3
               have HBz : Hid (Below w.heap.size w (((wc.setRow w.heap.size (cv c0)).setRow (w.heap.size + 1) #[.int .i64 2, .int .i64 bad]))) := HB3
               have HQz : Hid (Q' (.returned (.tuple #[.agg (cv c0), .agg #[.int .i64 2, .int .i64 bad]])) (((wc.setRow w.heap.size (cv c0)).setRow (w.heap.size + 1) #[.int .i64 2, .int .i64 bad]))) := zh (HQ.out _ _ ⟨HBz.out, by rw [HR3.out]⟩)
               go_wp2_with (first | (refine wpList_store_row rfl _ _ _ rfl w.heap.size (cv c0) rfl rfl _ _ HGC.out (Q01 c0) rfl (by simp [cv, Value.oneCell']) ?_) | (refine wpList_store_row rfl _ _ _ rfl (w.heap.size + 1) #[.int .i64 2, .int .i64 bad] rfl rfl _ _ HGF2.out (Q06 _ _) rfl (by simp [Value.oneCell']) ?_))
               exact bodyPost_ret (Q1u rfl _ _ w.heap.size (w.heap.size + 1) _ _ _ _ _ _ rfl rfl HGCz.out HGFz.out Tryz.underlying31 rfl (Q01 c0) Tryz.underlying33 rfl (Q06 _ _)) rfl (HQz.out)
             | ok sr =>
               obtain ⟨s2, r2⟩ := sr
               rw [hP] at hgq
               obtain ⟨rfl, ⟨m, rfl, hm, rfl⟩, hh2, hd2⟩ := hgq
               have HP2 := zh (QbX HPT.out HKA.out hP)
               have HH2 := zh hh2
               have HD2 := zh hd2
               rw [HLN.out] at hm
               clear hP hh2 hd2 HGQ HPT HH
               go_upto_region 24 with (first | (refine wpList_load_row rfl _ _ rfl gd rfl _ _ (0, 0) _ HGd.out Tryz.underlying31 rfl (Q01 y2) ?_) | (refine wpList_store_row rfl _ _ _ rfl g8 (cv y2) rfl rfl _ _ HR8x.out (Q01 y2) rfl (by simp [cv, Value.oneCell']) ?_))
               have HR9 := zh (HR8x.out.setRow (cv y2))
               have HB9 : Hid (Below g8 w5 (wc.setRow g8 (cv y2))) := zh (HBx.out.trans (below_setRow (zL _) _))
               have HD9 := zh (HD2.out.keep9 (w' := wc.setRow g8 (cv y2)) fun k _ h => setRow_other _ _ k _ h.2)
               generalize wc.setRow g8 (cv y2) = w9 at *
               go_wp2_with fail
               go_roundw
               case rel => exact ⟨pos + 1, m, y2, s2, by go_num, rfl, by omega, hm, HP2.out, HH2.out, HR9.out, HD9.out, HB9.out⟩
               case measure => simp [intOf]; omega
           ·have ep : decide (pos < L.size) = false := zF hp
            have hPK : Q0m (s.size + 1) KS s0 (l.drop 1) (s.size : Int) = .ok (sc, l.drop aa) := by
             have h := HPT.out
             rwa [List.take_of_length_le (by rw [HLS.out]; omega)] at h
            by_cases ha : aa < n
            ·have ea : decide (aa < n) = true := zE ha
             have hdc := TR.Q22 (l := l) (i := aa) (by rw [HLN.out]; exact ha)
             have hE : Q0L (s.size + 1) s = .error (2, (l.getD aa r0).t.p) := HR2.out (.error (l.getD aa r0).t.p) (HPS.out.trans (by rw [hPK, hdc]))
             have HR3 := zh hE
             have hai : (aa : Int) < (n : Int) := by omega
             obtain ⟨bb2, o2, hbo, hbb2, hc2⟩ := (HTRW.out wr HBr.out).at (k := aa) (by rw [HLN.out]; exact ha)
             obtain ⟨rfl, rfl⟩ : bb = bb2 ∧ o = o2 := by
                  have h := Option.some.inj hbo
                  exact ⟨congrArg Addr.block h, congrArg Addr.off h⟩
             have hq := (hc2 aa (by rw [HLN.out]; exact ha)).2.2.1
             have hk8 := (hc2 aa (by rw [HLN.out]; exact ha)).1
             have hne1 : bb ≠ w.heap.size := fun h => by
                  rw [h] at hk8
                  have h9 := HGC5.out.below HBr.out (by omega)
                  exact Qc3 _ _ ((h9.cell _).symm.trans hk8)
             have hne2 : bb ≠ w.heap.size + 1 := fun h => by
                  rw [h] at hk8
                  have h9 := HGF5.out.below HBr.out (by omega)
                  exact Qc4 _ _ ((h9.cell _).symm.trans hk8)
             clear hk8
             clear hPK hdc hE hc2 hbo
             generalize (l.getD aa r0).t.p = q at *
             go_upto_region 26 with fail
             clear ep ea
             have HGC := zh (HGC5.out.below HBr.out (by omega))
             have HGF := zh (HGF5.out.below HBr.out (by omega))
             have HB := zh (HB5.out.trans (HBr.out.mono (by omega)))
             have HGC2 : Hid (RowAt (wr.drew.setRow w.heap.size (cv c0)) w.heap.size 31 (cv c0)) := zh (HGC.out.drew.setRow (cv c0))
             have HGF2 : Hid (RowAt (wr.drew.setRow w.heap.size (cv c0)) (w.heap.size + 1) 33 #[.int .i64 0, .int .i64 0]) := zh ((setRow_other wr.drew w.heap.size (w.heap.size + 1) _ (by omega)).trans HGF.out.drew)
             have HGF3 : Hid (RowAt ((wr.drew.setRow w.heap.size (cv c0)).setRow (w.heap.size + 1) #[.int .i64 2, .int .i64 q]) (w.heap.size + 1) 33 #[.int .i64 2, .int .i64 q]) := zh (HGF2.out.setRow #[.int .i64 2, .int .i64 q])
             have HGC3 : Hid (RowAt ((wr.drew.setRow w.heap.size (cv c0)).setRow (w.heap.size + 1) #[.int .i64 2, .int .i64 q]) w.heap.size 31 (cv c0)) := zh ((setRow_other (wr.drew.setRow w.heap.size (cv c0)) (w.heap.size + 1) w.heap.size _ (by omega)).trans HGC2.out)
             have HB3 : Hid (Below w.heap.size w ((wr.drew.setRow w.heap.size (cv c0)).setRow (w.heap.size + 1) #[.int .i64 2, .int .i64 q])) := zh ((HB.out.drew.trans (below_setRow (zL _) _)).trans (below_setRow (by omega) _))
             have HGFz : Hid (RowAt (((wr.drew.setRow w.heap.size (cv c0)).setRow (w.heap.size + 1) #[.int .i64 2, .int .i64 q])) (w.heap.size + 1) 33 #[.int .i64 2, .int .i64 q]) := HGF3
             have HGCz : Hid (RowAt (((wr.drew.setRow w.heap.size (cv c0)).setRow (w.heap.size + 1) #[.int .i64 2, .int .i64 q])) w.heap.size 31 (cv c0)) := HGC3
             have HBz : Hid (Below w.heap.size w (((wr.drew.setRow w.heap.size (cv c0)).setRow (w.heap.size + 1) #[.int .i64 2, .int .i64 q]))) := HB3
             have HQz : Hid (Q' (.returned (.tuple #[.agg (cv c0), .agg #[.int .i64 2, .int .i64 q]])) (((wr.drew.setRow w.heap.size (cv c0)).setRow (w.heap.size + 1) #[.int .i64 2, .int .i64 q]))) := zh (HQ.out _ _ ⟨HBz.out, by rw [HR3.out]⟩)
             have C0 : ∀ V : World, V.heap[bb]? = wr.heap[bb]? → V.cell? ⟨bb, o + aa * 5 + 2, none⟩ = _ := fun V h => (show V.cell? ⟨bb, o + aa * 5 + 2, none⟩ = wr.cell? ⟨bb, o + aa * 5 + 2, none⟩ by simp only [World.cell?, h]).trans hq
             have HS1 : Hid (((wr.drew.setRow w.heap.size (cv c0))).heap[bb]? = wr.heap[bb]?) := zh ((setRow_other wr.drew w.heap.size bb _ (by omega)).trans (rfl))
             have HS2 : Hid ((((wr.drew.setRow w.heap.size (cv c0)).setRow (w.heap.size + 1) #[.int .i64 2, .int .i64 q])).heap[bb]? = wr.heap[bb]?) := zh ((setRow_other (wr.drew.setRow w.heap.size (cv c0)) (w.heap.size + 1) bb _ (by omega)).trans HS1.out)
             have HGC1 := zh HGC.out.drew
             refine Q0y (fun V => (V).heap[bb]? = wr.heap[bb]?) ((.take 0 (.take 1 (.take 2 (.take 3 (.take 4 (.take 5 (.take 6 (.take 7 (.solo 8 (.solo 9 .nil))))))))))) (by kernel_rfl) (by kernel_rfl) rfl (by kernel_rfl) (rfl) ?_
             iterate 8
                  (refine Q07 (zO rfl) ?_)
                  (first
                    | (refine Q08 (by rfl) ?_)
                    | (refine Q03 (v := ?_) (by rfl) ?_ ?_; rotate_left 1; (intro wx hSx; have hc_0 := C0 wx hSx; go_simp; try with_reducible rfl)))
                  (try simp only [Act.put, zA4, zA5, zA6])
             (refine Q02 (zO rfl) ?_)
             intro K hK
             rw [if_pos (by rfl)]
             refine wp_store_row _ _ _ rfl w.heap.size (cv c0) rfl rfl _ _ HGC1.out (Q01 c0) rfl (by simp [cv, Value.oneCell']) ?_
             refine hK.out _ _ HS1.out ?_
             clear hK K
             (try simp only [Act.put, zA4, zA5, zA6])
             (refine Q02 (zO rfl) ?_)
             intro K hK
             rw [if_pos (by rfl)]
             refine wp_store_row _ _ _ rfl (w.heap.size + 1) #[.int .i64 2, .int .i64 q] rfl rfl _ _ HGF2.out (Q06 _ _) rfl (by simp [Value.oneCell']) ?_
             refine hK.out _ _ HS2.out ?_
             clear hK K
             (try simp only [Act.put, zA4, zA5, zA6])
             refine Q0s ?_
             go_wp2_with fail
             exact bodyPost_ret (Q1u rfl _ _ w.heap.size (w.heap.size + 1) _ _ _ _ _ _ rfl rfl HGCz.out HGFz.out Tryz.underlying31 rfl (Q01 c0) Tryz.underlying33 rfl (Q06 _ _)) rfl (HQz.out)
            ·have ea : decide (aa < n) = false := zF ha
             have hnil : l.drop aa = [] := List.drop_eq_nil_of_le (by rw [HLN.out]; omega)
             have hE : Q0L (s.size + 1) s = .ok (finC M yp sc) := HR2.out (.ok (finC M yp sc)) (HPS.out.trans (by rw [hPK, hnil]))
             have HU1 := zh hE
             have HU2 := zh (Qc6 HH.out)
             clear hPK hnil hE
             go_upto_region 27 with fail
             clear ep ea
             have HGC := zh (HGC5.out.below HBr.out (by omega))
             have HGF := zh (HGF5.out.below HBr.out (by omega))
             have HB := zh (HB5.out.trans (HBr.out.mono (by omega)))
             have HGC2 : Hid (RowAt (wr.setRow w.heap.size (cv x)) w.heap.size 31 (cv x)) := zh (HGC.out.setRow (cv x))
             have HGF2 : Hid (RowAt (wr.setRow w.heap.size (cv x)) (w.heap.size + 1) 33 #[.int .i64 0, .int .i64 0]) := zh ((setRow_other wr w.heap.size (w.heap.size + 1) _ (by omega)).trans HGF.out)
             have HGF3 : Hid (RowAt ((wr.setRow w.heap.size (cv x)).setRow (w.heap.size + 1) #[.int .i64 0, .int .i64 0]) (w.heap.size + 1) 33 #[.int .i64 0, .int .i64 0]) := zh (HGF2.out.setRow #[.int .i64 0, .int .i64 0])
             have HGC3 : Hid (RowAt ((wr.setRow w.heap.size (cv x)).setRow (w.heap.size + 1) #[.int .i64 0, .int .i64 0]) w.heap.size 31 (cv x)) := zh ((setRow_other (wr.setRow w.heap.size (cv x)) (w.heap.size + 1) w.heap.size _ (by omega)).trans HGC2.out)
             have HB3 : Hid (Below w.heap.size w ((wr.setRow w.heap.size (cv x)).setRow (w.heap.size + 1) #[.int .i64 0, .int .i64 0])) := zh ((HB.out.trans (below_setRow (zL _) _)).trans (below_setRow (by omega) _))
             have HGFz : Hid (RowAt (((wr.setRow w.heap.size (cv x)).setRow (w.heap.size + 1) #[.int .i64 0, .int .i64 0])) (w.heap.size + 1) 33 #[.int .i64 0, .int .i64 0]) := HGF3
             have HGCz : Hid (RowAt (((wr.setRow w.heap.size (cv x)).setRow (w.heap.size + 1) #[.int .i64 0, .int .i64 0])) w.heap.size 31 (cv x)) := HGC3
             have HBz : Hid (Below w.heap.size w (((wr.setRow w.heap.size (cv x)).setRow (w.heap.size + 1) #[.int .i64 0, .int .i64 0]))) := HB3
             have HQz : Hid (Q' (.returned (.tuple #[.agg (cv x), .agg #[.int .i64 0, .int .i64 0]])) (((wr.setRow w.heap.size (cv x)).setRow (w.heap.size + 1) #[.int .i64 0, .int .i64 0]))) := zh (HQ.out _ _ ⟨HBz.out, by rw [HU1.out]; exact ⟨x, rfl, HU2.out, ((HDx.out.keep9 fun k _ h => (setRow_other _ _ k _ (by omega)).trans (setRow_other _ _ k _ (by omega))).weak fun k _ h => by omega)⟩⟩)
             go_wp2_with (first | (refine wpList_load_row rfl _ _ rfl g8 rfl _ _ (0, 0) _ HR.out Tryz.underlying31 rfl (Q01 x) ?_) | (refine wpList_store_row rfl _ _ _ rfl w.heap.size (cv x) rfl rfl _ _ HGC.out (Q01 x) rfl (by simp [cv, Value.oneCell']) ?_) | (refine wpList_store_row rfl _ _ _ rfl (w.heap.size + 1) #[.int .i64 0, .int .i64 0] rfl rfl _ _ HGF2.out (Q06 _ _) rfl (by simp [Value.oneCell']) ?_))
             exact bodyPost_ret (Q1u rfl _ _ w.heap.size (w.heap.size + 1) _ _ _ _ _ _ rfl rfl HGCz.out HGFz.out Tryz.underlying31 rfl (Q01 x) Tryz.underlying33 rfl (Q06 _ _)) rfl (HQz.out)
end
section
open Go.RowKit LX TR TM CM
namespace CM
theorem Q7v : ∀ ps : List Pw, ps.length ≤ (jkt (ps.map kp)).length
 | [] => by simp
 | x :: r => by
   have h := Q7v r
   rw [List.map_cons, jkt, zA8, zA8, zA7]; omega
theorem Qc9 (ps : List Pw) : ps.length ≤ (jkc (ps.map kp)).length := by
 cases ps with
 | nil => simp
 | cons x r =>
   have h := Q7v r
   rw [List.map_cons, jkc, zA8, zA7]
   simp only [kp, zA8, zA9]; omega
theorem Q4k : cnt [n0] = 1 := by simp [cnt, n0, nd]
theorem Qca {x : Cm} (h : riC x = true) : x.ws.length ≤ (kyC x).length + 1 ∧ x.ps.length ≤ (kyC x).length ∧ cnt [x.l] ≤ (kyC x).length + 1 ∧ cnt [x.r] ≤ (kyC x).length + 1 := by
 unfold riC at h
 simp only [Bool.and_eq_true, decide_eq_true_eq] at h
 obtain ⟨hop, _, _, hl⟩ := h
 obtain ⟨k, hk, hk2⟩ := Q2p hop
 have hky : (kyC x).length = 1 + (pky x (ltl x.op) [x.l, x.r]).flatten.length := by unfold kyC; rw [zA8]; omega
 rw [hky]
 have j1 := Q4J x.ws
 have j2 := Qc9 x.ps
 rw [hk] at hl ⊢
 have c0' := Q4k
 rcases Q6W k hk2 with hL | hL | hL | hL | hL | hL | hL
 all_goals rw [hL] at hl ⊢
 all_goals simp [riL, pky, -List.length_eq_zero_iff, Bool.and_eq_true] at hl ⊢
 ·obtain ⟨_, h2, h3, h4, h5⟩ := hl
  have := Q1L h4; have := Q1L h5
  omega
 ·obtain ⟨_, h2, h3, h4, h5⟩ := hl
  have := Q1L h4; have := Q1L h5
  omega
 ·obtain ⟨_, h2, h3, h4, h5⟩ := hl
  have := Q1L h4; have := Q1L h5
  omega
 ·obtain ⟨_, h2, h4, h5⟩ := hl
  have := Q1L h4; have := Q1L h5
  omega
 ·obtain ⟨_, h2, h3, h4, h5⟩ := hl
  have := Q3J (w_of (n := 3) h4); have := Q3J (w_of (n := 3) h5)
  omega
 ·obtain ⟨_, h2, h3, h4, h5⟩ := hl
  have := Q3J (w_of (n := 6) h4); have := Q3J (w_of (n := 6) h5)
  omega
 ·obtain ⟨_, h2, h3, h4, h5⟩ := hl
  have := Q1L h4; have := Q1L h5
  omega
theorem Qcb {D : Nat} {line : ByteArray} {C : Cm} (h : Q0L D line = .ok C) : C = c0 ∨ (riC C = true ∧ (kyC C).length ≤ 2 * line.size ∧ 1 ≤ C.op ∧ C.op < 16 ∧ ∃ R ts, scan line 0 [] = .ok R ∧ parse R = .ok ts ∧ cmdR D ts line.size = .ok C ∧ kyf ts = kyC C ∧ (nodes ts).length ≤ line.size) := by
 unfold Q0L at h
 cases hs : scan line 0 [] with
 | error p => rw [hs] at h; cases h
 | ok R =>
   rw [hs] at h
   simp only at h
   cases hp : parse R with
   | error p => rw [hp] at h; cases h
   | ok ts =>
     rw [hp] at h
     simp only at h
     cases hc : cmdR D ts line.size with
     | error p => rw [hc] at h; cases h
     | ok c =>
       rw [hc] at h
       injection h with h
       subst h
       by_cases hne : ts = []
       ·subst hne
        left
        injection hc with hc
        exact hc.symm
       ·right
        have ht := Q4n hs hp
        have hg : TM.Good ts := by rw [← ht]; exact QaD line
        have hn : (nodes ts).length ≤ line.size := by rw [← ht]; exact Q5C line
        obtain ⟨h1, h2, h3, h4⟩ := QaP hg hc hne
        refine ⟨h1, ?_, h3, h4, R, ts, rfl, hp, hc, h2, hn⟩
        rw [← h2]
        unfold kyf
        have := Qbx ts
        rw [List.length_map]; omega
theorem Q5v {x C : Cm} (h : erc x = C) {N : Nat} (h1 : C.ws.length ≤ N) (h2 : C.ps.length ≤ N) (h3 : cnt [C.l] ≤ N) (h4 : cnt [C.r] ≤ N) (hN : N ≤ 2147483648) : SmlC x ∧ x.ws.length ≤ 2147483648 := by
 subst h
 have e1 : cnt [TM.er1 x.l] = cnt [x.l] := by have := Q4l [x.l]; rw [Q1V] at this; exact this
 have e2 : cnt [TM.er1 x.r] = cnt [x.r] := by have := Q4l [x.r]; rw [Q1V] at this; exact this
 simp only [erc] at h1 h2 h3 h4
 rw [e1] at h3
 rw [e2] at h4
 exact ⟨⟨by omega, by omega, by omega, by omega⟩, by omega⟩
theorem Qcc {D : Nat} {line : ByteArray} {x C : Cm} (h : Q0L D line = .ok C) (hx : erc x = C) (hl : line.size ≤ 1000000) : SmlC x ∧ x.ws.length ≤ 2147483648 := by
 rcases Qcb h with rfl | ⟨h1, h2, _⟩
 ·have := Q4k
  exact Q5v hx (N := 10) (by decide) (by decide) (by show cnt [n0] ≤ 10; omega) (by show cnt [n0] ≤ 10; omega) (by decide)
 ·obtain ⟨a, b, c, d⟩ := Qca h1
  exact Q5v hx (N := 2 * line.size + 1) (by omega) (by omega) (by omega) (by omega) (by omega)
def outC (D : Nat) (line : ByteArray) : Cm × Int × Int := match Q0L D line with
 | .error (k, p) => (c0, k, p)
 | .ok c => (c, 0, 0)
theorem Qcd : SmlC c0 ∧ c0.ws.length ≤ 2147483648 := Q5v Q3U (N := 10) (by decide) (by decide) (by have := Q4k; show cnt [n0] ≤ 10; omega) (by have := Q4k; show cnt [n0] ≤ 10; omega) (by decide)
end CM
theorem Q7w {D : Nat} {line : ByteArray} {B : Nat} {e : Ending} {w w' : World} (h : Q3f D line B e w w') (hl : line.size ≤ 1000000) : Below B w w' ∧ ∃ x, e = .returned (.tuple #[.agg (cv x), .agg #[.int .i64 (outC D line).2.1, .int .i64 (outC D line).2.2]]) ∧ erc x = (outC D line).1 ∧ CmIn w' w'.heap.size x ∧ SmlC x ∧ x.ws.length ≤ 2147483648 := by
 obtain ⟨hb, h⟩ := h
 refine ⟨hb, ?_⟩
 unfold outC
 cases hr : Q0L D line with
 | error kp =>
   obtain ⟨k, p⟩ := kp
   rw [hr] at h
   exact ⟨c0, h, Q3U, (Q51 w' fun _ => True).inn, Qcd⟩
 | ok C =>
   rw [hr] at h
   obtain ⟨x, rfl, hx, hd⟩ := h
   exact ⟨x, rfl, hx, hd.inn, Qcc hr hx hl⟩
end
section
open Go.RowKit LX TR TM CM
theorem commandReads_any (s : ByteArray) (w : World) (hT : Cmds w) :
 Calls Tryz.prog 3 #[.string s] w fun e w' => e = .returned (.bool true) ∧ Below w.heap.size w w' := by
 have HT := zh hT
 clear hT
 by_cases hbig : 1500 < s.size
 ·go_enter Tryz.func3, Tryz.ntmps3
  go_wp2_with fail
  refine (Q7o _ HT.out).mono ?_
  rintro e w1 ⟨rfl, hb⟩
  have HB := zh hb; clear hb
  go_wp2
  go_ret
  exact ⟨rfl, HB.out⟩
 ·have HP1 : Hid (∀ W, Below w.heap.size w W → Calls Tryz.prog 8 #[.string s] W fun e' w' => Q3f (s.size + 1) s W.heap.size e' W w') := zh fun W hW => Q52 s W (by omega) (HT.out.low hW) (zL _) (by omega)
  have HP2 := zh (fun W => Qc8 s W (by omega))
  have hs2 : s.size ≤ 1000000 := by omega
  go_enter Tryz.func3, Tryz.ntmps3
  go_wp2_with fail
  refine (HP1.out w (zB _ _)).mono ?_
  rintro e' w1 hrd
  obtain ⟨hb1, x, rfl, hx, hin, hsx, hsw⟩ := Q7w hrd hs2
  clear hrd
  generalize hfk : (outC (s.size + 1) s).2.1 = fk at *
  generalize hfp : (outC (s.size + 1) s).2.2 = fp at *
  have HFK := zh hfk
  have HFP := zh hfp
  have HB1 := zh hb1
  have HIN1 := zh hin
  have HSX := zh hsx
  have HSW := zh hsw
  have HEX := zh hx
  clear hfk hfp hb1 hin hsx hsw hx HP1
  have hn1 := (RowAt.new w1 31 (cv c0)).alloc (.cells #[.int .i64 0, .int .i64 0] 33)
  have hn2 := RowAt.new (w1.alloc (.cells (cv c0) 31)) 33 #[.int .i64 0, .int .i64 0]
  rw [show (w1.alloc (.cells (cv c0) 31)).heap.size = w1.heap.size + 1 by simp] at hn2
  have HN1 : Hid (RowAt ((w1.alloc (.cells (cv c0) 31)).alloc (.cells #[.int .i64 0, .int .i64 0] 33)) w1.heap.size 31 (cv c0)) := zh hn1
  have HN2 : Hid (RowAt (((w1.alloc (.cells (cv c0) 31)).alloc (.cells #[.int .i64 0, .int .i64 0] 33)).setRow w1.heap.size (cv x)) (w1.heap.size + 1) 33 #[.int .i64 0, .int .i64 0]) := zh ((setRow_other _ _ _ _ (by omega)).trans hn2)
  have HXw2 : Hid (RowAt ((((w1.alloc (.cells (cv c0) 31)).alloc (.cells #[.int .i64 0, .int .i64 0] 33)).setRow w1.heap.size (cv x)).setRow (w1.heap.size + 1) #[.int .i64 fk, .int .i64 fp]) w1.heap.size 31 (cv x)) := zh ((setRow_other _ _ _ _ (by omega)).trans (HN1.out.setRow (cv x)))
  have HFw2 : Hid (RowAt ((((w1.alloc (.cells (cv c0) 31)).alloc (.cells #[.int .i64 0, .int .i64 0] 33)).setRow w1.heap.size (cv x)).setRow (w1.heap.size + 1) #[.int .i64 fk, .int .i64 fp]) (w1.heap.size + 1) 33 #[.int .i64 fk, .int .i64 fp]) := zh (HN2.out.setRow #[.int .i64 fk, .int .i64 fp])
  have hbbw2 : Below w1.heap.size w1 ((((w1.alloc (.cells (cv c0) 31)).alloc (.cells #[.int .i64 0, .int .i64 0] 33)).setRow w1.heap.size (cv x)).setRow (w1.heap.size + 1) #[.int .i64 fk, .int .i64 fp]) := ((((zB _ _).alloc (zL _) _).alloc (by simp) _).trans (below_setRow (zL _) _)).trans (below_setRow (by omega) _)
  have HBBw2 := zh hbbw2
  clear hn1 hn2 hbbw2
  go_upto_region 4 with (first | (refine wpList_store_row rfl _ _ _ rfl w1.heap.size (cv x) rfl rfl _ _ HN1.out (Q01 _) rfl (by simp [cv, Value.oneCell']) ?_) | (refine wpList_store_row rfl _ _ _ rfl (w1.heap.size + 1) #[.int .i64 fk, .int .i64 fp] rfl rfl _ _ HN2.out (Q06 _ _) rfl (by simp [Value.oneCell']) ?_))
  clear HN1 HN2
  change Code.wp _ _ _ _ ((((w1.alloc (.cells (cv c0) 31)).alloc (.cells #[.int .i64 0, .int .i64 0] 33)).setRow w1.heap.size (cv x)).setRow (w1.heap.size + 1) #[.int .i64 fk, .int .i64 fp])
  generalize ((((w1.alloc (.cells (cv c0) 31)).alloc (.cells #[.int .i64 0, .int .i64 0] 33)).setRow w1.heap.size (cv x)).setRow (w1.heap.size + 1) #[.int .i64 fk, .int .i64 fp]) = w2 at *
  have HB2 := zh (HB1.out.trans (HBBw2.out.mono HB1.out.size))
  have HIN2 := zh ((HIN1.out.below HBBw2.out).mono HBBw2.out.size)
  have hz1 : w1.heap.size + 1 < w2.heap.size := HFw2.out.lt
  clear HIN1 HBBw2 HB1
  go_wp2_with fail
  refine (HP2.out w2).mono ?_
  rintro e' w3 hrd
  obtain ⟨hb3, y, rfl, hy, hin, hsy, _⟩ := Q7w hrd hs2
  rw [HFK.out, HFP.out]
  have HEY := zh hy
  have HSY := zh hsy
  have HX3 := zh (HXw2.out.below hb3 (by omega))
  have HF3 := zh (HFw2.out.below hb3 hz1)
  have HB3 := zh (HB2.out.trans (hb3.mono HB2.out.size))
  have HIX3 := zh ((HIN2.out.below hb3).mono hb3.size)
  have HIY3 := zh hin
  have hz3 : w2.heap.size ≤ w3.heap.size := hb3.size
  clear hrd hb3 hy hin hsy HP2 HXw2 HFw2 HB2 HIN2
  have hn1 := (RowAt.new w3 31 (cv c0)).alloc (.cells #[.int .i64 0, .int .i64 0] 33)
  have hn2 := RowAt.new (w3.alloc (.cells (cv c0) 31)) 33 #[.int .i64 0, .int .i64 0]
  rw [show (w3.alloc (.cells (cv c0) 31)).heap.size = w3.heap.size + 1 by simp] at hn2
  have HN1 : Hid (RowAt ((w3.alloc (.cells (cv c0) 31)).alloc (.cells #[.int .i64 0, .int .i64 0] 33)) w3.heap.size 31 (cv c0)) := zh hn1
  have HN2 : Hid (RowAt (((w3.alloc (.cells (cv c0) 31)).alloc (.cells #[.int .i64 0, .int .i64 0] 33)).setRow w3.heap.size (cv y)) (w3.heap.size + 1) 33 #[.int .i64 0, .int .i64 0]) := zh ((setRow_other _ _ _ _ (by omega)).trans hn2)
  have HXw4 : Hid (RowAt ((((w3.alloc (.cells (cv c0) 31)).alloc (.cells #[.int .i64 0, .int .i64 0] 33)).setRow w3.heap.size (cv y)).setRow (w3.heap.size + 1) #[.int .i64 fk, .int .i64 fp]) w3.heap.size 31 (cv y)) := zh ((setRow_other _ _ _ _ (by omega)).trans (HN1.out.setRow (cv y)))
  have HFw4 : Hid (RowAt ((((w3.alloc (.cells (cv c0) 31)).alloc (.cells #[.int .i64 0, .int .i64 0] 33)).setRow w3.heap.size (cv y)).setRow (w3.heap.size + 1) #[.int .i64 fk, .int .i64 fp]) (w3.heap.size + 1) 33 #[.int .i64 fk, .int .i64 fp]) := zh (HN2.out.setRow #[.int .i64 fk, .int .i64 fp])
  have hbbw4 : Below w3.heap.size w3 ((((w3.alloc (.cells (cv c0) 31)).alloc (.cells #[.int .i64 0, .int .i64 0] 33)).setRow w3.heap.size (cv y)).setRow (w3.heap.size + 1) #[.int .i64 fk, .int .i64 fp]) := ((((zB _ _).alloc (zL _) _).alloc (by simp) _).trans (below_setRow (zL _) _)).trans (below_setRow (by omega) _)
  have HBBw4 := zh hbbw4
  clear hn1 hn2 hbbw4
  go_upto_region 5 with (first | (refine wpList_store_row rfl _ _ _ rfl w3.heap.size (cv y) rfl rfl _ _ HN1.out (Q01 _) rfl (by simp [cv, Value.oneCell']) ?_) | (refine wpList_store_row rfl _ _ _ rfl (w3.heap.size + 1) #[.int .i64 fk, .int .i64 fp] rfl rfl _ _ HN2.out (Q06 _ _) rfl (by simp [Value.oneCell']) ?_))
  clear HN1 HN2
  change Code.wp _ _ _ _ ((((w3.alloc (.cells (cv c0) 31)).alloc (.cells #[.int .i64 0, .int .i64 0] 33)).setRow w3.heap.size (cv y)).setRow (w3.heap.size + 1) #[.int .i64 fk, .int .i64 fp])
  generalize ((((w3.alloc (.cells (cv c0) 31)).alloc (.cells #[.int .i64 0, .int .i64 0] 33)).setRow w3.heap.size (cv y)).setRow (w3.heap.size + 1) #[.int .i64 fk, .int .i64 fp]) = w4 at *
  have HX4 := zh (HX3.out.below HBBw4.out (by omega))
  have HF4 := zh (HF3.out.below HBBw4.out (by omega))
  have HB4 := zh (HB3.out.trans (HBBw4.out.mono HB3.out.size))
  have hix := (HIX3.out.below HBBw4.out).mono HBBw4.out.size
  have hiy := (HIY3.out.below HBBw4.out).mono HBBw4.out.size
  have HVY := zh (Q8y x y w4 (HEX.out.trans HEY.out.symm) hix hiy HSX.out HSY.out HSW.out)
  clear hix hiy HX3 HF3 HB3 HIX3 HIY3 HBBw4
  go_wp2_with (first | (refine wpList_load_row rfl _ _ rfl w1.heap.size rfl _ _ (0, 0) _ HX4.out Tryz.underlying31 rfl (Q01 x) ?_) | (refine wpList_load_row rfl _ _ rfl w3.heap.size rfl _ _ (0, 0) _ HXw4.out Tryz.underlying31 rfl (Q01 y) ?_))
  refine HVY.out.mono ?_
  rintro e' w5 ⟨rfl, hb5⟩
  obtain ⟨g0, g1, _, _⟩ := row2 (HF4.out.below hb5 HF4.out.lt)
  obtain ⟨k0, k1, _, _⟩ := row2 (HFw4.out.below hb5 HFw4.out.lt)
  have HB5 := zh (HB4.out.trans (hb5.mono HB4.out.size))
  clear hb5 HVY HX4 HF4 HXw4 HFw4 HB4
  go_wp2_with fail
  refine (Q7o _ (HT.out.low HB5.out)).mono ?_
  rintro e w6 ⟨rfl, hb⟩
  have HB6 := zh (HB5.out.trans (hb.mono HB5.out.size))
  clear hb
  go_wp2_with fail
  go_ret
  exact ⟨rfl, HB6.out⟩
end
end Go.Proofs.YtmobcncgfbfmcaaGreatDoor
