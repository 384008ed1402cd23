/- Texts that all the claims need. Conditions: those that each states. -/

import Derived.Test.YtmffnkfohmbbeaaGreatDoorCi11
import Derived.Test.YtmffnkfohmbbeaaGreatDoorCi16
set_option linter.unusedSimpArgs false
set_option linter.unusedVariables false
set_option maxRecDepth 100000
set_option maxHeartbeats 40000000
namespace Go.Proofs.YtmffnkfohmbbeaaGreatDoor
section
open Go.RowKit LX TR TM CM
namespace CM
def exD : ByteArray := ⟨#[116, 97, 98, 108, 101, 32, 32, 116, 32, 123, 97, 44, 32, 98, 125, 123, 97, 60, 98, 125]⟩
def exDT : ByteArray := ⟨#[116, 97, 98, 108, 101, 32, 116, 32, 123, 97, 44, 98, 125, 32, 123, 97, 60, 98, 125]⟩
def exE : ByteArray := ⟨#[108, 101, 113, 32, 107, 32, 120]⟩
def exDToks : List Tk := [⟨97, ⟨#[116, 97, 98, 108, 101]⟩, 0⟩, ⟨97, ⟨#[116]⟩, 7⟩, ⟨123, ⟨#[123]⟩, 9⟩, ⟨97, ⟨#[97]⟩, 10⟩, ⟨44, ⟨#[44]⟩, 11⟩, ⟨97, ⟨#[98]⟩, 13⟩, ⟨125, ⟨#[125]⟩, 14⟩, ⟨123, ⟨#[123]⟩, 15⟩, ⟨97, ⟨#[97]⟩, 16⟩, ⟨60, ⟨#[60]⟩, 17⟩, ⟨97, ⟨#[98]⟩, 18⟩, ⟨125, ⟨#[125]⟩, 19⟩]
def exDTrees : List Tr := [.mk ⟨97, ⟨#[116, 97, 98, 108, 101]⟩, 0⟩ none 0 [] 0, .mk ⟨97, ⟨#[116]⟩, 7⟩ none 0 [] 7, .mk ⟨123, ⟨#[123]⟩, 9⟩ none 0 [.mk ⟨97, ⟨#[97]⟩, 10⟩ none 0 [] 10, .mk ⟨44, ⟨#[44]⟩, 11⟩ none 0 [] 11, .mk ⟨97, ⟨#[98]⟩, 13⟩ none 0 [] 13] 14, .mk ⟨123, ⟨#[123]⟩, 15⟩ none 0 [.mk ⟨97, ⟨#[97]⟩, 16⟩ none 0 [] 16, .mk ⟨60, ⟨#[60]⟩, 17⟩ none 0 [] 17, .mk ⟨97, ⟨#[98]⟩, 18⟩ none 0 [] 18] 19]
def exDC : Cm := ⟨5, 0, ⟨⟨#[116]⟩, 7⟩, none, 0, [⟨⟨#[97]⟩, 10⟩, ⟨⟨#[98]⟩, 13⟩], none, 0, [⟨⟨⟨#[97]⟩, 16⟩, ⟨⟨#[98]⟩, 18⟩⟩], 15, n0, n0⟩
def exEToks : List Tk := [⟨97, ⟨#[108, 101, 113]⟩, 0⟩, ⟨97, ⟨#[107]⟩, 4⟩, ⟨97, ⟨#[120]⟩, 6⟩]
def exETrees : List Tr := [.mk ⟨97, ⟨#[108, 101, 113]⟩, 0⟩ none 0 [] 0, .mk ⟨97, ⟨#[107]⟩, 4⟩ none 0 [] 4, .mk ⟨97, ⟨#[120]⟩, 6⟩ none 0 [] 6]
theorem exD_sc : scan exD 0 [] = .ok exDToks := by kernel_rfl
theorem exD_ps : parse exDToks = .ok exDTrees := by rfl
theorem exD_cm : cmdR 21 exDTrees 20 = .ok exDC := by kernel_rfl
theorem exD_rd : readC 21 exD = .ok exDC := by
 rw [readC_ok exD_sc exD_ps, show ((exD.size : Nat) : Int) = 20 from rfl, exD_cm]
theorem exE_sc : scan exE 0 [] = .ok exEToks := by kernel_rfl
theorem exE_ps : parse exEToks = .ok exETrees := by rfl
theorem exE_cm : cmdR 8 exETrees 7 = .error 7 := by kernel_rfl
theorem exE_rd : readC 8 exE = .error (2, 7) := by
 rw [readC_ok exE_sc exE_ps, show ((exE.size : Nat) : Int) = 7 from rfl, exE_cm]
theorem exD_facts {x : Cm} (h : erc x = exDC) : x.pp = 15 ∧ ctext x = exDT ∧ (ctx x).length ≤ 100 ∧ SmlC x := by
 obtain ⟨op, p, n, A, c, ws, B, d, ps, pp, l, r⟩ := x
 unfold erc exDC at h
 injection h with h1 h2 h3 _ _ h4 _ _ h5 h6 h7 h8
 simp only at h1 h2 h3 h4 h5 h6 h7 h8
 subst h1 h2 h3 h4 h5 h6
 have hc1 : cnt [l] = 1 := by rw [← cnt_er [l], er_one, h7]; simp [cnt, n0, nd]
 have hc2 : cnt [r] = 1 := by rw [← cnt_er [r], er_one, h8]; simp [cnt, n0, nd]
 have ht : ctext (Cm.mk 5 0 ⟨⟨#[116]⟩, 7⟩ A c [⟨⟨#[97]⟩, 10⟩, ⟨⟨#[98]⟩, 13⟩] B d [⟨⟨⟨#[97]⟩, 16⟩, ⟨⟨#[98]⟩, 18⟩⟩] 15 l r) = exDT := by kernel_rfl
 refine ⟨rfl, ht, (show (ctext (Cm.mk 5 0 ⟨⟨#[116]⟩, 7⟩ A c [⟨⟨#[97]⟩, 10⟩, ⟨⟨#[98]⟩, 13⟩] B d [⟨⟨⟨#[97]⟩, 16⟩, ⟨⟨#[98]⟩, 18⟩⟩] 15 l r)).size ≤ 100 by rw [ht]; decide), ?_, ?_, ?_, ?_⟩
 ·show 2 ≤ 4294967296
  omega
 ·show 1 ≤ 4294967296
  omega
 ·show cnt [l] ≤ _
  omega
 ·show cnt [r] ≤ _
  omega
end CM
theorem alive12_any (w : World) (hT : Cmds w) :
 Calls Tryz.prog 7 #[] w fun e w' => e = .returned (.bool true) ∧ Below w.heap.size w w' := by
 have HP1 := zh (cread_any exD w (D := 21) (by decide) hT (by decide) (by decide))
 have HP2 : Hid (∀ W, Below w.heap.size w W → Calls Tryz.prog 18 #[.string exE] W fun e' w' => ReadC 8 exE W.heap.size e' W w') := zh fun W hW => cread_any exE W (by decide) (hT.low hW) (by decide) (by decide)
 have HT := zh hT
 clear hT
 unfold exD at HP1
 unfold exE at HP2
 have hdr := exD_rd
 have her := exE_rd
 unfold exD at hdr
 unfold exE at her
 go_enter Tryz.func7, Tryz.ntmps7
 go_wp2_with fail
 refine HP1.out.mono ?_
 rintro e' w1 ⟨hb1, hrd⟩
 rw [hdr] at hrd
 obtain ⟨x, rfl, hx, hdx⟩ := hrd
 obtain ⟨hpp, htx, hcx, hsx⟩ := exD_facts hx
 have HB1 := zh hb1
 have HIN := zh hdx.inn
 have HSX := zh hsx
 have HTXT := zh htx
 have HCX := zh hcx
 have HPP := zh hpp
 clear HP1 hdr hb1 hx hdx hpp htx hcx hsx
 have hn1 := (RowAt.new w1 30 (cv c0)).alloc (.cells #[.int .i64 0, .int .i64 0] 39)
 have hn2 := RowAt.new (w1.alloc (.cells (cv c0) 30)) 39 #[.int .i64 0, .int .i64 0]
 rw [show (w1.alloc (.cells (cv c0) 30)).heap.size = w1.heap.size + 1 by simp] at hn2
 have HN1 : Hid (RowAt ((w1.alloc (.cells (cv c0) 30)).alloc (.cells #[.int .i64 0, .int .i64 0] 39)) w1.heap.size 30 (cv c0)) := zh hn1
 have HN2 : Hid (RowAt (((w1.alloc (.cells (cv c0) 30)).alloc (.cells #[.int .i64 0, .int .i64 0] 39)).setRow w1.heap.size (cv x)) (w1.heap.size + 1) 39 #[.int .i64 0, .int .i64 0]) := zh ((setRow_other _ _ _ _ (by omega)).trans hn2)
 have HXw2 : Hid (RowAt ((((w1.alloc (.cells (cv c0) 30)).alloc (.cells #[.int .i64 0, .int .i64 0] 39)).setRow w1.heap.size (cv x)).setRow (w1.heap.size + 1) #[.int .i64 0, .int .i64 0]) w1.heap.size 30 (cv x)) := zh ((setRow_other _ _ _ _ (by omega)).trans (HN1.out.setRow (cv x)))
 have HFw2 : Hid (RowAt ((((w1.alloc (.cells (cv c0) 30)).alloc (.cells #[.int .i64 0, .int .i64 0] 39)).setRow w1.heap.size (cv x)).setRow (w1.heap.size + 1) #[.int .i64 0, .int .i64 0]) (w1.heap.size + 1) 39 #[.int .i64 0, .int .i64 0]) := zh (HN2.out.setRow #[.int .i64 0, .int .i64 0])
 have hbbw2 : Below w1.heap.size w1 ((((w1.alloc (.cells (cv c0) 30)).alloc (.cells #[.int .i64 0, .int .i64 0] 39)).setRow w1.heap.size (cv x)).setRow (w1.heap.size + 1) #[.int .i64 0, .int .i64 0]) := ((((zB _ _).alloc (zL _) _).alloc (by simp) _).trans (below_setRow (zL _) _)).trans (below_setRow (by omega) _)
 have HBBw2 := zh hbbw2
 clear hn1 hn2 hbbw2
 go_upto_region 2 with (first | (refine wpList_store_row rfl _ _ _ rfl w1.heap.size (cv x) rfl rfl _ _ HN1.out (cmd_info _) rfl (by simp [cv, c0, Value.oneCell']) ?_) | (refine wpList_store_row rfl _ _ _ rfl (w1.heap.size + 1) #[.int .i64 0, .int .i64 0] rfl rfl _ _ HN2.out (fault_info _ _) rfl (by simp [Value.oneCell']) ?_))
 clear HN1 HN2
 change Code.wp _ _ _ _ ((((w1.alloc (.cells (cv c0) 30)).alloc (.cells #[.int .i64 0, .int .i64 0] 39)).setRow w1.heap.size (cv x)).setRow (w1.heap.size + 1) #[.int .i64 0, .int .i64 0])
 generalize ((((w1.alloc (.cells (cv c0) 30)).alloc (.cells #[.int .i64 0, .int .i64 0] 39)).setRow w1.heap.size (cv x)).setRow (w1.heap.size + 1) #[.int .i64 0, .int .i64 0]) = w2 at *
 have HB2 := zh (HB1.out.trans (HBBw2.out.mono HB1.out.size))
 have HIN2 := zh ((HIN.out.below HBBw2.out).mono HBBw2.out.size)
 have hz1 : w1.heap.size + 1 < w2.heap.size := HFw2.out.lt
 clear HIN HBBw2 HB1
 go_wp2_with fail
 refine (HP2.out w2 HB2.out).mono ?_
 rintro e' w3 ⟨hb3, hrd⟩
 rw [her] at hrd
 subst hrd
 have HX3 := zh (HXw2.out.below hb3 (by omega))
 have HF3 := zh (HFw2.out.below hb3 hz1)
 have HB3 := zh (HB2.out.trans (hb3.mono HB2.out.size))
 have HIN3 := zh ((HIN2.out.below hb3).mono hb3.size)
 have hz3 : w2.heap.size ≤ w3.heap.size := hb3.size
 clear HP2 her hb3 HXw2 HFw2 HB2 HIN2
 have hn1 := (RowAt.new w3 30 (cv c0)).alloc (.cells #[.int .i64 0, .int .i64 0] 39)
 have hn2 := RowAt.new (w3.alloc (.cells (cv c0) 30)) 39 #[.int .i64 0, .int .i64 0]
 rw [show (w3.alloc (.cells (cv c0) 30)).heap.size = w3.heap.size + 1 by simp] at hn2
 have HN1 : Hid (RowAt ((w3.alloc (.cells (cv c0) 30)).alloc (.cells #[.int .i64 0, .int .i64 0] 39)) w3.heap.size 30 (cv c0)) := zh hn1
 have HN2 : Hid (RowAt (((w3.alloc (.cells (cv c0) 30)).alloc (.cells #[.int .i64 0, .int .i64 0] 39)).setRow w3.heap.size (cv c0)) (w3.heap.size + 1) 39 #[.int .i64 0, .int .i64 0]) := zh ((setRow_other _ _ _ _ (by omega)).trans hn2)
 have HXw4 : Hid (RowAt ((((w3.alloc (.cells (cv c0) 30)).alloc (.cells #[.int .i64 0, .int .i64 0] 39)).setRow w3.heap.size (cv c0)).setRow (w3.heap.size + 1) #[.int .i64 2, .int .i64 7]) w3.heap.size 30 (cv c0)) := zh ((setRow_other _ _ _ _ (by omega)).trans (HN1.out.setRow (cv c0)))
 have HFw4 : Hid (RowAt ((((w3.alloc (.cells (cv c0) 30)).alloc (.cells #[.int .i64 0, .int .i64 0] 39)).setRow w3.heap.size (cv c0)).setRow (w3.heap.size + 1) #[.int .i64 2, .int .i64 7]) (w3.heap.size + 1) 39 #[.int .i64 2, .int .i64 7]) := zh (HN2.out.setRow #[.int .i64 2, .int .i64 7])
 have hbbw4 : Below w3.heap.size w3 ((((w3.alloc (.cells (cv c0) 30)).alloc (.cells #[.int .i64 0, .int .i64 0] 39)).setRow w3.heap.size (cv c0)).setRow (w3.heap.size + 1) #[.int .i64 2, .int .i64 7]) := ((((zB _ _).alloc (zL _) _).alloc (by simp) _).trans (below_setRow (zL _) _)).trans (below_setRow (by omega) _)
 have HBBw4 := zh hbbw4
 clear hn1 hn2 hbbw4
 go_upto_region 3 with (first | (refine wpList_store_row rfl _ _ _ rfl w3.heap.size (cv c0) rfl rfl _ _ HN1.out (cmd_info _) rfl (by simp [cv, c0, Value.oneCell']) ?_) | (refine wpList_store_row rfl _ _ _ rfl (w3.heap.size + 1) #[.int .i64 2, .int .i64 7] rfl rfl _ _ HN2.out (fault_info _ _) rfl (by simp [Value.oneCell']) ?_))
 clear HN1 HN2
 change Code.wp _ _ _ _ ((((w3.alloc (.cells (cv c0) 30)).alloc (.cells #[.int .i64 0, .int .i64 0] 39)).setRow w3.heap.size (cv c0)).setRow (w3.heap.size + 1) #[.int .i64 2, .int .i64 7])
 generalize ((((w3.alloc (.cells (cv c0) 30)).alloc (.cells #[.int .i64 0, .int .i64 0] 39)).setRow w3.heap.size (cv c0)).setRow (w3.heap.size + 1) #[.int .i64 2, .int .i64 7]) = w4 at *
 have HX4 := zh (HX3.out.below HBBw4.out (by omega))
 have HF4 := zh (HF3.out.below HBBw4.out (by omega))
 have HB4 := zh (HB3.out.trans (HBBw4.out.mono HB3.out.size))
 have HIN4 := zh ((HIN3.out.below HBBw4.out).mono HBBw4.out.size)
 have HT4 := zh (HT.out.low HB4.out)
 have htx := ctextP_any x w4 HT4.out HIN4.out HSX.out (by have := HCX.out; omega)
 rw [HTXT.out] at htx
 unfold cv exDT at htx
 have HTX := zh htx
 clear htx HX3 HF3 HB3 HIN3 HBBw4 HXw4 HIN4
 have xc0 := (HX4.out.cell 0).trans (show (cv x)[0]? = some (.int .i64 x.op) from rfl)
 have xc1 := (HX4.out.cell 1).trans (show (cv x)[1]? = some (.int .i64 x.p) from rfl)
 have xc2 := (HX4.out.cell 2).trans (show (cv x)[2]? = some (.string x.n.s) from rfl)
 have xc3 := (HX4.out.cell 3).trans (show (cv x)[3]? = some (.int .i64 x.n.p) from rfl)
 have xc4 := (HX4.out.cell 4).trans (show (cv x)[4]? = some (.slice x.A x.ws.length x.c) from rfl)
 have xc5 := (HX4.out.cell 5).trans (show (cv x)[5]? = some (.slice x.B x.ps.length x.d) from rfl)
 have xc6 := (HX4.out.cell 6).trans (show (cv x)[6]? = some (.int .i64 x.pp) from rfl)
 have xc7 := (HX4.out.cell 7).trans (show (cv x)[7]? = some (.int .i64 x.l.k) from rfl)
 have xc8 := (HX4.out.cell 8).trans (show (cv x)[8]? = some (.int .i64 x.l.p) from rfl)
 have xc9 := (HX4.out.cell 9).trans (show (cv x)[9]? = some (.string x.l.s) from rfl)
 have xc10 := (HX4.out.cell 10).trans (show (cv x)[10]? = some (.slice x.l.A x.l.ws.length x.l.c) from rfl)
 have xc11 := (HX4.out.cell 11).trans (show (cv x)[11]? = some (.slice x.l.B x.l.ks.length x.l.d) from rfl)
 have xc12 := (HX4.out.cell 12).trans (show (cv x)[12]? = some (.int .i64 x.r.k) from rfl)
 have xc13 := (HX4.out.cell 13).trans (show (cv x)[13]? = some (.int .i64 x.r.p) from rfl)
 have xc14 := (HX4.out.cell 14).trans (show (cv x)[14]? = some (.string x.r.s) from rfl)
 have xc15 := (HX4.out.cell 15).trans (show (cv x)[15]? = some (.slice x.r.A x.r.ws.length x.r.c) from rfl)
 have xc16 := (HX4.out.cell 16).trans (show (cv x)[16]? = some (.slice x.r.B x.r.ks.length x.r.d) from rfl)
 rw [HPP.out] at xc6
 rw [HPP.out] at HTX
 obtain ⟨f0, f1, _, _⟩ := row2 HF4.out
 obtain ⟨g0, g1, _, _⟩ := row2 HFw4.out
 go_wp2_with fail
 refine HTX.out.mono ?_
 rintro e' w5 ⟨rfl, hb5⟩
 have xc6 : w5.cell? ⟨w1.heap.size, 6, none⟩ = some (.int .i64 15) := by
  have h := ((HX4.out.below hb5 HX4.out.lt).cell 6).trans (show (cv x)[6]? = some (.int .i64 x.pp) from rfl)
  rw [HPP.out] at h
  exact h
 obtain ⟨g0', g1', _, _⟩ := row2 (HFw4.out.below hb5 HFw4.out.lt)
 have HB5 := zh (HB4.out.trans (hb5.mono HB4.out.size))
 clear hb5 f0 f1 g0 g1
 go_wp2_with fail
 go_ret
 exact ⟨rfl, HB5.out⟩
end
section
open LX TR TM CM
namespace FP
variable {P : Int → Prop} {α β : Type}
def PosT (P : Int → Prop) (l : List Tr) : Prop := ∀ x ∈ nodes l, P x.t.p ∧ P x.e
theorem PosT.drop {l : List Tr} (h : PosT P l) (m : Nat) : PosT P (l.drop m) := fun x hx => h x (by
 have e := nodes_append (l.take m) (l.drop m)
 rw [List.take_append_drop] at e
 rw [e]
 exact List.mem_append_right _ hx)
structure PbR (P : Int → Prop) (rd : Rdr α) : Prop where
 bad : ∀ ts e p, PosT P ts → P e → rd ts e = .error p → P p
 ok : ∀ ts e x r, rd ts e = .ok (x, r) → ∃ m, r = ts.drop m
theorem PbR.pure {f : List Tr → α} : PbR P (fun ts _ => .ok (f ts, ts)) := ⟨fun ts e p _ _ h => (by cases h), fun ts e x r h => by
 simp only [Except.ok.injEq, Prod.mk.injEq] at h
 exact ⟨0, by rw [List.drop_zero, h.2]⟩⟩
theorem PbR.bnd {rd : Rdr α} {f : List Tr → Int → α → Rdr β} (h : PbR P rd) (h2 : ∀ ts e x, PbR P (f ts e x)) : PbR P (fun ts e => bnd (rd ts e) fun x r => f ts e x r e) := by
 refine ⟨fun ts e p ht he hp => ?_, fun ts e x r hr => ?_⟩
 ·cases hq : rd ts e with
  | error q =>
    rw [hq] at hp
    simp only [TM.bnd, Except.error.injEq] at hp
    rw [← hp]; exact h.bad ts e q ht he hq
  | ok yr =>
    obtain ⟨y, r⟩ := yr
    rw [hq] at hp
    obtain ⟨m, rfl⟩ := h.ok _ _ _ _ hq
    exact (h2 ts e y).bad _ _ _ (ht.drop m) he hp
 ·cases hq : rd ts e with
  | error q => rw [hq] at hr; cases hr
  | ok yr =>
    obtain ⟨y, r2⟩ := yr
    rw [hq] at hr
    obtain ⟨m, rfl⟩ := h.ok _ _ _ _ hq
    obtain ⟨m2, rfl⟩ := (h2 ts e y).ok _ _ _ _ hr
    exact ⟨m + m2, by rw [List.drop_drop]⟩
theorem PbR.map {rd : Rdr α} {f : List Tr → Int → α → β} (h : PbR P rd) : PbR P (fun ts e => TM.bnd (rd ts e) fun x r => .ok (f ts e x, r)) := h.bnd (f := fun ts e x r _ => .ok (f ts e x, r)) fun ts e x => PbR.pure (f := fun _ => f ts e x)
end FP
end
section
open LX TR TM CM
namespace FP
variable {P : Int → Prop}
def StP (P : Int → Prop) (st : List Tr) : Prop := ∀ f ∈ st.dropLast, P f.t.p
theorem StP.more {f : Tr} {st : List Tr} (h : StP P st) (hf : P f.t.p) : StP P (f :: st) := by
 cases st with
 | nil => intro x hx; simp at hx
 | cons a r =>
   intro x hx
   rw [List.dropLast_cons_cons] at hx
   rcases List.mem_cons.1 hx with rfl | hx
   ·exact hf
   ·exact h x hx
end FP
end
section
open Go.RowKit LX TR TM DT CM
theorem DeepC.more {W : World} {ok : Nat → Prop} {x : Cm} (h : DeepC W (fun k => k < W.heap.size ∧ ok k) x) (n : Nat) (hn : W.heap.size ≤ n) (o : Obj) : DeepC (W.alloc o) (fun k => k < (W.alloc o).heap.size ∧ (ok k ∧ k ≠ n)) x :=
 (h.keep9 fun k hk _ => ((zB W.heap.size W).alloc (zL _) o).block k hk).weak fun k hk h => ⟨hk, h.2, by omega⟩
namespace DT
theorem ltr_small {N : Nat} (h : N < 16) : (ltr (N : Int)).size ≤ 3 := by
 have : ∀ N : Fin 16, (ltr (N.val : Int)).size ≤ 3 := by decide
 exact this ⟨N, h⟩
end DT
end
section
open Go.RowKit LX TR TM DT CM
theorem equalP_any {F : FuncId} {g : Pw → Pw → Bool} (hf : ∀ args w, (callFunc F args).run Tryz.prog w = .ok (.enter F args) w) (A B : Option Addr) (c d : Nat) (a b : List Pw) (hn : a.length ≤ 1099511627776) (w : World)
 (hA : Sl w w.heap.size A (pwcs a)) (hB : Sl w w.heap.size B (pwcs b))
 (hC : ∀ x ∈ a, ∀ y ∈ b, ∀ W, Below w.heap.size w W → Calls Tryz.prog F #[.agg (pwv x), .agg (pwv y)] W fun e w' => e = .returned (.bool (g x y)) ∧ Below W.heap.size W w') :
 Calls Tryz.prog 33 #[.slice A a.length c, .slice B b.length d, .func (.func F) #[] #[]] w fun e w' => e = .returned (.bool (eqL g a b)) ∧ Below w.heap.size w w' := by
 have HA := zh hA; clear hA
 have HB := zh hB; clear hB
 have HC : Hid (∀ i, i < a.length → a.length = b.length → ∀ W, Below w.heap.size w W → Calls Tryz.prog F #[.agg (pwv (a.getD i pw0)), .agg (pwv (b.getD i pw0))] W fun e w' => e = .returned (.bool (g (a.getD i pw0) (b.getD i pw0))) ∧ Below W.heap.size W w') := fun i hi he W h => hC _ (getD_memL hi) _ (getD_memL (l := b) (i := i) (z := pw0) (by rw [← he]; exact hi)) W h
 clear hC
 by_cases hab : a.length = b.length
 ·have HIT := zh (fun i (hi : i < a.length) => @eqL_hit _ g pw0 a b hab i hi)
  have MISS := zh (@eqL_all _ g pw0 a b hab)
  have HCC := zh (fun i (hi : i < a.length) => HC.out i hi hab)
  clear HC
  generalize eqL g a b = r at *
  have HM := zh hab.symm
  rw [← hab]
  clear hab
  generalize hn' : a.length = n at *
  have HN := zh hn'; clear hn'
  go_enter Tryz.func33, Tryz.ntmps33
  go_wp2_with fail
  go_loopw [17] (fun iv wr => ∃ i : Nat, i ≤ n ∧ iv = .int .i64 i ∧ Hid (∀ j, j < i → g (a.getD j pw0) (b.getD j pw0) = true) ∧ Hid (Below w.heap.size w wr)) (fun iv _ => n - (intOf iv).toNat)
  case atStart => exact ⟨0, by omega, rfl, fun j hj => by omega, zB _ _⟩
  case round =>
   obtain ⟨i, hi, rfl, HF, HW⟩ := hrel
   by_cases hlt : i < n
   ·obtain ⟨ba, oa, rfl, hla, hca⟩ := sl_at (z := pw0) pwcells_length (HA.out.below HW.out) (k := i) (by rw [HN.out]; exact hlt) (by omega)
    have p0 := hca i 0 _ (by rw [HN.out]; exact hlt) (by omega) rfl
    have p2 := hca i 2 _ (by rw [HN.out]; exact hlt) (by omega) rfl
    have p3 := hca i 3 _ (by rw [HN.out]; exact hlt) (by omega) rfl
    have p1 := hca i 1 _ (by rw [HN.out]; exact hlt) (by omega) rfl
    rw [Nat.add_zero] at p0
    rw [← Nat.add_assoc] at p1 p2 p3
    have HIN : Hid (g (a.getD i pw0) (b.getD i pw0) = true → ∀ j, j < i + 1 → g (a.getD j pw0) (b.getD j pw0) = true) := fun h j hj => by
     by_cases hji : j = i
     ·rw [hji]; exact h
     ·exact HF.out j (by omega)
    have HNO : Hid (g (a.getD i pw0) (b.getD i pw0) = false → r = false) := fun h => HIT.out i hlt h
    have HD := zh (HCC.out i hlt)
    have hin : (i : Int) < (n : Int) := by omega
    clear hca HF
    generalize g (a.getD i pw0) (b.getD i pw0) = q at *
    generalize a.getD i pw0 = x at *
    obtain ⟨⟨s1, f1⟩, ⟨u1, k1⟩⟩ := x
    unfold pwv at HD
    simp only at p0 p1 p2 p3 HD
    obtain ⟨bb, ob, rfl, hlb, hcb⟩ := sl_at (z := pw0) pwcells_length (HB.out.below (HW.out.alloc HW.out.size (.cells #[.string s1, .int .i64 f1, .string u1, .int .i64 k1] 65))) (k := i) (by rw [HM.out]; exact hlt) (by omega)
    have q0 := hcb i 0 _ (by rw [HM.out]; exact hlt) (by omega) rfl
    have q2 := hcb i 2 _ (by rw [HM.out]; exact hlt) (by omega) rfl
    have q3 := hcb i 3 _ (by rw [HM.out]; exact hlt) (by omega) rfl
    have q1 := hcb i 1 _ (by rw [HM.out]; exact hlt) (by omega) rfl
    rw [Nat.add_zero] at q0
    rw [← Nat.add_assoc] at q1 q2 q3
    clear hcb
    generalize b.getD i pw0 = y at *
    obtain ⟨⟨s2, f2⟩, ⟨u2, k2⟩⟩ := y
    simp only at q0 q1 q2 q3 HD
    have HB2 : Hid (Below w.heap.size w ((wr.alloc (.cells #[.string s1, .int .i64 f1, .string u1, .int .i64 k1] 65)).alloc (.cells #[.string s2, .int .i64 f2, .string u2, .int .i64 k2] 65))) :=
     (HW.out.alloc HW.out.size _).alloc (by have := HW.out.size; simp; omega) _
    cases q
    ·have HT := zh (HNO.out rfl)
     clear HNO HIN
     go_wp2_with fail
     refine (HD.out _ HB2.out).mono ?_
     rintro e w1 ⟨rfl, hb⟩
     have HW1 := zh (HB2.out.trans (hb.mono HB2.out.size)); clear hb
     go_wp2_with fail
     go_ret
     exact ⟨ret_eq (bool_eq HT.out.symm), HW1.out⟩
    ·have HT := zh (HIN.out rfl)
     clear HNO HIN
     go_wp2_with fail
     refine (HD.out _ HB2.out).mono ?_
     rintro e w1 ⟨rfl, hb⟩
     have HW1 := zh (HB2.out.trans (hb.mono HB2.out.size)); clear hb
     go_wp2_with fail
     go_roundw
     case rel => exact ⟨i + 1, by omega, by go_num, HT, HW1⟩
     case measure => simp [intOf]; omega
   ·obtain rfl : i = n := by omega
    have HR := zh (MISS.out HF.out)
    go_wp2_with fail
    go_ret
    exact ⟨ret_eq (bool_eq HR.out.symm), HW.out⟩
 ·rw [eqL_len hab]
  have hne : ((a.length : Int) != (b.length : Int)) = true := by simp; omega
  clear hab HC
  generalize a.length = n at *
  generalize b.length = m at *
  go_enter Tryz.func33, Tryz.ntmps33
  go_wp2_with fail
  go_ret
  exact ⟨rfl, zB _ _⟩
theorem csw1_any (x y : Wd) (w : World) : Calls Tryz.prog 60 #[.agg (wv x), .agg (wv y)] w fun e w' => e = .returned (.bool (sw x y)) ∧ Below w.heap.size w w' := by
 obtain ⟨s, p⟩ := x
 obtain ⟨t, q⟩ := y
 have hB : Below w.heap.size w ((w.alloc (.cells #[.string s, .int .i64 p] 23)).alloc (.cells #[.string t, .int .i64 q] 23)) := ((zB _ _).alloc (zL _) _).alloc (by simp) _
 have HB := zh hB
 have q1 := NM.str_eq s t
 have HX : Hid (sw ⟨s, p⟩ ⟨t, q⟩ = decide (s = t)) := rfl
 rw [HX.out]
 clear hB HX
 unfold wv
 simp only
 generalize decide (s = t) = r at *
 go_enter Tryz.func60, Tryz.ntmps60
 go_wp2_with fail
 go_ret
 exact ⟨rfl, HB.out⟩
theorem csws_any (A B : Option Addr) (c d : Nat) (a b : List Wd) (hn : a.length ≤ 1099511627776) (w : World) (hA : Sl w w.heap.size A (wcs a)) (hB : Sl w w.heap.size B (wcs b)) :
 Calls Tryz.prog 32 #[.slice A a.length c, .slice B b.length d] w fun e w' => e = .returned (.bool (eqL sw a b)) ∧ Below w.heap.size w w' := by
 have HE := zh (equalW_any (F := 60) (g := sw) (fun _ _ => by kernel_rfl) A B c d a b hn w hA hB (fun x _ y _ W _ => csw1_any x y W))
 clear hA hB hn
 generalize eqL sw a b = r at *
 generalize a.length = n at *
 generalize b.length = m at *
 go_enter Tryz.func32, Tryz.ntmps32
 go_wp2_with fail
 refine HE.out.mono ?_
 rintro e w2 ⟨rfl, hb⟩
 have HB := zh hb; clear hb
 go_wp2_with fail
 go_ret
 exact ⟨rfl, HB.out⟩
namespace CM
theorem sl_row {w : World} {b ty n : Nat} {row : Array Value} (h : RowAt w b ty row) (hb : b < n) : Sl w n (some ⟨b, 0, none⟩) row.toList := fun _ =>
 ⟨b, 0, rfl, hb, fun j u hu => by rw [Nat.zero_add]; exact (h.cell j).trans (by rw [← Array.getElem?_toList]; exact hu)⟩
theorem eqL_two (p q : Pw) : eqL sw [p.a, p.b] [q.a, q.b] = spw p q := by
 simp [eqL, spw]
end CM
theorem cspr_any (p q : Pw) (w : World) : Calls Tryz.prog 31 #[.agg (pwv p), .agg (pwv q)] w fun e w' => e = .returned (.bool (spw p q)) ∧ Below w.heap.size w w' := by
 have hgx := (RowAt.new w 65 (pwv p)).alloc (.cells (pwv q) 65)
 have hgy := RowAt.new (w.alloc (.cells (pwv p) 65)) 65 (pwv q)
 rw [show (w.alloc (.cells (pwv p) 65)).heap.size = w.heap.size + 1 by simp] at hgy
 have hb1 : Below w.heap.size w ((w.alloc (.cells (pwv p) 65)).alloc (.cells (pwv q) 65)) := ((zB _ _).alloc (zL _) _).alloc (by simp) _
 have HE : Hid (∀ W, Below ((w.alloc (.cells (pwv p) 65)).alloc (.cells (pwv q) 65)).heap.size ((w.alloc (.cells (pwv p) 65)).alloc (.cells (pwv q) 65)) W → Calls Tryz.prog 32 #[.slice (some ⟨w.heap.size, 0, none⟩) 2 2, .slice (some ⟨w.heap.size + 1, 0, none⟩) 2 2] W fun e w' => e = .returned (.bool (spw p q)) ∧ Below W.heap.size W w') := zh fun W h => by
  rw [← eqL_two]
  exact csws_any (some ⟨w.heap.size, 0, none⟩) (some ⟨w.heap.size + 1, 0, none⟩) 2 2 [p.a, p.b] [q.a, q.b] (by simp) W (CM.sl_row (hgx.below h hgx.lt) (zT hgx.lt h.size)) (CM.sl_row (hgy.below h hgy.lt) (zT hgy.lt h.size))
 have HB1 := zh hb1
 clear hgx hgy hb1
 generalize spw p q = r at *
 go_enter Tryz.func31, Tryz.ntmps31
 go_upto_region 1 with fail
 change Code.wp _ _ _ _ ((w.alloc (.cells (pwv p) 65)).alloc (.cells (pwv q) 65))
 generalize ((w.alloc (.cells (pwv p) 65)).alloc (.cells (pwv q) 65)) = w1 at *
 refine wp_region_ot (fun W => Below w1.heap.size w1 W) (.take 0 (.take 1 (.solo 2 (.take 3 .nil)))) (by kernel_rfl) (by kernel_rfl) rfl (by kernel_rfl) ((zB _ _).drew) ?_
 have HS : Hid (Below w1.heap.size w1 w1.drew) := (zB _ _).drew
 iterate 2
  (refine wpOT_step (zO rfl) ?_)
  (first
        | (refine wpOT_skip (by rfl) ?_)
        | (refine wpOT_take (v := ?_) (by rfl) ?_ ?_; rotate_left 1; (intro wx hSx; go_simp; try with_reducible rfl)))
  (try simp only [Act.put, zA4, zA5, zA6])
 (refine wpOT_solo (zO rfl) ?_)
 intro K hK
 go_simp
 go_at_call 32
 refine (HE.out _ HS.out).mono ?_
 rintro e w2 ⟨rfl, hb⟩
 have hS : Below w1.heap.size w1 w2 := HS.out.trans (hb.mono HS.out.size)
 have HS2 := zh hS
 refine hK.out _ _ hS ?_
 clear hK K hb hS
 (try simp only [Act.put, zA4, zA5, zA6])
 iterate 1
  (refine wpOT_step (zO rfl) ?_)
  (first
        | (refine wpOT_skip (by rfl) ?_)
        | (refine wpOT_take (v := ?_) (by rfl) ?_ ?_; rotate_left 1; (intro wx hSx; go_simp; try with_reducible rfl)))
  (try simp only [Act.put, zA4, zA5, zA6])
 refine wpOT_done ?_
 go_wp2_with fail
 go_ret
 exact ⟨rfl, HB1.out.trans (HS2.out.mono HB1.out.size)⟩
theorem csame_any (x y : Cm) (w : World) (hx : CmIn w w.heap.size x) (hy : CmIn w w.heap.size y) (sx : SmlC x) :
 Calls Tryz.prog 10 #[.agg (cv x), .agg (cv y)] w fun e w' => e = .returned (.bool (smC x y)) ∧ Below w.heap.size w w' := by
 have hgx := (RowAt.new w 30 (cv x)).alloc (.cells (cv y) 30)
 have hgy := RowAt.new (w.alloc (.cells (cv x) 30)) 30 (cv y)
 rw [show (w.alloc (.cells (cv x) 30)).heap.size = w.heap.size + 1 by simp] at hgy
 have hb1 : Below w.heap.size w ((w.alloc (.cells (cv x) 30)).alloc (.cells (cv y) 30)) := ((zB _ _).alloc (zL _) _).alloc (by simp) _
 have HX1 := zh hgx
 have HY1 := zh hgy
 have HB1 := zh hb1
 have HW : Hid (∀ W, Below w.heap.size w W → Calls Tryz.prog 32 #[.slice x.A x.ws.length x.c, .slice y.A y.ws.length y.c] W fun e w' => e = .returned (.bool (eqL sw x.ws y.ws)) ∧ Below W.heap.size W w') := zh fun W h =>
  csws_any x.A y.A x.c y.c x.ws y.ws (zM sx.1 (by decide)) W ((hx.ws.below h).mono h.size) ((hy.ws.below h).mono h.size)
 have HP : Hid (∀ W, Below w.heap.size w W → Calls Tryz.prog 33 #[.slice x.B x.ps.length x.d, .slice y.B y.ps.length y.d, .func (.func 31) #[] #[]] W fun e w' => e = .returned (.bool (eqL spw x.ps y.ps)) ∧ Below W.heap.size W w') := zh fun W h =>
  equalP_any (F := 31) (g := spw) (fun _ _ => by kernel_rfl) x.B y.B x.d y.d x.ps y.ps (zM sx.2.1 (by decide)) W ((hx.ps.below h).mono h.size) ((hy.ps.below h).mono h.size) (fun p _ q _ W' _ => cspr_any p q W')
 have HL : Hid (∀ W, Below w.heap.size w W → Calls Tryz.prog 34 #[.agg (nv x.l), .agg (nv y.l)] W fun e w' => e = .returned (.bool (sm x.l y.l)) ∧ Below W.heap.size W w') := zh fun W h => same10_any 4294967296 (zL _) x.l y.l sx.2.2.1 W ((hx.l.below h).mono h.size) ((hy.l.below h).mono h.size)
 have HR : Hid (∀ W, Below w.heap.size w W → Calls Tryz.prog 34 #[.agg (nv x.r), .agg (nv y.r)] W fun e w' => e = .returned (.bool (sm x.r y.r)) ∧ Below W.heap.size W w') := zh fun W h => same10_any 4294967296 (zL _) x.r y.r sx.2.2.2 W ((hx.r.below h).mono h.size) ((hy.r.below h).mono h.size)
 unfold nv at HL HR
 have HSM : Hid (smC x y = (decide (x.op = y.op) && (decide (x.n.s = y.n.s) && (eqL sw x.ws y.ws && (eqL spw x.ps y.ps && (sm x.l y.l && sm x.r y.r)))))) := rfl
 rw [HSM.out]
 clear HSM hgx hgy hb1 hx hy sx
 generalize eqL sw x.ws y.ws = rw' at *
 generalize eqL spw x.ps y.ps = rp at *
 generalize sm x.l y.l = rl at *
 generalize sm x.r y.r = rr at *
 have hop : (x.op == y.op) = decide (x.op = y.op) := by rw [Bool.eq_iff_iff]; simp
 have qs := NM.str_eq x.n.s y.n.s
 generalize decide (x.op = y.op) = d1 at *
 generalize decide (x.n.s = y.n.s) = d2 at *
 go_enter Tryz.func10, Tryz.ntmps10
 go_upto_region 1 with fail
 change Code.wp _ _ _ _ ((w.alloc (.cells (cv x) 30)).alloc (.cells (cv y) 30))
 generalize ((w.alloc (.cells (cv x) 30)).alloc (.cells (cv y) 30)) = w1 at *
 have xc0 := (HX1.out.cell 0).trans (show (cv x)[0]? = some (.int .i64 x.op) from rfl)
 have xc2 := (HX1.out.cell 2).trans (show (cv x)[2]? = some (.string x.n.s) from rfl)
 have xc4 := (HX1.out.cell 4).trans (show (cv x)[4]? = some (.slice x.A x.ws.length x.c) from rfl)
 have xc5 := (HX1.out.cell 5).trans (show (cv x)[5]? = some (.slice x.B x.ps.length x.d) from rfl)
 have xc7 := (HX1.out.cell 7).trans (show (cv x)[7]? = some (.int .i64 x.l.k) from rfl)
 have xc8 := (HX1.out.cell 8).trans (show (cv x)[8]? = some (.int .i64 x.l.p) from rfl)
 have xc9 := (HX1.out.cell 9).trans (show (cv x)[9]? = some (.string x.l.s) from rfl)
 have xc10 := (HX1.out.cell 10).trans (show (cv x)[10]? = some (.slice x.l.A x.l.ws.length x.l.c) from rfl)
 have xc11 := (HX1.out.cell 11).trans (show (cv x)[11]? = some (.slice x.l.B x.l.ks.length x.l.d) from rfl)
 have xc12 := (HX1.out.cell 12).trans (show (cv x)[12]? = some (.int .i64 x.r.k) from rfl)
 have xc13 := (HX1.out.cell 13).trans (show (cv x)[13]? = some (.int .i64 x.r.p) from rfl)
 have xc14 := (HX1.out.cell 14).trans (show (cv x)[14]? = some (.string x.r.s) from rfl)
 have xc15 := (HX1.out.cell 15).trans (show (cv x)[15]? = some (.slice x.r.A x.r.ws.length x.r.c) from rfl)
 have xc16 := (HX1.out.cell 16).trans (show (cv x)[16]? = some (.slice x.r.B x.r.ks.length x.r.d) from rfl)
 have yc0 := (HY1.out.cell 0).trans (show (cv y)[0]? = some (.int .i64 y.op) from rfl)
 have yc2 := (HY1.out.cell 2).trans (show (cv y)[2]? = some (.string y.n.s) from rfl)
 have yc4 := (HY1.out.cell 4).trans (show (cv y)[4]? = some (.slice y.A y.ws.length y.c) from rfl)
 have yc5 := (HY1.out.cell 5).trans (show (cv y)[5]? = some (.slice y.B y.ps.length y.d) from rfl)
 have yc7 := (HY1.out.cell 7).trans (show (cv y)[7]? = some (.int .i64 y.l.k) from rfl)
 have yc8 := (HY1.out.cell 8).trans (show (cv y)[8]? = some (.int .i64 y.l.p) from rfl)
 have yc9 := (HY1.out.cell 9).trans (show (cv y)[9]? = some (.string y.l.s) from rfl)
 have yc10 := (HY1.out.cell 10).trans (show (cv y)[10]? = some (.slice y.l.A y.l.ws.length y.l.c) from rfl)
 have yc11 := (HY1.out.cell 11).trans (show (cv y)[11]? = some (.slice y.l.B y.l.ks.length y.l.d) from rfl)
 have yc12 := (HY1.out.cell 12).trans (show (cv y)[12]? = some (.int .i64 y.r.k) from rfl)
 have yc13 := (HY1.out.cell 13).trans (show (cv y)[13]? = some (.int .i64 y.r.p) from rfl)
 have yc14 := (HY1.out.cell 14).trans (show (cv y)[14]? = some (.string y.r.s) from rfl)
 have yc15 := (HY1.out.cell 15).trans (show (cv y)[15]? = some (.slice y.r.A y.r.ws.length y.r.c) from rfl)
 have yc16 := (HY1.out.cell 16).trans (show (cv y)[16]? = some (.slice y.r.B y.r.ks.length y.r.d) from rfl)
 cases d1
 ·go_wp2_with fail
  go_ret
  exact ⟨rfl, HB1.out⟩
 cases d2
 ·go_wp2_with fail
  go_ret
  exact ⟨rfl, HB1.out⟩
 go_wp2_with fail
 refine (HW.out _ HB1.out).mono ?_
 rintro e w2 ⟨rfl, hb⟩
 have HX2 := zh (HX1.out.below hb HX1.out.lt)
 have HY2 := zh (HY1.out.below hb HY1.out.lt)
 have HB2 := zh (HB1.out.trans (hb.mono HB1.out.size))
 clear hb xc0 xc2 xc4 xc5 xc7 xc8 xc9 xc10 xc11 xc12 xc13 xc14 xc15 xc16 yc0 yc2 yc4 yc5 yc7 yc8 yc9 yc10 yc11 yc12 yc13 yc14 yc15 yc16 HX1 HY1 HB1
 have xc0 := (HX2.out.cell 0).trans (show (cv x)[0]? = some (.int .i64 x.op) from rfl)
 have xc2 := (HX2.out.cell 2).trans (show (cv x)[2]? = some (.string x.n.s) from rfl)
 have xc4 := (HX2.out.cell 4).trans (show (cv x)[4]? = some (.slice x.A x.ws.length x.c) from rfl)
 have xc5 := (HX2.out.cell 5).trans (show (cv x)[5]? = some (.slice x.B x.ps.length x.d) from rfl)
 have xc7 := (HX2.out.cell 7).trans (show (cv x)[7]? = some (.int .i64 x.l.k) from rfl)
 have xc8 := (HX2.out.cell 8).trans (show (cv x)[8]? = some (.int .i64 x.l.p) from rfl)
 have xc9 := (HX2.out.cell 9).trans (show (cv x)[9]? = some (.string x.l.s) from rfl)
 have xc10 := (HX2.out.cell 10).trans (show (cv x)[10]? = some (.slice x.l.A x.l.ws.length x.l.c) from rfl)
 have xc11 := (HX2.out.cell 11).trans (show (cv x)[11]? = some (.slice x.l.B x.l.ks.length x.l.d) from rfl)
 have xc12 := (HX2.out.cell 12).trans (show (cv x)[12]? = some (.int .i64 x.r.k) from rfl)
 have xc13 := (HX2.out.cell 13).trans (show (cv x)[13]? = some (.int .i64 x.r.p) from rfl)
 have xc14 := (HX2.out.cell 14).trans (show (cv x)[14]? = some (.string x.r.s) from rfl)
 have xc15 := (HX2.out.cell 15).trans (show (cv x)[15]? = some (.slice x.r.A x.r.ws.length x.r.c) from rfl)
 have xc16 := (HX2.out.cell 16).trans (show (cv x)[16]? = some (.slice x.r.B x.r.ks.length x.r.d) from rfl)
 have yc0 := (HY2.out.cell 0).trans (show (cv y)[0]? = some (.int .i64 y.op) from rfl)
 have yc2 := (HY2.out.cell 2).trans (show (cv y)[2]? = some (.string y.n.s) from rfl)
 have yc4 := (HY2.out.cell 4).trans (show (cv y)[4]? = some (.slice y.A y.ws.length y.c) from rfl)
 have yc5 := (HY2.out.cell 5).trans (show (cv y)[5]? = some (.slice y.B y.ps.length y.d) from rfl)
 have yc7 := (HY2.out.cell 7).trans (show (cv y)[7]? = some (.int .i64 y.l.k) from rfl)
 have yc8 := (HY2.out.cell 8).trans (show (cv y)[8]? = some (.int .i64 y.l.p) from rfl)
 have yc9 := (HY2.out.cell 9).trans (show (cv y)[9]? = some (.string y.l.s) from rfl)
 have yc10 := (HY2.out.cell 10).trans (show (cv y)[10]? = some (.slice y.l.A y.l.ws.length y.l.c) from rfl)
 have yc11 := (HY2.out.cell 11).trans (show (cv y)[11]? = some (.slice y.l.B y.l.ks.length y.l.d) from rfl)
 have yc12 := (HY2.out.cell 12).trans (show (cv y)[12]? = some (.int .i64 y.r.k) from rfl)
 have yc13 := (HY2.out.cell 13).trans (show (cv y)[13]? = some (.int .i64 y.r.p) from rfl)
 have yc14 := (HY2.out.cell 14).trans (show (cv y)[14]? = some (.string y.r.s) from rfl)
 have yc15 := (HY2.out.cell 15).trans (show (cv y)[15]? = some (.slice y.r.A y.r.ws.length y.r.c) from rfl)
 have yc16 := (HY2.out.cell 16).trans (show (cv y)[16]? = some (.slice y.r.B y.r.ks.length y.r.d) from rfl)
 cases rw'
 ·go_wp2_with fail
  go_ret
  exact ⟨rfl, HB2.out⟩
 go_wp2_with fail
 refine (HP.out _ HB2.out).mono ?_
 rintro e w3 ⟨rfl, hb⟩
 have HX3 := zh (HX2.out.below hb HX2.out.lt)
 have HY3 := zh (HY2.out.below hb HY2.out.lt)
 have HB3 := zh (HB2.out.trans (hb.mono HB2.out.size))
 clear hb xc0 xc2 xc4 xc5 xc7 xc8 xc9 xc10 xc11 xc12 xc13 xc14 xc15 xc16 yc0 yc2 yc4 yc5 yc7 yc8 yc9 yc10 yc11 yc12 yc13 yc14 yc15 yc16 HX2 HY2 HB2
 have xc0 := (HX3.out.cell 0).trans (show (cv x)[0]? = some (.int .i64 x.op) from rfl)
 have xc2 := (HX3.out.cell 2).trans (show (cv x)[2]? = some (.string x.n.s) from rfl)
 have xc4 := (HX3.out.cell 4).trans (show (cv x)[4]? = some (.slice x.A x.ws.length x.c) from rfl)
 have xc5 := (HX3.out.cell 5).trans (show (cv x)[5]? = some (.slice x.B x.ps.length x.d) from rfl)
 have xc7 := (HX3.out.cell 7).trans (show (cv x)[7]? = some (.int .i64 x.l.k) from rfl)
 have xc8 := (HX3.out.cell 8).trans (show (cv x)[8]? = some (.int .i64 x.l.p) from rfl)
 have xc9 := (HX3.out.cell 9).trans (show (cv x)[9]? = some (.string x.l.s) from rfl)
 have xc10 := (HX3.out.cell 10).trans (show (cv x)[10]? = some (.slice x.l.A x.l.ws.length x.l.c) from rfl)
 have xc11 := (HX3.out.cell 11).trans (show (cv x)[11]? = some (.slice x.l.B x.l.ks.length x.l.d) from rfl)
 have xc12 := (HX3.out.cell 12).trans (show (cv x)[12]? = some (.int .i64 x.r.k) from rfl)
 have xc13 := (HX3.out.cell 13).trans (show (cv x)[13]? = some (.int .i64 x.r.p) from rfl)
 have xc14 := (HX3.out.cell 14).trans (show (cv x)[14]? = some (.string x.r.s) from rfl)
 have xc15 := (HX3.out.cell 15).trans (show (cv x)[15]? = some (.slice x.r.A x.r.ws.length x.r.c) from rfl)
 have xc16 := (HX3.out.cell 16).trans (show (cv x)[16]? = some (.slice x.r.B x.r.ks.length x.r.d) from rfl)
 have yc0 := (HY3.out.cell 0).trans (show (cv y)[0]? = some (.int .i64 y.op) from rfl)
 have yc2 := (HY3.out.cell 2).trans (show (cv y)[2]? = some (.string y.n.s) from rfl)
 have yc4 := (HY3.out.cell 4).trans (show (cv y)[4]? = some (.slice y.A y.ws.length y.c) from rfl)
 have yc5 := (HY3.out.cell 5).trans (show (cv y)[5]? = some (.slice y.B y.ps.length y.d) from rfl)
 have yc7 := (HY3.out.cell 7).trans (show (cv y)[7]? = some (.int .i64 y.l.k) from rfl)
 have yc8 := (HY3.out.cell 8).trans (show (cv y)[8]? = some (.int .i64 y.l.p) from rfl)
 have yc9 := (HY3.out.cell 9).trans (show (cv y)[9]? = some (.string y.l.s) from rfl)
 have yc10 := (HY3.out.cell 10).trans (show (cv y)[10]? = some (.slice y.l.A y.l.ws.length y.l.c) from rfl)
 have yc11 := (HY3.out.cell 11).trans (show (cv y)[11]? = some (.slice y.l.B y.l.ks.length y.l.d) from rfl)
 have yc12 := (HY3.out.cell 12).trans (show (cv y)[12]? = some (.int .i64 y.r.k) from rfl)
 have yc13 := (HY3.out.cell 13).trans (show (cv y)[13]? = some (.int .i64 y.r.p) from rfl)
 have yc14 := (HY3.out.cell 14).trans (show (cv y)[14]? = some (.string y.r.s) from rfl)
 have yc15 := (HY3.out.cell 15).trans (show (cv y)[15]? = some (.slice y.r.A y.r.ws.length y.r.c) from rfl)
 have yc16 := (HY3.out.cell 16).trans (show (cv y)[16]? = some (.slice y.r.B y.r.ks.length y.r.d) from rfl)
 cases rp
 ·go_wp2_with fail
  go_ret
  exact ⟨rfl, HB3.out⟩
 go_wp2_with fail
 refine (HL.out _ HB3.out).mono ?_
 rintro e w4 ⟨rfl, hb⟩
 have HX4 := zh (HX3.out.below hb HX3.out.lt)
 have HY4 := zh (HY3.out.below hb HY3.out.lt)
 have HB4 := zh (HB3.out.trans (hb.mono HB3.out.size))
 clear hb xc0 xc2 xc4 xc5 xc7 xc8 xc9 xc10 xc11 xc12 xc13 xc14 xc15 xc16 yc0 yc2 yc4 yc5 yc7 yc8 yc9 yc10 yc11 yc12 yc13 yc14 yc15 yc16 HX3 HY3 HB3
 have xc0 := (HX4.out.cell 0).trans (show (cv x)[0]? = some (.int .i64 x.op) from rfl)
 have xc2 := (HX4.out.cell 2).trans (show (cv x)[2]? = some (.string x.n.s) from rfl)
 have xc4 := (HX4.out.cell 4).trans (show (cv x)[4]? = some (.slice x.A x.ws.length x.c) from rfl)
 have xc5 := (HX4.out.cell 5).trans (show (cv x)[5]? = some (.slice x.B x.ps.length x.d) from rfl)
 have xc7 := (HX4.out.cell 7).trans (show (cv x)[7]? = some (.int .i64 x.l.k) from rfl)
 have xc8 := (HX4.out.cell 8).trans (show (cv x)[8]? = some (.int .i64 x.l.p) from rfl)
 have xc9 := (HX4.out.cell 9).trans (show (cv x)[9]? = some (.string x.l.s) from rfl)
 have xc10 := (HX4.out.cell 10).trans (show (cv x)[10]? = some (.slice x.l.A x.l.ws.length x.l.c) from rfl)
 have xc11 := (HX4.out.cell 11).trans (show (cv x)[11]? = some (.slice x.l.B x.l.ks.length x.l.d) from rfl)
 have xc12 := (HX4.out.cell 12).trans (show (cv x)[12]? = some (.int .i64 x.r.k) from rfl)
 have xc13 := (HX4.out.cell 13).trans (show (cv x)[13]? = some (.int .i64 x.r.p) from rfl)
 have xc14 := (HX4.out.cell 14).trans (show (cv x)[14]? = some (.string x.r.s) from rfl)
 have xc15 := (HX4.out.cell 15).trans (show (cv x)[15]? = some (.slice x.r.A x.r.ws.length x.r.c) from rfl)
 have xc16 := (HX4.out.cell 16).trans (show (cv x)[16]? = some (.slice x.r.B x.r.ks.length x.r.d) from rfl)
 have yc0 := (HY4.out.cell 0).trans (show (cv y)[0]? = some (.int .i64 y.op) from rfl)
 have yc2 := (HY4.out.cell 2).trans (show (cv y)[2]? = some (.string y.n.s) from rfl)
 have yc4 := (HY4.out.cell 4).trans (show (cv y)[4]? = some (.slice y.A y.ws.length y.c) from rfl)
 have yc5 := (HY4.out.cell 5).trans (show (cv y)[5]? = some (.slice y.B y.ps.length y.d) from rfl)
 have yc7 := (HY4.out.cell 7).trans (show (cv y)[7]? = some (.int .i64 y.l.k) from rfl)
 have yc8 := (HY4.out.cell 8).trans (show (cv y)[8]? = some (.int .i64 y.l.p) from rfl)
 have yc9 := (HY4.out.cell 9).trans (show (cv y)[9]? = some (.string y.l.s) from rfl)
 have yc10 := (HY4.out.cell 10).trans (show (cv y)[10]? = some (.slice y.l.A y.l.ws.length y.l.c) from rfl)
 have yc11 := (HY4.out.cell 11).trans (show (cv y)[11]? = some (.slice y.l.B y.l.ks.length y.l.d) from rfl)
 have yc12 := (HY4.out.cell 12).trans (show (cv y)[12]? = some (.int .i64 y.r.k) from rfl)
 have yc13 := (HY4.out.cell 13).trans (show (cv y)[13]? = some (.int .i64 y.r.p) from rfl)
 have yc14 := (HY4.out.cell 14).trans (show (cv y)[14]? = some (.string y.r.s) from rfl)
 have yc15 := (HY4.out.cell 15).trans (show (cv y)[15]? = some (.slice y.r.A y.r.ws.length y.r.c) from rfl)
 have yc16 := (HY4.out.cell 16).trans (show (cv y)[16]? = some (.slice y.r.B y.r.ks.length y.r.d) from rfl)
 cases rl
 ·go_wp2_with fail
  go_ret
  exact ⟨rfl, HB4.out⟩
 go_wp2_with fail
 refine (HR.out _ HB4.out).mono ?_
 rintro e w5 ⟨rfl, hb⟩
 have HX5 := zh (HX4.out.below hb HX4.out.lt)
 have HY5 := zh (HY4.out.below hb HY4.out.lt)
 have HB5 := zh (HB4.out.trans (hb.mono HB4.out.size))
 clear hb xc0 xc2 xc4 xc5 xc7 xc8 xc9 xc10 xc11 xc12 xc13 xc14 xc15 xc16 yc0 yc2 yc4 yc5 yc7 yc8 yc9 yc10 yc11 yc12 yc13 yc14 yc15 yc16 HX4 HY4 HB4
 go_wp2_with fail
 go_ret
 exact ⟨rfl, HB5.out⟩
end
section
open Go.RowKit LX TR TM DT CM
theorem indexP_any {F : FuncId} {caps : Array Value} {g : Pw → Bool} {KK : World → Prop} (hf : ∀ v w, (callFunc F (#[v] ++ caps)).run Tryz.prog w = .ok (.enter F (#[v] ++ caps)) w) (A : Option Addr) (c : Nat) (zs : List Pw) (hn : zs.length ≤ 1099511627776)
 (HF : ∀ z ∈ zs, ∀ w, KK w → Calls Tryz.prog F (#[.agg (pwv z)] ++ caps) w fun e w' => e = .returned (.bool (g z)) ∧ Below w.heap.size w w') (hKK : ∀ wa wb, KK wa → Below wa.heap.size wa wb → KK wb)
 (w : World) (hk : KK w) (hA : Sl w w.heap.size A (pwcs zs)) :
 Calls Tryz.prog 103 #[.slice A zs.length c, .func (.func F) #[] caps] w fun e w' => ∃ r : Int, e = .returned (.int .i64 r) ∧ decide (0 ≤ r) = zs.any g ∧ Below w.heap.size w w' := by
 have HA := zh hA; clear hA
 have HK := zh hk; clear hk
 have HKK := zh hKK; clear hKK
 have HFF : Hid (∀ i, i < zs.length → ∀ w, KK w → Calls Tryz.prog F (#[.agg (pwv (zs.getD i pw0))] ++ caps) w fun e w' => e = .returned (.bool (g (zs.getD i pw0))) ∧ Below w.heap.size w w') := fun i hi => HF _ (by
  rw [List.getD_eq_getElem?_getD, List.getElem?_eq_getElem hi]
  exact List.getElem_mem hi)
 clear HF
 have HHIT : Hid (∀ i, i < zs.length → g (zs.getD i pw0) = true → zs.any g = true) := fun i hi h => by
  rw [List.any_eq_true]
  refine ⟨_, ?_, h⟩
  rw [List.getD_eq_getElem?_getD, List.getElem?_eq_getElem hi]
  exact List.getElem_mem hi
 have HMISS : Hid ((∀ j, j < zs.length → g (zs.getD j pw0) = false) → zs.any g = false) := fun h => by
  rw [List.any_eq_false]
  intro x hx
  obtain ⟨j, hj, rfl⟩ := List.mem_iff_getElem.1 hx
  have := h j hj
  rw [List.getD_eq_getElem?_getD, List.getElem?_eq_getElem hj, Option.getD_some] at this
  simp [this]
 generalize hm : zs.length = n at *
 have HN := zh hm; clear hm
 go_enter Tryz.func103, Tryz.ntmps103
 go_wp2_with fail
 go_loopw [8] (fun iv wr => ∃ i : Nat, i ≤ n ∧ iv = .int .i64 i ∧ Hid (∀ j, j < i → g (zs.getD j pw0) = false) ∧ Hid (Below w.heap.size w wr)) (fun iv _ => n - (intOf iv).toNat)
 case atStart => exact ⟨0, by omega, rfl, fun j hj => by omega, zB _ _⟩
 case round =>
  obtain ⟨i, hi, rfl, HB, HW⟩ := hrel
  by_cases hlt : i < n
  ·obtain ⟨bb, o, rfl, hbb, hc⟩ := sl_at (z := pw0) pwcells_length (HA.out.below HW.out) (k := i) (by rw [HN.out]; exact hlt) (by omega)
   have q0 := hc i 0 _ (by rw [HN.out]; exact hlt) (by omega) rfl
   have q1 := hc i 1 _ (by rw [HN.out]; exact hlt) (by omega) rfl
   have q2 := hc i 2 _ (by rw [HN.out]; exact hlt) (by omega) rfl
   have q3 := hc i 3 _ (by rw [HN.out]; exact hlt) (by omega) rfl
   rw [Nat.add_zero] at q0
   rw [← Nat.add_assoc] at q1 q2 q3
   have HC := zh (HFF.out i hlt wr (HKK.out _ _ HK.out HW.out))
   have HIN : Hid (g (zs.getD i pw0) = false → ∀ j, j < i + 1 → g (zs.getD j pw0) = false) := fun h j hj => by
        by_cases e : j = i
        ·rw [e]; exact h
        ·exact HB.out j (by omega)
   have HYS := zh (HHIT.out i hlt)
   have hin : (i : Int) < (n : Int) := by omega
   clear hc HB
   generalize hgz : g (zs.getD i pw0) = q at *
   clear hgz
   generalize zs.getD i pw0 = z at *
   obtain ⟨⟨s9, p9⟩, ⟨s8, p8⟩⟩ := z
   unfold pwv at HC
   simp only at q0 q1 q2 q3 HC
   cases q
   ·have HIN2 := zh (HIN.out rfl)
    clear HIN HYS
    go_wp2_with fail
    refine HC.out.mono ?_
    rintro e w4 ⟨rfl, hb⟩
    have HW4 := zh (HW.out.trans (hb.mono HW.out.size))
    clear hb
    go_wp2_with fail
    go_roundw
    case rel => exact ⟨i + 1, by omega, by go_num, HIN2, HW4⟩
    case measure => simp [intOf]; omega
   ·have HYS2 := zh (HYS.out rfl)
    clear HIN HYS
    go_wp2_with fail
    refine HC.out.mono ?_
    rintro e w4 ⟨rfl, hb⟩
    have HW4 := zh (HW.out.trans (hb.mono HW.out.size))
    clear hb
    go_wp2_with fail
    go_ret
    refine ⟨(i : Int), rfl, ?_, HW4.out⟩
    rw [HYS2.out]
    exact zE (by omega)
  ·obtain rfl : i = n := by omega
   have HNO := zh (HMISS.out HB.out)
   go_wp2_with fail
   go_ret
   refine ⟨-1, rfl, ?_, HW.out⟩
   rw [HNO.out]; rfl
theorem containsP_any {F : FuncId} {caps : Array Value} {g : Pw → Bool} {KK : World → Prop} (hf : ∀ v w, (callFunc F (#[v] ++ caps)).run Tryz.prog w = .ok (.enter F (#[v] ++ caps)) w) (A : Option Addr) (c : Nat) (zs : List Pw) (hn : zs.length ≤ 1099511627776)
 (HF : ∀ z ∈ zs, ∀ w, KK w → Calls Tryz.prog F (#[.agg (pwv z)] ++ caps) w fun e w' => e = .returned (.bool (g z)) ∧ Below w.heap.size w w') (hKK : ∀ wa wb, KK wa → Below wa.heap.size wa wb → KK wb)
 (w : World) (hk : KK w) (hA : Sl w w.heap.size A (pwcs zs)) :
 Calls Tryz.prog 69 #[.slice A zs.length c, .func (.func F) #[] caps] w fun e w' => e = .returned (.bool (zs.any g)) ∧ Below w.heap.size w w' := by
 have HC := zh (indexP_any hf A c zs hn HF hKK w hk hA)
 clear hA HF hKK hk
 generalize zs.any g = q at *
 generalize zs.length = n at *
 go_enter Tryz.func69, Tryz.ntmps69
 go_wp2_with fail
 refine HC.out.mono ?_
 rintro e w1 ⟨r, rfl, hr, hb⟩
 have HR := zh hr
 have HB := zh hb
 clear hr hb
 go_wp2_with fail
 go_ret
 exact ⟨ret_eq (bool_eq HR.out), HB.out⟩
theorem crw1_any (x : Wd) (w : World) : Calls Tryz.prog 68 (#[.agg (wv x)] ++ #[]) w fun e w' => e = .returned (.bool (!NM.right x.s)) ∧ Below w.heap.size w w' := by
 obtain ⟨s, p⟩ := x
 have hn := RowAt.new w 23 #[.string s, .int .i64 p]
 obtain ⟨m0, m1, _, _⟩ := row2 hn
 have HB : Hid (Below w.heap.size w (w.alloc (.cells #[.string s, .int .i64 p] 23))) := (zB _ _).alloc (zL _) _
 have HC := zh (right_any s (w.alloc (.cells #[.string s, .int .i64 p] 23)))
 clear hn
 unfold wv
 show Calls _ _ #[.agg #[.string s, .int .i64 p]] _ _
 simp only
 generalize NM.right s = r at *
 go_enter Tryz.func68, Tryz.ntmps68
 go_wp2_with fail
 refine HC.out.mono ?_
 rintro e w1 ⟨rfl, hb⟩
 have HB1 := zh (HB.out.trans (hb.mono HB.out.size))
 clear hb
 go_wp2_with fail
 go_ret
 exact ⟨rfl, HB1.out⟩
theorem crws_any (A : Option Addr) (c : Nat) (ws : List Wd) (hn : ws.length ≤ 1099511627776) (w : World) (hA : Sl w w.heap.size A (wcs ws)) :
 Calls Tryz.prog 37 #[.slice A ws.length c] w fun e w' => e = .returned (.bool (wrB ws)) ∧ Below w.heap.size w w' := by
 have HC := zh (containsW_any (F := 68) (caps := #[]) (g := fun x => !NM.right x.s) (KK := fun _ => True) (fun _ _ => by kernel_rfl) A c ws hn (fun z _ w _ => crw1_any z w) (fun _ _ _ _ => trivial) w trivial hA)
 have HE : Hid (wrB ws = !(ws.any fun x => !NM.right x.s)) := by
  show wrB ws = _
  unfold wrB
  rw [List.not_any_eq_all_not]
  simp
 rw [HE.out]
 clear hA
 generalize (ws.any fun x => !NM.right x.s) = q at *
 generalize ws.length = n at *
 go_enter Tryz.func37, Tryz.ntmps37
 go_wp2_with fail
 refine HC.out.mono ?_
 rintro e w1 ⟨rfl, hb⟩
 have HB := zh hb
 clear hb
 go_wp2_with fail
 go_ret
 exact ⟨rfl, HB.out⟩
namespace CM
theorem wrB_two (p : Pw) : wrB [p.a, p.b] = (NM.right p.a.s && NM.right p.b.s) := by
 simp [wrB]
end CM
theorem crp1_any (p : Pw) (w : World) : Calls Tryz.prog 70 (#[.agg (pwv p)] ++ #[]) w fun e w' => e = .returned (.bool (!(NM.right p.a.s && NM.right p.b.s))) ∧ Below w.heap.size w w' := by
 have hgx := RowAt.new w 65 (pwv p)
 have hb1 : Below w.heap.size w (w.alloc (.cells (pwv p) 65)) := (zB _ _).alloc (zL _) _
 have HE : Hid (∀ W, Below (w.alloc (.cells (pwv p) 65)).heap.size (w.alloc (.cells (pwv p) 65)) W → Calls Tryz.prog 37 #[.slice (some ⟨w.heap.size, 0, none⟩) 2 2] W fun e w' => e = .returned (.bool (NM.right p.a.s && NM.right p.b.s)) ∧ Below W.heap.size W w') := zh fun W h => by
  rw [← wrB_two]
  exact crws_any (some ⟨w.heap.size, 0, none⟩) 2 [p.a, p.b] (by simp) W (CM.sl_row (hgx.below h hgx.lt) (zT hgx.lt h.size))
 have HB1 := zh hb1
 clear hgx hb1
 generalize (NM.right p.a.s && NM.right p.b.s) = r at *
 show Calls _ _ #[.agg (pwv p)] _ _
 go_enter Tryz.func70, Tryz.ntmps70
 go_upto_region 1 with fail
 change Code.wp _ _ _ _ (w.alloc (.cells (pwv p) 65))
 generalize (w.alloc (.cells (pwv p) 65)) = w1 at *
 go_wp2_with fail
 refine (HE.out _ (zB _ _)).mono ?_
 rintro e w2 ⟨rfl, hb⟩
 have HB2 := zh (HB1.out.trans (hb.mono HB1.out.size))
 clear hb
 go_wp2_with fail
 go_ret
 exact ⟨rfl, HB2.out⟩
theorem crps_any (A : Option Addr) (c : Nat) (ws : List Pw) (hn : ws.length ≤ 1099511627776) (w : World) (hA : Sl w w.heap.size A (pwcs ws)) :
 Calls Tryz.prog 38 #[.slice A ws.length c] w fun e w' => e = .returned (.bool (prB ws)) ∧ Below w.heap.size w w' := by
 have HC := zh (containsP_any (F := 70) (caps := #[]) (g := fun x => !(NM.right x.a.s && NM.right x.b.s)) (KK := fun _ => True) (fun _ _ => by kernel_rfl) A c ws hn (fun z _ w _ => crp1_any z w) (fun _ _ _ _ => trivial) w trivial hA)
 have HE : Hid (prB ws = !(ws.any fun x => !(NM.right x.a.s && NM.right x.b.s))) := by
  show prB ws = _
  unfold prB
  rw [List.not_any_eq_all_not]
  simp
 rw [HE.out]
 clear hA
 generalize (ws.any fun x => !(NM.right x.a.s && NM.right x.b.s)) = q at *
 generalize ws.length = n at *
 go_enter Tryz.func38, Tryz.ntmps38
 go_wp2_with fail
 refine HC.out.mono ?_
 rintro e w1 ⟨rfl, hb⟩
 have HB := zh hb
 clear hb
 go_wp2_with fail
 go_ret
 exact ⟨rfl, HB.out⟩
end
section
namespace CM
open LX TR TM DT
def zer (op : Int) : Cm := ⟨op, 0, w0, none, 0, [], none, 0, [], 0, n0, n0⟩
def rst1 (x : Cm) (k : Nat) : Option Cm :=
 if k = 110 then (if NM.right x.n.s = true then some ⟨x.op, x.p, w0, x.A, x.c, x.ws, x.B, x.d, x.ps, x.pp, x.l, x.r⟩ else none)
 else if k = 119 then (if (decide (0 < x.ws.length) && wrB x.ws) = true then some ⟨x.op, x.p, x.n, none, 0, [], x.B, x.d, x.ps, x.pp, x.l, x.r⟩ else none)
 else if k = 102 then (if (decide (x.ws.length = 1) && wrB x.ws) = true then some ⟨x.op, x.p, x.n, none, 0, [], x.B, x.d, x.ps, x.pp, x.l, x.r⟩ else none)
 else if k = 112 then (if prB x.ps = true then some ⟨x.op, x.p, x.n, x.A, x.c, x.ws, none, 0, [], x.pp, x.l, x.r⟩ else none)
 else if k = 116 then (if (fl x.l).l = true then some ⟨x.op, x.p, x.n, x.A, x.c, x.ws, x.B, x.d, x.ps, x.pp, x.r, n0⟩ else none)
 else if k = 114 then (if (fl x.l).r = true then some ⟨x.op, x.p, x.n, x.A, x.c, x.ws, x.B, x.d, x.ps, x.pp, x.r, n0⟩ else none)
 else none
def rstL : Cm → List Nat → Option Cm
 | x, [] => some x
 | x, k :: ks => match rst1 x k with | some y => rstL y ks | none => none
def ans (op : Int) : Option Cm → Bool
 | some y => smC y (zer op)
 | none => false
theorem ans_none (op : Int) : ans op none = false := rfl
theorem rstL_cons {x : Cm} {k : Nat} {ks : List Nat} : rstL x (k :: ks) = match rst1 x k with | some y => rstL y ks | none => none := rfl
theorem eqL_nilR {α : Type} {g : α → α → Bool} (l : List α) : eqL g l [] = decide (l.length = 0) := by cases l <;> rfl
theorem sm_zero : sm n0 n0 = true := by
 show sm (.mk 0 0 ⟨#[]⟩ none 0 [] none 0 []) (.mk 0 0 ⟨#[]⟩ none 0 [] none 0 []) = true
 rw [sm_mk]; rfl
theorem smC_zero (x : Cm) : smC x (zer x.op) = (decide (x.n.s = ⟨#[]⟩) && (decide (x.ws.length = 0) && (decide (x.ps.length = 0) && (sm x.l n0 && sm x.r n0)))) := by
 show (decide (x.op = x.op) && (decide (x.n.s = ⟨#[]⟩) && (eqL sw x.ws [] && (eqL spw x.ps [] && (sm x.l n0 && sm x.r n0))))) = _
 rw [eqL_nilR, eqL_nilR, zE rfl, Bool.true_and]
theorem wrB_nil {ws : List Wd} (h : ws.length = 0) : wrB ws = true := by
 rw [List.eq_nil_of_length_eq_zero h]; rfl
theorem prB_nil {ws : List Pw} (h : ws.length = 0) : prB ws = true := by
 rw [List.eq_nil_of_length_eq_zero h]; rfl
theorem ltl_kinds : ∀ k : Nat, k < 16 → ltl k ∈ ([[], [110, 119], [110, 119, 112], [110, 116, 116], [110, 114, 114], [110, 102], [110]] : List (List Nat)) := by decide
theorem st_n {op p n A c ws B d ps pp l r} {ks : List Nat} : rstL ⟨op, p, n, A, c, ws, B, d, ps, pp, l, r⟩ (110 :: ks) = if NM.right n.s = true then rstL ⟨op, p, w0, A, c, ws, B, d, ps, pp, l, r⟩ ks else none := by
 rw [rstL_cons, show rst1 ⟨op, p, n, A, c, ws, B, d, ps, pp, l, r⟩ 110 = (if NM.right n.s = true then some ⟨op, p, w0, A, c, ws, B, d, ps, pp, l, r⟩ else none) from if_pos rfl]
 split <;> rename_i h <;> split at h <;> simp_all
theorem st_w {op p n A c ws B d ps pp l r} {ks : List Nat} : rstL ⟨op, p, n, A, c, ws, B, d, ps, pp, l, r⟩ (119 :: ks) = if (decide (0 < ws.length) && wrB ws) = true then rstL ⟨op, p, n, none, 0, [], B, d, ps, pp, l, r⟩ ks else none := by
 rw [rstL_cons, show rst1 ⟨op, p, n, A, c, ws, B, d, ps, pp, l, r⟩ 119 = (if (decide (0 < ws.length) && wrB ws) = true then some ⟨op, p, n, none, 0, [], B, d, ps, pp, l, r⟩ else none) from rfl]
 split <;> rename_i h <;> split at h <;> simp_all
theorem st_f {op p n A c ws B d ps pp l r} {ks : List Nat} : rstL ⟨op, p, n, A, c, ws, B, d, ps, pp, l, r⟩ (102 :: ks) = if (decide (ws.length = 1) && wrB ws) = true then rstL ⟨op, p, n, none, 0, [], B, d, ps, pp, l, r⟩ ks else none := by
 rw [rstL_cons, show rst1 ⟨op, p, n, A, c, ws, B, d, ps, pp, l, r⟩ 102 = (if (decide (ws.length = 1) && wrB ws) = true then some ⟨op, p, n, none, 0, [], B, d, ps, pp, l, r⟩ else none) from rfl]
 split <;> rename_i h <;> split at h <;> simp_all
theorem st_p {op p n A c ws B d ps pp l r} {ks : List Nat} : rstL ⟨op, p, n, A, c, ws, B, d, ps, pp, l, r⟩ (112 :: ks) = if prB ps = true then rstL ⟨op, p, n, A, c, ws, none, 0, [], pp, l, r⟩ ks else none := by
 rw [rstL_cons, show rst1 ⟨op, p, n, A, c, ws, B, d, ps, pp, l, r⟩ 112 = (if prB ps = true then some ⟨op, p, n, A, c, ws, none, 0, [], pp, l, r⟩ else none) from rfl]
 split <;> rename_i h <;> split at h <;> simp_all
theorem st_t {op p n A c ws B d ps pp l r} {ks : List Nat} : rstL ⟨op, p, n, A, c, ws, B, d, ps, pp, l, r⟩ (116 :: ks) = if (fl l).l = true then rstL ⟨op, p, n, A, c, ws, B, d, ps, pp, r, n0⟩ ks else none := by
 rw [rstL_cons, show rst1 ⟨op, p, n, A, c, ws, B, d, ps, pp, l, r⟩ 116 = (if (fl l).l = true then some ⟨op, p, n, A, c, ws, B, d, ps, pp, r, n0⟩ else none) from rfl]
 split <;> rename_i h <;> split at h <;> simp_all
theorem st_r {op p n A c ws B d ps pp l r} {ks : List Nat} : rstL ⟨op, p, n, A, c, ws, B, d, ps, pp, l, r⟩ (114 :: ks) = if (fl l).r = true then rstL ⟨op, p, n, A, c, ws, B, d, ps, pp, r, n0⟩ ks else none := by
 rw [rstL_cons, show rst1 ⟨op, p, n, A, c, ws, B, d, ps, pp, l, r⟩ 114 = (if (fl l).r = true then some ⟨op, p, n, A, c, ws, B, d, ps, pp, r, n0⟩ else none) from rfl]
 split <;> rename_i h <;> split at h <;> simp_all
theorem st_0 {x : Cm} : rstL x [] = some x := rfl
theorem ri_0 {x : Cm} : riL [] x = (decide (x.n.s = ⟨#[]⟩) && (decide (x.ws.length = 0) && (decide (x.ps.length = 0) && (sm x.l n0 && sm x.r n0)))) := rfl
theorem ri_n {x : Cm} : riL [110] x = (NM.right x.n.s && (decide (x.ws.length = 0) && (decide (x.ps.length = 0) && (sm x.l n0 && sm x.r n0)))) := rfl
theorem ri_w {x : Cm} : riL [110, 119] x = (NM.right x.n.s && (decide (0 < x.ws.length) && (decide (x.ps.length = 0) && (sm x.l n0 && sm x.r n0)))) := rfl
theorem ri_p {x : Cm} : riL [110, 119, 112] x = (NM.right x.n.s && (decide (0 < x.ws.length) && (true && (sm x.l n0 && sm x.r n0)))) := rfl
theorem ri_t {x : Cm} : riL [110, 116, 116] x = (NM.right x.n.s && (decide (x.ws.length = 0) && (decide (x.ps.length = 0) && ((fl x.l).l && (fl x.r).l)))) := rfl
theorem ri_r {x : Cm} : riL [110, 114, 114] x = (NM.right x.n.s && (decide (x.ws.length = 0) && (decide (x.ps.length = 0) && ((fl x.l).r && (fl x.r).r)))) := rfl
theorem ri_f {x : Cm} : riL [110, 102] x = (NM.right x.n.s && (decide (x.ws.length = 1) && (decide (x.ps.length = 0) && (sm x.l n0 && sm x.r n0)))) := rfl
theorem rst_list (x : Cm) {L : List Nat} (h : L ∈ ([[], [110, 119], [110, 119, 112], [110, 116, 116], [110, 114, 114], [110, 102], [110]] : List (List Nat))) :
 ans x.op (rstL x L) = (wrB x.ws && (prB x.ps && riL L x)) := by
 obtain ⟨op, p, n, A, c, ws, B, d, ps, pp, l, r⟩ := x
 have hw := @wrB_nil ws
 have hp := @prB_nil ps
 have e1 : ∀ y : Cm, y.op = op → ans op (some y) = (decide (y.n.s = ⟨#[]⟩) && (decide (y.ws.length = 0) && (decide (y.ps.length = 0) && (sm y.l n0 && sm y.r n0)))) := fun y hy => by rw [← hy]; exact smC_zero y
 simp only [List.mem_cons, List.not_mem_nil, or_false] at h
 rcases h with rfl | rfl | rfl | rfl | rfl | rfl | rfl <;>
  simp only [st_n, st_w, st_f, st_p, st_t, st_r, st_0, ri_0, ri_n, ri_w, ri_p, ri_t, ri_r, ri_f] <;>
  (repeat' split) <;>
  first | (rw [e1 _ rfl]; simp only [w0, sm_zero]; grind) | (simp only [ans_none]; grind)
theorem rst_ri (x : Cm) : (decide (x.op = 0 ∨ wrd x.op ≠ ⟨#[]⟩) && ans x.op (rstL x (ltl x.op))) = riC x := by
 by_cases hr : 0 ≤ x.op ∧ x.op < 16
 ·obtain ⟨k, hk, hk2⟩ := tab_in hr
  rw [rst_list x (by rw [hk]; exact ltl_kinds k hk2)]
  unfold riC
  rw [zE hr]
  have h0 : ∀ k, k < 16 → (k = 0 ∨ wrd (k : Nat) ≠ ⟨#[]⟩) := by decide
  have h1 : x.op = 0 ∨ wrd x.op ≠ ⟨#[]⟩ := by
   rw [hk]
   exact (h0 k hk2).imp (fun h => by rw [h]; rfl) id
  rw [zE h1]
 ·unfold riC
  rw [zF hr, wrd_out hr, zF (fun h => h.elim (fun h2 => hr (by rw [h2]; decide)) fun h2 => h2 rfl)]
  rfl
end CM
end
section
namespace TM
open LX TR
end TM
open Go.RowKit LX TR TM
theorem nods_n0 (w : World) : Nods w w.heap.size [n0] := fun y hy => by
 obtain rfl : y = n0 := by simpa [TM.all, n0, nd] using hy
 exact ⟨⟨Sl.nil _ _ _, zL _⟩, Sl.nil _ _ _, zL _⟩
theorem Trs.take {w : World} {B : Nat} {A : Option Addr} {l : List Tr} (h : Trs w B A l) (m : Nat) : Trs w B A (l.take m) := by
 refine ⟨fun hne => ?_, fun x hx => h.2 x ?_⟩
 ·have e : tcs l = tcs (l.take m) ++ tcs (l.drop m) := by
   have h1 : tcs (l.take m ++ l.drop m) = tcs (l.take m) ++ tcs (l.drop m) := List.flatMap_append
   rw [List.take_append_drop] at h1; exact h1
  obtain ⟨b, o, h1, h2, h3⟩ := h.1 (by rw [e]; intro h0; exact hne (List.append_eq_nil_iff.1 h0).1)
  refine ⟨b, o, h1, h2, fun j u hu => h3 j u ?_⟩
  rw [e, List.getElem?_append_left (List.getElem?_eq_some_iff.1 hu).1]; exact hu
 ·have e := nodes_append (l.take m) (l.drop m)
  rw [List.take_append_drop] at e
  rw [e]; exact List.mem_append_left _ hx
end
section
open Go.RowKit LX TR TM DT CM
namespace CM
theorem sn_n (y : Cm) {ks : List Nat} : rstL y (110 :: ks) = if NM.right y.n.s = true then rstL (Cm.mk y.op y.p TM.w0 y.A y.c y.ws y.B y.d y.ps y.pp y.l y.r) ks else none := by cases y; exact st_n
theorem sn_w (y : Cm) {ks : List Nat} : rstL y (119 :: ks) = if (decide (0 < y.ws.length) && wrB y.ws) = true then rstL (Cm.mk y.op y.p y.n none 0 [] y.B y.d y.ps y.pp y.l y.r) ks else none := by cases y; exact st_w
theorem sn_f (y : Cm) {ks : List Nat} : rstL y (102 :: ks) = if (decide (y.ws.length = 1) && wrB y.ws) = true then rstL (Cm.mk y.op y.p y.n none 0 [] y.B y.d y.ps y.pp y.l y.r) ks else none := by cases y; exact st_f
theorem sn_p (y : Cm) {ks : List Nat} : rstL y (112 :: ks) = if prB y.ps = true then rstL (Cm.mk y.op y.p y.n y.A y.c y.ws none 0 [] y.pp y.l y.r) ks else none := by cases y; exact st_p
theorem sn_t (y : Cm) {ks : List Nat} : rstL y (116 :: ks) = if (fl y.l).l = true then rstL (Cm.mk y.op y.p y.n y.A y.c y.ws y.B y.d y.ps y.pp y.r n0) ks else none := by cases y; exact st_t
theorem sn_r (y : Cm) {ks : List Nat} : rstL y (114 :: ks) = if (fl y.l).r = true then rstL (Cm.mk y.op y.p y.n y.A y.c y.ws y.B y.d y.ps y.pp y.r n0) ks else none := by cases y; exact st_r
theorem cnt_n0L : cnt [n0] ≤ 4294967296 := by
 show cnt [Nd.mk 0 0 ⟨#[]⟩ none 0 [] none 0 []] ≤ _
 rw [cnt_cons]; simp [cnt, Nd.ws, Nd.ks]
end CM
theorem wpList_load_rowW {P : Program} {ops : Array Oper} {rest : List Oper} {o : Oper} {a : Act} {w : World} {Q : Exit → Act → World → Prop} (hgd : Region.wanted o (yielded ops a.tmps) = true) (ty : TypeId) (x : Operand) (ho : o.op = .load ty x)
 (g : Nat) (hx : a.eval x = .pointer (some ⟨g, 0, none⟩)) (t : TypeId) (cs : Array Value) (d : TypeDesc) (hg : RowAt w g t cs)
 (hu : P.underlying ty = some d) (hd : (match d with | .struct _ | .array _ _ => true | _ => false) = true) (hi : (P.info? ty).map (·.size) = some cs.size)
 (h : wpList P ops Q rest (a.put o.dst (.agg cs)) w) : wpList P ops Q (o :: rest) a w :=
 wpList_step fun _ hK => by rw [if_pos hgd]; exact wp_load_row ty x ho g hx t cs (0, 0) d hg hu hd hi (hK _ _ h)
theorem cright_any (x : Cm) (w : World) (hT : Cmds w) (hx : CmIn w w.heap.size x) (sx : SmlC x) :
 Calls Tryz.prog 12 #[.agg (cv x)] w fun e w' => e = .returned (.bool (riC x)) ∧ Below w.heap.size w w' := by
 have hr1 := RowAt.new w 30 (cv x)
 have HRI := zh (rst_ri x)
 have HLD : Hid (∀ pos (h : pos < (ltr x.op).size), (ltl x.op).drop pos = ((ltr x.op)[pos]'h).toNat :: (ltl x.op).drop (pos + 1)) := zh fun pos h => ltl_dropI h
 have HLL : Hid (∀ pos (h : pos < (ltr x.op).size), ((ltr x.op)[pos]'h).toNat ∈ LET) := zh fun pos h => ltl_letI h
 have HLZ := zh (ltl_szI x.op)
 have HIN := zh hx
 have HSM := zh sx
 have HTW := zh hT
 have hb0 : Below w.heap.size w (w.alloc (.cells (cv x) 30)) := (zB _ _).alloc (zL _) _
 have HR0 := zh hr1
 have HB0 := zh hb0
 clear hr1 hb0 hx hT sx
 generalize riC x = res at *
 go_enter Tryz.func12, Tryz.ntmps12
 go_upto_region 1 with fail
 change Code.wp _ _ _ _ (w.alloc (.cells (cv x) 30))
 have hz0 : (w.alloc (.cells (cv x) 30)).heap.size = w.heap.size + 1 := by simp
 generalize (w.alloc (.cells (cv x) 30)) = v0 at *
 have hz := RowAt.new v0 30 (cv c0)
 rw [hz0] at hz
 have HZ := zh hz
 have HG1 : Hid (RowAt ((v0.alloc (.cells (cv c0) 30)).setRow (w.heap.size + 1) (cv x)) (w.heap.size + 1) 30 (cv x)) := zh (hz.setRow _)
 have HX1 : Hid (RowAt ((v0.alloc (.cells (cv c0) 30)).setRow (w.heap.size + 1) (cv x)) w.heap.size 30 (cv x)) := zh ((setRow_other _ _ w.heap.size _ (by omega)).trans (HR0.out.alloc _))
 have HB1 : Hid (Below w.heap.size w ((v0.alloc (.cells (cv c0) 30)).setRow (w.heap.size + 1) (cv x))) := zh ((HB0.out.alloc (by omega) _).trans (below_setRow (Nat.le_succ _) _))
 have hs1 : w.heap.size + 1 < ((v0.alloc (.cells (cv c0) 30)).setRow (w.heap.size + 1) (cv x)).heap.size := HG1.out.lt
 clear hz
 go_upto_region 2 with (first | (refine wpList_load_row rfl _ _ rfl w.heap.size rfl _ _ (0, 0) _ HR0.out Tryz.underlying30 rfl (cmd_info _) ?_) | (refine wpList_store_row rfl _ _ _ rfl (w.heap.size + 1) (cv x) rfl rfl _ _ HZ.out (cmd_info x) rfl (by simp [cv, Value.oneCell']) ?_))
 (try simp only [Act.put])
 change Code.wp _ _ _ _ ((v0.alloc (.cells (cv c0) 30)).setRow (w.heap.size + 1) (cv x))
 generalize ((v0.alloc (.cells (cv c0) 30)).setRow (w.heap.size + 1) (cv x)) = w1 at *
 clear HR0 HB0 HZ hz0
 have c0' : w1.cell? ⟨w.heap.size, 0, none⟩ = some (.int .i64 x.op) := (HX1.out.cell 0).trans rfl
 go_wp2_with fail
 refine (parts_cmd x.op w1 (HTW.out.low HB1.out)).mono ?_
 rintro e' w' ⟨rfl, hww⟩
 have hww := hww.symm
 subst hww
 clear c0'
 generalize ltr x.op = P at *
 generalize ltl x.op = KS at *
 generalize hR : rstL x KS = R at *
 have HR0 := zh hR
 have hb7 : Below w1.heap.size w1 (w1.iter P 0) := (zB _ _).alloc (zL _) _
 have HI7 := zh (World.iter_heap w1 P 0)
 have HG7 := zh (HG1.out.below hb7 HG1.out.lt)
 have HX7 := zh (HX1.out.below hb7 HX1.out.lt)
 have HB7 := zh (HB1.out.trans (hb7.mono HB1.out.size))
 have hzi : w1.heap.size < (w1.iter P 0).heap.size := by show _ < (w1.alloc _).heap.size; simp
 obtain ⟨gi, hgi⟩ : ∃ gi, gi = w1.heap.size := ⟨_, rfl⟩
 clear hb7 HG1 HX1 HB1 hR
 go_wp2_with fail
 rw [← hgi] at HI7 hs1 hzi ⊢
 clear hgi
 go_loopw [2, 5, 6] (fun _ _ _ wr => ∃ (pos : Nat) (y : Cm), pos ≤ P.size ∧ Hid (wr.heap[gi]? = some (.stringIter P pos)) ∧ Hid (RowAt wr (w.heap.size + 1) 30 (cv y)) ∧ Hid (RowAt wr w.heap.size 30 (cv x)) ∧ Hid (Below w.heap.size w wr) ∧ Hid (rstL y (KS.drop pos) = R) ∧ Hid (CmIn w w.heap.size y) ∧ Hid (SmlC y) ∧ gi < wr.heap.size) (fun _ _ _ wr => P.size - wr.iterPos gi)
 case atStart => exact ⟨0, x, Nat.zero_le _, HI7.out, HG7.out, HX7.out, HB7.out, HR0.out, HIN.out, HSM.out, hzi⟩
 case round =>
  clear HI7 HG7 HX7 HB7 HR0 hzi
  obtain ⟨pos, y, hps, HIT, HG, HX, HB, HR, HCM, HSY, hgi⟩ := hrel
  have hmu : wr.iterPos gi = pos := by simp [World.iterPos, HIT.out]
  by_cases hp : pos < P.size
  ·have hld := HLD.out pos hp
   have hll := HLL.out pos hp
   have h128 := let_small hll
   have hnext : ∀ ty, (Instr.next (.pointer (some ⟨gi, 0, none⟩)) true ty).run Tryz.prog wr = _ := fun ty => Lib.run_next_ascii_at wr gi P pos ty HIT.out hp h128
   have HI3 := zh (Lib.iterAt_heap wr gi P pos (pos + 1) HIT.out)
   have HG3 : Hid (RowAt (wr.iterAt gi P (pos + 1)) (w.heap.size + 1) 30 (cv y)) := zh ((Lib.iterAt_other wr gi (w.heap.size + 1) P (pos + 1) (by omega)).trans HG.out)
   have HX3 : Hid (RowAt (wr.iterAt gi P (pos + 1)) w.heap.size 30 (cv x)) := zh ((Lib.iterAt_other wr gi w.heap.size P (pos + 1) (by omega)).trans HX.out)
   have HB3 : Hid (Below w.heap.size w (wr.iterAt gi P (pos + 1))) := zh (Lib.below_iterAt HB.out (by omega) P (pos + 1))
   have hgi3 : gi < (wr.iterAt gi P (pos + 1)).heap.size := by rw [Lib.iterAt_size]; exact hgi
   rw [hld] at HR
   have hk2 : (P[pos]'hp).toNat = (P[pos]'hp).toNat := rfl
   clear hld HIT HG HX HB hgi
   generalize wr.iterAt gi P (pos + 1) = w3 at *
   have hL := hll
   simp only [LET, List.mem_cons, List.not_mem_nil, or_false] at hL
   rcases hL with hkn | hkn | hkn | hkn | hkn | hkn
   ·rw [hkn] at HR
    have HGO : Hid (NM.right y.n.s = true → rstL (Cm.mk y.op y.p TM.w0 y.A y.c y.ws y.B y.d y.ps y.pp y.l y.r) (KS.drop (pos + 1)) = R) := zh fun h => by
     have h2 := HR.out
     rw [sn_n y, if_pos h] at h2
     exact h2
    have HNO : Hid (NM.right y.n.s = false → false = res) := zh fun h => by
     have h2 := HR.out
     rw [sn_n y, if_neg (by rw [h]; decide)] at h2
     rw [← HRI.out, ← h2, ans_none, Bool.and_false]
    clear HR
    have c2 : w3.cell? ⟨w.heap.size + 1, 2, none⟩ = some (.string y.n.s) := (HG3.out.cell 2).trans rfl
    have HC := zh (right_any y.n.s w3)
    generalize NM.right y.n.s = q at *
    go_wp2_with fail
    clear c2
    refine HC.out.mono ?_
    rintro e' w4 ⟨rfl, hb⟩
    have HG4 := zh (HG3.out.below hb HG3.out.lt)
    have HX4 := zh (HX3.out.below hb HX3.out.lt)
    have HI4 : Hid (w4.heap[gi]? = some (.stringIter P (pos + 1))) := zh ((hb.block gi hgi3).trans HI3.out)
    have HB4 := zh (HB3.out.trans (hb.mono HB3.out.size))
    have hgi4 : gi < w4.heap.size := zT hgi3 hb.size
    clear hb HG3 HX3 HI3 HB3
    have hr9 := RowAt.putsD HG4.out [.string ⟨#[]⟩, .int .i64 0] 2
    have HG9 : Hid (RowAt (w4.setCells (w.heap.size + 1) 2 [.string ⟨#[]⟩, .int .i64 0]) (w.heap.size + 1) 30 (cv (Cm.mk y.op y.p TM.w0 y.A y.c y.ws y.B y.d y.ps y.pp y.l y.r))) := zh (hr9)
    have HX9 : Hid (RowAt (w4.setCells (w.heap.size + 1) 2 [.string ⟨#[]⟩, .int .i64 0]) w.heap.size 30 (cv x)) := zh ((setCells_other _ _ _ _ w.heap.size (by omega)).trans HX4.out)
    have HI9 : Hid ((w4.setCells (w.heap.size + 1) 2 [.string ⟨#[]⟩, .int .i64 0]).heap[gi]? = some (.stringIter P (pos + 1))) := zh ((setCells_other _ _ _ _ gi (by omega)).trans HI4.out)
    have HB9 : Hid (Below w.heap.size w (w4.setCells (w.heap.size + 1) 2 [.string ⟨#[]⟩, .int .i64 0])) := zh (HB4.out.trans (setCells_below (Nat.le_succ _) 2 _))
    have hgi9 : gi < (w4.setCells (w.heap.size + 1) 2 [.string ⟨#[]⟩, .int .i64 0]).heap.size := zT hgi4 ((setCells_below (Nat.le_succ _) 2 _) : Below w.heap.size w4 (w4.setCells (w.heap.size + 1) 2 [.string ⟨#[]⟩, .int .i64 0])).size
    have hmu2 : (w4.setCells (w.heap.size + 1) 2 [.string ⟨#[]⟩, .int .i64 0]).iterPos gi = pos + 1 := by simp [World.iterPos, HI9.out]
    clear hr9 HC
    cases q
    ·have HE := zh (HNO.out rfl)
     clear HGO HNO hmu2 hmu
     go_wp2_with (first | (refine wpList_store_mid rfl _ _ _ rfl (w.heap.size + 1) 2 #[.string ⟨#[]⟩, .int .i64 0] rfl rfl (RowAt.thereD HG4.out (by show 2 + 2 ≤ 17; omega)) (by kernel_rfl) (by simp [Value.oneCell']) ?_))
     go_ret
     exact ⟨ret_eq (bool_eq HE.out), HB9.out⟩
    ·have HE := zh (HGO.out rfl)
     clear HGO HNO
     go_wp2_with (first | (refine wpList_store_mid rfl _ _ _ rfl (w.heap.size + 1) 2 #[.string ⟨#[]⟩, .int .i64 0] rfl rfl (RowAt.thereD HG4.out (by show 2 + 2 ≤ 17; omega)) (by kernel_rfl) (by simp [Value.oneCell']) ?_))
     (try simp only [Act.put])
     go_roundw
     case rel => exact ⟨pos + 1, (Cm.mk y.op y.p TM.w0 y.A y.c y.ws y.B y.d y.ps y.pp y.l y.r), hp, HI9.out, HG9.out, HX9.out, HB9.out, HE.out, ⟨HCM.out.ws, HCM.out.wc, HCM.out.ps, HCM.out.pc, HCM.out.l, HCM.out.r⟩, HSY.out, hgi9⟩
     case measure => rw [hmu, hmu2]; omega
   ·rw [hkn] at HR
    have HGO : Hid ((decide (0 < y.ws.length) && wrB y.ws) = true → rstL (Cm.mk y.op y.p y.n none 0 [] y.B y.d y.ps y.pp y.l y.r) (KS.drop (pos + 1)) = R) := zh fun h => by
     have h2 := HR.out
     rw [sn_w y, if_pos h] at h2
     exact h2
    have HNO : Hid ((decide (0 < y.ws.length) && wrB y.ws) = false → false = res) := zh fun h => by
     have h2 := HR.out
     rw [sn_w y, if_neg (by rw [h]; decide)] at h2
     rw [← HRI.out, ← h2, ans_none, Bool.and_false]
    clear HR
    have HC := zh (crws_any y.A y.c y.ws (zM HSY.out.1 (by decide)) w3 ((HCM.out.ws.below HB3.out).mono HB3.out.size))
    have c4 : w3.cell? ⟨w.heap.size + 1, 4, none⟩ = some (.slice y.A y.ws.length y.c) := (HG3.out.cell 4).trans rfl
    by_cases hlen : 0 < y.ws.length
    ·rw [zE hlen, Bool.true_and] at HGO HNO
     have hl2 : ((y.ws.length : Int) > 0) := by omega
     generalize wrB y.ws = q at *
     generalize y.ws.length = nw at *
     go_wp2_with fail
     clear c4
     refine HC.out.mono ?_
     rintro e' w4 ⟨rfl, hb⟩
     have HG4 := zh (HG3.out.below hb HG3.out.lt)
     have HX4 := zh (HX3.out.below hb HX3.out.lt)
     have HI4 : Hid (w4.heap[gi]? = some (.stringIter P (pos + 1))) := zh ((hb.block gi hgi3).trans HI3.out)
     have HB4 := zh (HB3.out.trans (hb.mono HB3.out.size))
     have hgi4 : gi < w4.heap.size := zT hgi3 hb.size
     clear hb HG3 HX3 HI3 HB3
     have f4 := HG4.out.free 4
     have k4 := (HG4.out.cell 4).trans (show (cv y)[4]? = some (.slice y.A y.ws.length y.c) from rfl)
     have hbt := But.setCell w4 (w.heap.size + 1) 4 (.slice none 0 0)
     have HG9 : Hid (RowAt (w4.setCell ⟨w.heap.size + 1, 4, none⟩ (.slice none 0 0)) (w.heap.size + 1) 30 (cv (Cm.mk y.op y.p y.n none 0 [] y.B y.d y.ps y.pp y.l y.r))) := zh (HG4.out.put 4 (.slice none 0 0))
     have HX9 : Hid (RowAt (w4.setCell ⟨w.heap.size + 1, 4, none⟩ (.slice none 0 0)) w.heap.size 30 (cv x)) := zh ((hbt.block w.heap.size (by omega) (by omega)).trans HX4.out)
     have HI9 : Hid ((w4.setCell ⟨w.heap.size + 1, 4, none⟩ (.slice none 0 0)).heap[gi]? = some (.stringIter P (pos + 1))) := zh ((hbt.block gi (by omega) (by omega)).trans HI4.out)
     have HB9 : Hid (Below w.heap.size w (w4.setCell ⟨w.heap.size + 1, 4, none⟩ (.slice none 0 0))) := zh (HB4.out.trans ((zB w.heap.size w4).setCell (p := ⟨w.heap.size + 1, 4, none⟩) (Nat.le_succ _) _))
     have hgi9 : gi < (w4.setCell ⟨w.heap.size + 1, 4, none⟩ (.slice none 0 0)).heap.size := zT hgi4 (((zB w.heap.size w4).setCell (p := ⟨w.heap.size + 1, 4, none⟩) (Nat.le_succ _) _) : Below w.heap.size w4 (w4.setCell ⟨w.heap.size + 1, 4, none⟩ (.slice none 0 0))).size
     have hmu2 : (w4.setCell ⟨w.heap.size + 1, 4, none⟩ (.slice none 0 0)).iterPos gi = pos + 1 := by simp [World.iterPos, HI9.out]
     clear hbt HC
     cases q
     ·have HE := zh (HNO.out rfl)
      clear HGO HNO hmu2 hmu
      go_wp2_with (fail)
      go_ret
      exact ⟨ret_eq (bool_eq HE.out), HB9.out⟩
     ·have HE := zh (HGO.out rfl)
      clear HGO HNO
      go_wp2_with (fail)
      (try simp only [Act.put])
      go_roundw
      case rel => exact ⟨pos + 1, (Cm.mk y.op y.p y.n none 0 [] y.B y.d y.ps y.pp y.l y.r), hp, HI9.out, HG9.out, HX9.out, HB9.out, HE.out, ⟨Sl.nil _ _ _, Nat.zero_le _, HCM.out.ps, HCM.out.pc, HCM.out.l, HCM.out.r⟩, ⟨Nat.zero_le _, HSY.out.2.1, HSY.out.2.2.1, HSY.out.2.2.2⟩, hgi9⟩
      case measure => rw [hmu, hmu2]; omega
    ·rw [zF hlen, Bool.false_and] at HNO
     have HE := zh (HNO.out rfl)
     have hl2 : y.ws.length = 0 := by omega
     have f4 := HG3.out.free 4
     have HB9 : Hid (Below w.heap.size w (w3.setCell ⟨w.heap.size + 1, 4, none⟩ (.slice none 0 0))) := zh (HB3.out.setCell (p := ⟨w.heap.size + 1, 4, none⟩) (Nat.le_succ _) _)
     clear HGO HNO HC
     rw [hl2] at c4
     generalize y.ws.length = nw at *
     go_wp2_with fail
     go_ret
     exact ⟨ret_eq (bool_eq HE.out), HB9.out⟩
   ·rw [hkn] at HR
    have HGO : Hid ((decide (y.ws.length = 1) && wrB y.ws) = true → rstL (Cm.mk y.op y.p y.n none 0 [] y.B y.d y.ps y.pp y.l y.r) (KS.drop (pos + 1)) = R) := zh fun h => by
     have h2 := HR.out
     rw [sn_f y, if_pos h] at h2
     exact h2
    have HNO : Hid ((decide (y.ws.length = 1) && wrB y.ws) = false → false = res) := zh fun h => by
     have h2 := HR.out
     rw [sn_f y, if_neg (by rw [h]; decide)] at h2
     rw [← HRI.out, ← h2, ans_none, Bool.and_false]
    clear HR
    have HC := zh (crws_any y.A y.c y.ws (zM HSY.out.1 (by decide)) w3 ((HCM.out.ws.below HB3.out).mono HB3.out.size))
    have c4 : w3.cell? ⟨w.heap.size + 1, 4, none⟩ = some (.slice y.A y.ws.length y.c) := (HG3.out.cell 4).trans rfl
    by_cases hlen : y.ws.length = 1
    ·rw [zE hlen, Bool.true_and] at HGO HNO
     rw [hlen] at c4 HC
     generalize wrB y.ws = q at *
     go_wp2_with fail
     clear c4
     refine HC.out.mono ?_
     rintro e' w4 ⟨rfl, hb⟩
     have HG4 := zh (HG3.out.below hb HG3.out.lt)
     have HX4 := zh (HX3.out.below hb HX3.out.lt)
     have HI4 : Hid (w4.heap[gi]? = some (.stringIter P (pos + 1))) := zh ((hb.block gi hgi3).trans HI3.out)
     have HB4 := zh (HB3.out.trans (hb.mono HB3.out.size))
     have hgi4 : gi < w4.heap.size := zT hgi3 hb.size
     clear hb HG3 HX3 HI3 HB3
     have f4 := HG4.out.free 4
     have k4 := (HG4.out.cell 4).trans (show (cv y)[4]? = some (.slice y.A y.ws.length y.c) from rfl)
     have hbt := But.setCell w4 (w.heap.size + 1) 4 (.slice none 0 0)
     have HG9 : Hid (RowAt (w4.setCell ⟨w.heap.size + 1, 4, none⟩ (.slice none 0 0)) (w.heap.size + 1) 30 (cv (Cm.mk y.op y.p y.n none 0 [] y.B y.d y.ps y.pp y.l y.r))) := zh (HG4.out.put 4 (.slice none 0 0))
     have HX9 : Hid (RowAt (w4.setCell ⟨w.heap.size + 1, 4, none⟩ (.slice none 0 0)) w.heap.size 30 (cv x)) := zh ((hbt.block w.heap.size (by omega) (by omega)).trans HX4.out)
     have HI9 : Hid ((w4.setCell ⟨w.heap.size + 1, 4, none⟩ (.slice none 0 0)).heap[gi]? = some (.stringIter P (pos + 1))) := zh ((hbt.block gi (by omega) (by omega)).trans HI4.out)
     have HB9 : Hid (Below w.heap.size w (w4.setCell ⟨w.heap.size + 1, 4, none⟩ (.slice none 0 0))) := zh (HB4.out.trans ((zB w.heap.size w4).setCell (p := ⟨w.heap.size + 1, 4, none⟩) (Nat.le_succ _) _))
     have hgi9 : gi < (w4.setCell ⟨w.heap.size + 1, 4, none⟩ (.slice none 0 0)).heap.size := zT hgi4 (((zB w.heap.size w4).setCell (p := ⟨w.heap.size + 1, 4, none⟩) (Nat.le_succ _) _) : Below w.heap.size w4 (w4.setCell ⟨w.heap.size + 1, 4, none⟩ (.slice none 0 0))).size
     have hmu2 : (w4.setCell ⟨w.heap.size + 1, 4, none⟩ (.slice none 0 0)).iterPos gi = pos + 1 := by simp [World.iterPos, HI9.out]
     clear hbt HC
     cases q
     ·have HE := zh (HNO.out rfl)
      clear HGO HNO hmu2 hmu
      go_wp2_with (fail)
      go_ret
      exact ⟨ret_eq (bool_eq HE.out), HB9.out⟩
     ·have HE := zh (HGO.out rfl)
      clear HGO HNO
      go_wp2_with (fail)
      (try simp only [Act.put])
      go_roundw
      case rel => exact ⟨pos + 1, (Cm.mk y.op y.p y.n none 0 [] y.B y.d y.ps y.pp y.l y.r), hp, HI9.out, HG9.out, HX9.out, HB9.out, HE.out, ⟨Sl.nil _ _ _, Nat.zero_le _, HCM.out.ps, HCM.out.pc, HCM.out.l, HCM.out.r⟩, ⟨Nat.zero_le _, HSY.out.2.1, HSY.out.2.2.1, HSY.out.2.2.2⟩, hgi9⟩
      case measure => rw [hmu, hmu2]; omega
    ·rw [zF hlen, Bool.false_and] at HNO
     have HE := zh (HNO.out rfl)
     have hl2 : ((y.ws.length : Int) == 1) = false := by rw [beq_eq_false_iff_ne]; omega
     have f4 := HG3.out.free 4
     have HB9 : Hid (Below w.heap.size w (w3.setCell ⟨w.heap.size + 1, 4, none⟩ (.slice none 0 0))) := zh (HB3.out.setCell (p := ⟨w.heap.size + 1, 4, none⟩) (Nat.le_succ _) _)
     clear HGO HNO HC
     generalize y.ws.length = nw at *
     go_wp2_with fail
     go_ret
     exact ⟨ret_eq (bool_eq HE.out), HB9.out⟩
   ·rw [hkn] at HR
    have HGO : Hid (prB y.ps = true → rstL (Cm.mk y.op y.p y.n y.A y.c y.ws none 0 [] y.pp y.l y.r) (KS.drop (pos + 1)) = R) := zh fun h => by
     have h2 := HR.out
     rw [sn_p y, if_pos h] at h2
     exact h2
    have HNO : Hid (prB y.ps = false → false = res) := zh fun h => by
     have h2 := HR.out
     rw [sn_p y, if_neg (by rw [h]; decide)] at h2
     rw [← HRI.out, ← h2, ans_none, Bool.and_false]
    clear HR
    have HC := zh (crps_any y.B y.d y.ps (zM HSY.out.2.1 (by decide)) w3 ((HCM.out.ps.below HB3.out).mono HB3.out.size))
    have c5 : w3.cell? ⟨w.heap.size + 1, 5, none⟩ = some (.slice y.B y.ps.length y.d) := (HG3.out.cell 5).trans rfl
    generalize prB y.ps = q at *
    generalize y.ps.length = nw at *
    go_wp2_with fail
    clear c5
    refine HC.out.mono ?_
    rintro e' w4 ⟨rfl, hb⟩
    have HG4 := zh (HG3.out.below hb HG3.out.lt)
    have HX4 := zh (HX3.out.below hb HX3.out.lt)
    have HI4 : Hid (w4.heap[gi]? = some (.stringIter P (pos + 1))) := zh ((hb.block gi hgi3).trans HI3.out)
    have HB4 := zh (HB3.out.trans (hb.mono HB3.out.size))
    have hgi4 : gi < w4.heap.size := zT hgi3 hb.size
    clear hb HG3 HX3 HI3 HB3
    have f5 := HG4.out.free 5
    have k5 := (HG4.out.cell 5).trans (show (cv y)[5]? = some (.slice y.B y.ps.length y.d) from rfl)
    have hbt := But.setCell w4 (w.heap.size + 1) 5 (.slice none 0 0)
    have HG9 : Hid (RowAt (w4.setCell ⟨w.heap.size + 1, 5, none⟩ (.slice none 0 0)) (w.heap.size + 1) 30 (cv (Cm.mk y.op y.p y.n y.A y.c y.ws none 0 [] y.pp y.l y.r))) := zh (HG4.out.put 5 (.slice none 0 0))
    have HX9 : Hid (RowAt (w4.setCell ⟨w.heap.size + 1, 5, none⟩ (.slice none 0 0)) w.heap.size 30 (cv x)) := zh ((hbt.block w.heap.size (by omega) (by omega)).trans HX4.out)
    have HI9 : Hid ((w4.setCell ⟨w.heap.size + 1, 5, none⟩ (.slice none 0 0)).heap[gi]? = some (.stringIter P (pos + 1))) := zh ((hbt.block gi (by omega) (by omega)).trans HI4.out)
    have HB9 : Hid (Below w.heap.size w (w4.setCell ⟨w.heap.size + 1, 5, none⟩ (.slice none 0 0))) := zh (HB4.out.trans ((zB w.heap.size w4).setCell (p := ⟨w.heap.size + 1, 5, none⟩) (Nat.le_succ _) _))
    have hgi9 : gi < (w4.setCell ⟨w.heap.size + 1, 5, none⟩ (.slice none 0 0)).heap.size := zT hgi4 (((zB w.heap.size w4).setCell (p := ⟨w.heap.size + 1, 5, none⟩) (Nat.le_succ _) _) : Below w.heap.size w4 (w4.setCell ⟨w.heap.size + 1, 5, none⟩ (.slice none 0 0))).size
    have hmu2 : (w4.setCell ⟨w.heap.size + 1, 5, none⟩ (.slice none 0 0)).iterPos gi = pos + 1 := by simp [World.iterPos, HI9.out]
    clear hbt HC
    cases q
    ·have HE := zh (HNO.out rfl)
     clear HGO HNO hmu2 hmu
     go_wp2_with (fail)
     go_ret
     exact ⟨ret_eq (bool_eq HE.out), HB9.out⟩
    ·have HE := zh (HGO.out rfl)
     clear HGO HNO
     go_wp2_with (fail)
     (try simp only [Act.put])
     go_roundw
     case rel => exact ⟨pos + 1, (Cm.mk y.op y.p y.n y.A y.c y.ws none 0 [] y.pp y.l y.r), hp, HI9.out, HG9.out, HX9.out, HB9.out, HE.out, ⟨HCM.out.ws, HCM.out.wc, Sl.nil _ _ _, Nat.zero_le _, HCM.out.l, HCM.out.r⟩, ⟨HSY.out.1, Nat.zero_le _, HSY.out.2.2.1, HSY.out.2.2.2⟩, hgi9⟩
     case measure => rw [hmu, hmu2]; omega
   ·rw [hkn] at HR
    have HGO : Hid ((fl y.l).l = true → rstL (Cm.mk y.op y.p y.n y.A y.c y.ws y.B y.d y.ps y.pp y.r n0) (KS.drop (pos + 1)) = R) := zh fun h => by
     have h2 := HR.out
     rw [sn_t y, if_pos h] at h2
     exact h2
    have HNO : Hid ((fl y.l).l = false → false = res) := zh fun h => by
     have h2 := HR.out
     rw [sn_t y, if_neg (by rw [h]; decide)] at h2
     rw [← HRI.out, ← h2, ans_none, Bool.and_false]
    clear HR
    have HC := zh (isLabel_any 4294967296 (zL _) y.l HSY.out.2.2.1 w3 ((HCM.out.l.below HB3.out).mono HB3.out.size))
    generalize (fl y.l).l = q at *
    go_wp2_with (first | (refine wpList_load_mid rfl _ _ rfl (w.heap.size + 1) 7 rfl (ncells y.l) _ (RowAt.range HG3.out 7 (ncells y.l) (by intro j u hu; match j, hu with | 0, hu => exact hu | 1, hu => exact hu | 2, hu => exact hu | 3, hu => exact hu | 4, hu => exact hu)) Tryz.underlying28 rfl (by rw [show (ncells y.l).length = 5 from rfl]; kernel_rfl) ?_))
    refine HC.out.mono ?_
    rintro e' w4 ⟨rfl, hb⟩
    have HG4 := zh (HG3.out.below hb HG3.out.lt)
    have HX4 := zh (HX3.out.below hb HX3.out.lt)
    have HI4 : Hid (w4.heap[gi]? = some (.stringIter P (pos + 1))) := zh ((hb.block gi hgi3).trans HI3.out)
    have HB4 := zh (HB3.out.trans (hb.mono HB3.out.size))
    have hgi4 : gi < w4.heap.size := zT hgi3 hb.size
    clear hb HG3 HX3 HI3 HB3
    have hr5 := RowAt.putsD HG4.out (nv y.r).toList 7
    have HG5 : Hid (RowAt (w4.setCells (w.heap.size + 1) 7 (nv y.r).toList) (w.heap.size + 1) 30 (cv (Cm.mk y.op y.p y.n y.A y.c y.ws y.B y.d y.ps y.pp y.r y.r))) := zh hr5
    have hr9 := RowAt.putsD HG5.out #[.int .i64 0, .int .i64 0, .string ⟨#[]⟩, .slice none 0 0, .slice none 0 0].toList 12
    have HG9 : Hid (RowAt ((w4.setCells (w.heap.size + 1) 7 (nv y.r).toList).setCells (w.heap.size + 1) 12 #[.int .i64 0, .int .i64 0, .string ⟨#[]⟩, .slice none 0 0, .slice none 0 0].toList) (w.heap.size + 1) 30 (cv (Cm.mk y.op y.p y.n y.A y.c y.ws y.B y.d y.ps y.pp y.r n0))) := zh (hr9)
    have HX9 : Hid (RowAt ((w4.setCells (w.heap.size + 1) 7 (nv y.r).toList).setCells (w.heap.size + 1) 12 #[.int .i64 0, .int .i64 0, .string ⟨#[]⟩, .slice none 0 0, .slice none 0 0].toList) w.heap.size 30 (cv x)) := zh (((setCells_other _ _ _ _ w.heap.size (by omega)).trans (setCells_other _ _ _ _ w.heap.size (by omega))).trans HX4.out)
    have HI9 : Hid (((w4.setCells (w.heap.size + 1) 7 (nv y.r).toList).setCells (w.heap.size + 1) 12 #[.int .i64 0, .int .i64 0, .string ⟨#[]⟩, .slice none 0 0, .slice none 0 0].toList).heap[gi]? = some (.stringIter P (pos + 1))) := zh (((setCells_other _ _ _ _ gi (by omega)).trans (setCells_other _ _ _ _ gi (by omega))).trans HI4.out)
    have HB9 : Hid (Below w.heap.size w ((w4.setCells (w.heap.size + 1) 7 (nv y.r).toList).setCells (w.heap.size + 1) 12 #[.int .i64 0, .int .i64 0, .string ⟨#[]⟩, .slice none 0 0, .slice none 0 0].toList)) := zh (HB4.out.trans ((setCells_below (Nat.le_succ _) 7 _).trans (setCells_below (Nat.le_succ _) 12 _)))
    have hgi9 : gi < ((w4.setCells (w.heap.size + 1) 7 (nv y.r).toList).setCells (w.heap.size + 1) 12 #[.int .i64 0, .int .i64 0, .string ⟨#[]⟩, .slice none 0 0, .slice none 0 0].toList).heap.size := zT hgi4 (((setCells_below (Nat.le_succ _) 7 _).trans (setCells_below (Nat.le_succ _) 12 _)) : Below w.heap.size w4 ((w4.setCells (w.heap.size + 1) 7 (nv y.r).toList).setCells (w.heap.size + 1) 12 #[.int .i64 0, .int .i64 0, .string ⟨#[]⟩, .slice none 0 0, .slice none 0 0].toList)).size
    have hmu2 : ((w4.setCells (w.heap.size + 1) 7 (nv y.r).toList).setCells (w.heap.size + 1) 12 #[.int .i64 0, .int .i64 0, .string ⟨#[]⟩, .slice none 0 0, .slice none 0 0].toList).iterPos gi = pos + 1 := by simp [World.iterPos, HI9.out]
    clear hr5 hr9 HC
    cases q
    ·have HE := zh (HNO.out rfl)
     clear HGO HNO hmu2 hmu
     have FLD : True := trivial
     have FS7 : True := trivial
     go_wp2_with (first | (have hq9 := FLD; clear hq9 FLD; refine wpList_load_mid rfl _ _ rfl (w.heap.size + 1) 12 rfl (ncells y.r) _ (RowAt.range HG4.out 12 (ncells y.r) (by intro j u hu; match j, hu with | 0, hu => exact hu | 1, hu => exact hu | 2, hu => exact hu | 3, hu => exact hu | 4, hu => exact hu)) Tryz.underlying28 rfl (by rw [show (ncells y.r).length = 5 from rfl]; kernel_rfl) ?_) | (have hq9 := FS7; clear hq9 FS7; refine wpList_store_mid rfl _ _ _ rfl (w.heap.size + 1) 7 (nv y.r) rfl rfl (RowAt.thereD HG4.out (by show 7 + 5 ≤ 17; omega)) (node_info _ _ _ _ _) (by simp [nv, Value.oneCell']) ?_; have FS12 : True := trivial) | (have hq9 := FS12; clear hq9 FS12; refine wpList_store_mid rfl _ _ _ rfl (w.heap.size + 1) 12 #[.int .i64 0, .int .i64 0, .string ⟨#[]⟩, .slice none 0 0, .slice none 0 0] rfl rfl (RowAt.thereD HG5.out (by show 12 + 5 ≤ 17; omega)) (node_info _ _ _ _ _) (by simp [Value.oneCell']) ?_))
     go_ret
     exact ⟨ret_eq (bool_eq HE.out), HB9.out⟩
    ·have HE := zh (HGO.out rfl)
     clear HGO HNO
     have FLD : True := trivial
     have FS7 : True := trivial
     go_wp2_with (first | (have hq9 := FLD; clear hq9 FLD; refine wpList_load_mid rfl _ _ rfl (w.heap.size + 1) 12 rfl (ncells y.r) _ (RowAt.range HG4.out 12 (ncells y.r) (by intro j u hu; match j, hu with | 0, hu => exact hu | 1, hu => exact hu | 2, hu => exact hu | 3, hu => exact hu | 4, hu => exact hu)) Tryz.underlying28 rfl (by rw [show (ncells y.r).length = 5 from rfl]; kernel_rfl) ?_) | (have hq9 := FS7; clear hq9 FS7; refine wpList_store_mid rfl _ _ _ rfl (w.heap.size + 1) 7 (nv y.r) rfl rfl (RowAt.thereD HG4.out (by show 7 + 5 ≤ 17; omega)) (node_info _ _ _ _ _) (by simp [nv, Value.oneCell']) ?_; have FS12 : True := trivial) | (have hq9 := FS12; clear hq9 FS12; refine wpList_store_mid rfl _ _ _ rfl (w.heap.size + 1) 12 #[.int .i64 0, .int .i64 0, .string ⟨#[]⟩, .slice none 0 0, .slice none 0 0] rfl rfl (RowAt.thereD HG5.out (by show 12 + 5 ≤ 17; omega)) (node_info _ _ _ _ _) (by simp [Value.oneCell']) ?_))
     (try simp only [Act.put])
     go_roundw
     case rel => exact ⟨pos + 1, (Cm.mk y.op y.p y.n y.A y.c y.ws y.B y.d y.ps y.pp y.r n0), hp, HI9.out, HG9.out, HX9.out, HB9.out, HE.out, ⟨HCM.out.ws, HCM.out.wc, HCM.out.ps, HCM.out.pc, HCM.out.r, nods_n0 _⟩, ⟨HSY.out.1, HSY.out.2.1, HSY.out.2.2.2, cnt_n0L⟩, hgi9⟩
     case measure => rw [hmu, hmu2]; omega
   ·rw [hkn] at HR
    have HGO : Hid ((fl y.l).r = true → rstL (Cm.mk y.op y.p y.n y.A y.c y.ws y.B y.d y.ps y.pp y.r n0) (KS.drop (pos + 1)) = R) := zh fun h => by
     have h2 := HR.out
     rw [sn_r y, if_pos h] at h2
     exact h2
    have HNO : Hid ((fl y.l).r = false → false = res) := zh fun h => by
     have h2 := HR.out
     rw [sn_r y, if_neg (by rw [h]; decide)] at h2
     rw [← HRI.out, ← h2, ans_none, Bool.and_false]
    clear HR
    have HC := zh (isRow_any y.l HSY.out.2.2.1 w3 ((HCM.out.l.below HB3.out).mono HB3.out.size))
    generalize (fl y.l).r = q at *
    go_wp2_with (first | (refine wpList_load_mid rfl _ _ rfl (w.heap.size + 1) 7 rfl (ncells y.l) _ (RowAt.range HG3.out 7 (ncells y.l) (by intro j u hu; match j, hu with | 0, hu => exact hu | 1, hu => exact hu | 2, hu => exact hu | 3, hu => exact hu | 4, hu => exact hu)) Tryz.underlying28 rfl (by rw [show (ncells y.l).length = 5 from rfl]; kernel_rfl) ?_))
    refine HC.out.mono ?_
    rintro e' w4 ⟨rfl, hb⟩
    have HG4 := zh (HG3.out.below hb HG3.out.lt)
    have HX4 := zh (HX3.out.below hb HX3.out.lt)
    have HI4 : Hid (w4.heap[gi]? = some (.stringIter P (pos + 1))) := zh ((hb.block gi hgi3).trans HI3.out)
    have HB4 := zh (HB3.out.trans (hb.mono HB3.out.size))
    have hgi4 : gi < w4.heap.size := zT hgi3 hb.size
    clear hb HG3 HX3 HI3 HB3
    have hr5 := RowAt.putsD HG4.out (nv y.r).toList 7
    have HG5 : Hid (RowAt (w4.setCells (w.heap.size + 1) 7 (nv y.r).toList) (w.heap.size + 1) 30 (cv (Cm.mk y.op y.p y.n y.A y.c y.ws y.B y.d y.ps y.pp y.r y.r))) := zh hr5
    have hr9 := RowAt.putsD HG5.out #[.int .i64 0, .int .i64 0, .string ⟨#[]⟩, .slice none 0 0, .slice none 0 0].toList 12
    have HG9 : Hid (RowAt ((w4.setCells (w.heap.size + 1) 7 (nv y.r).toList).setCells (w.heap.size + 1) 12 #[.int .i64 0, .int .i64 0, .string ⟨#[]⟩, .slice none 0 0, .slice none 0 0].toList) (w.heap.size + 1) 30 (cv (Cm.mk y.op y.p y.n y.A y.c y.ws y.B y.d y.ps y.pp y.r n0))) := zh (hr9)
    have HX9 : Hid (RowAt ((w4.setCells (w.heap.size + 1) 7 (nv y.r).toList).setCells (w.heap.size + 1) 12 #[.int .i64 0, .int .i64 0, .string ⟨#[]⟩, .slice none 0 0, .slice none 0 0].toList) w.heap.size 30 (cv x)) := zh (((setCells_other _ _ _ _ w.heap.size (by omega)).trans (setCells_other _ _ _ _ w.heap.size (by omega))).trans HX4.out)
    have HI9 : Hid (((w4.setCells (w.heap.size + 1) 7 (nv y.r).toList).setCells (w.heap.size + 1) 12 #[.int .i64 0, .int .i64 0, .string ⟨#[]⟩, .slice none 0 0, .slice none 0 0].toList).heap[gi]? = some (.stringIter P (pos + 1))) := zh (((setCells_other _ _ _ _ gi (by omega)).trans (setCells_other _ _ _ _ gi (by omega))).trans HI4.out)
    have HB9 : Hid (Below w.heap.size w ((w4.setCells (w.heap.size + 1) 7 (nv y.r).toList).setCells (w.heap.size + 1) 12 #[.int .i64 0, .int .i64 0, .string ⟨#[]⟩, .slice none 0 0, .slice none 0 0].toList)) := zh (HB4.out.trans ((setCells_below (Nat.le_succ _) 7 _).trans (setCells_below (Nat.le_succ _) 12 _)))
    have hgi9 : gi < ((w4.setCells (w.heap.size + 1) 7 (nv y.r).toList).setCells (w.heap.size + 1) 12 #[.int .i64 0, .int .i64 0, .string ⟨#[]⟩, .slice none 0 0, .slice none 0 0].toList).heap.size := zT hgi4 (((setCells_below (Nat.le_succ _) 7 _).trans (setCells_below (Nat.le_succ _) 12 _)) : Below w.heap.size w4 ((w4.setCells (w.heap.size + 1) 7 (nv y.r).toList).setCells (w.heap.size + 1) 12 #[.int .i64 0, .int .i64 0, .string ⟨#[]⟩, .slice none 0 0, .slice none 0 0].toList)).size
    have hmu2 : ((w4.setCells (w.heap.size + 1) 7 (nv y.r).toList).setCells (w.heap.size + 1) 12 #[.int .i64 0, .int .i64 0, .string ⟨#[]⟩, .slice none 0 0, .slice none 0 0].toList).iterPos gi = pos + 1 := by simp [World.iterPos, HI9.out]
    clear hr5 hr9 HC
    cases q
    ·have HE := zh (HNO.out rfl)
     clear HGO HNO hmu2 hmu
     have FLD : True := trivial
     have FS7 : True := trivial
     go_wp2_with (first | (have hq9 := FLD; clear hq9 FLD; refine wpList_load_mid rfl _ _ rfl (w.heap.size + 1) 12 rfl (ncells y.r) _ (RowAt.range HG4.out 12 (ncells y.r) (by intro j u hu; match j, hu with | 0, hu => exact hu | 1, hu => exact hu | 2, hu => exact hu | 3, hu => exact hu | 4, hu => exact hu)) Tryz.underlying28 rfl (by rw [show (ncells y.r).length = 5 from rfl]; kernel_rfl) ?_) | (have hq9 := FS7; clear hq9 FS7; refine wpList_store_mid rfl _ _ _ rfl (w.heap.size + 1) 7 (nv y.r) rfl rfl (RowAt.thereD HG4.out (by show 7 + 5 ≤ 17; omega)) (node_info _ _ _ _ _) (by simp [nv, Value.oneCell']) ?_; have FS12 : True := trivial) | (have hq9 := FS12; clear hq9 FS12; refine wpList_store_mid rfl _ _ _ rfl (w.heap.size + 1) 12 #[.int .i64 0, .int .i64 0, .string ⟨#[]⟩, .slice none 0 0, .slice none 0 0] rfl rfl (RowAt.thereD HG5.out (by show 12 + 5 ≤ 17; omega)) (node_info _ _ _ _ _) (by simp [Value.oneCell']) ?_))
     go_ret
     exact ⟨ret_eq (bool_eq HE.out), HB9.out⟩
    ·have HE := zh (HGO.out rfl)
     clear HGO HNO
     have FLD : True := trivial
     have FS7 : True := trivial
     go_wp2_with (first | (have hq9 := FLD; clear hq9 FLD; refine wpList_load_mid rfl _ _ rfl (w.heap.size + 1) 12 rfl (ncells y.r) _ (RowAt.range HG4.out 12 (ncells y.r) (by intro j u hu; match j, hu with | 0, hu => exact hu | 1, hu => exact hu | 2, hu => exact hu | 3, hu => exact hu | 4, hu => exact hu)) Tryz.underlying28 rfl (by rw [show (ncells y.r).length = 5 from rfl]; kernel_rfl) ?_) | (have hq9 := FS7; clear hq9 FS7; refine wpList_store_mid rfl _ _ _ rfl (w.heap.size + 1) 7 (nv y.r) rfl rfl (RowAt.thereD HG4.out (by show 7 + 5 ≤ 17; omega)) (node_info _ _ _ _ _) (by simp [nv, Value.oneCell']) ?_; have FS12 : True := trivial) | (have hq9 := FS12; clear hq9 FS12; refine wpList_store_mid rfl _ _ _ rfl (w.heap.size + 1) 12 #[.int .i64 0, .int .i64 0, .string ⟨#[]⟩, .slice none 0 0, .slice none 0 0] rfl rfl (RowAt.thereD HG5.out (by show 12 + 5 ≤ 17; omega)) (node_info _ _ _ _ _) (by simp [Value.oneCell']) ?_))
     (try simp only [Act.put])
     go_roundw
     case rel => exact ⟨pos + 1, (Cm.mk y.op y.p y.n y.A y.c y.ws y.B y.d y.ps y.pp y.r n0), hp, HI9.out, HG9.out, HX9.out, HB9.out, HE.out, ⟨HCM.out.ws, HCM.out.wc, HCM.out.ps, HCM.out.pc, HCM.out.r, nods_n0 _⟩, ⟨HSY.out.1, HSY.out.2.1, HSY.out.2.2.2, cnt_n0L⟩, hgi9⟩
     case measure => rw [hmu, hmu2]; omega
  ·have hnext : ∀ ty, (Instr.next (.pointer (some ⟨gi, 0, none⟩)) true ty).run Tryz.prog wr = _ := fun ty => Lib.run_next_end_at wr gi P pos ty HIT.out hp
   have hdr : KS.drop pos = [] := List.drop_eq_nil_of_le (by rw [HLZ.out]; omega)
   have hRy : R = some y := by
        have h := HR.out
        rw [hdr] at h
        exact h.symm
   have HRS : Hid ((decide (x.op = 0 ∨ wrd x.op ≠ ⟨#[]⟩) && smC y (zer x.op)) = res) := zh (by
        have h := HRI.out
        rw [hRy] at h
        exact h)
   have HS : Hid (∀ W, Below w.heap.size w W → Calls Tryz.prog 10 #[.agg (cv y), .agg #[.int .i64 x.op, .int .i64 0, .string ⟨#[]⟩, .int .i64 0, .slice none 0 0, .slice none 0 0, .int .i64 0, .int .i64 0, .int .i64 0, .string ⟨#[]⟩, .slice none 0 0, .slice none 0 0, .int .i64 0, .int .i64 0, .string ⟨#[]⟩, .slice none 0 0, .slice none 0 0]] W fun e w' => e = .returned (.bool (smC y (zer x.op))) ∧ Below W.heap.size W w') := zh fun W h =>
        csame_any y (zer x.op) W ((HCM.out.below h).mono h.size) ⟨Sl.nil _ _ _, Nat.zero_le _, Sl.nil _ _ _, Nat.zero_le _, nods_n0 W, nods_n0 W⟩ HSY.out
   have xc0 : wr.cell? ⟨w.heap.size, 0, none⟩ = some (.int .i64 x.op) := (HX.out.cell 0).trans rfl
   have HWD := zh (word_cmd x.op wr (HTW.out.low HB.out))
   clear HR HRI hdr hRy
   generalize smC y (zer x.op) = q at *
   by_cases h0 : x.op = 0
   ·have HE : Hid (q = res) := zh (by
     have h := HRS.out
     rw [zE (.inl h0), Bool.true_and] at h
     exact h)
    have h1 : (x.op == 0) = true := by rw [h0]; rfl
    rw [h0] at HS
    clear HRS HWD
    go_wp2_with (first | (refine wpList_load_rowW (by rfl) _ _ rfl (w.heap.size + 1) rfl _ (cv y) _ HG.out Tryz.underlying30 rfl (cmd_info y) ?_))
    refine (HS.out _ HB.out).mono ?_
    rintro e' w2 ⟨rfl, hb⟩
    have HB9 := zh (HB.out.trans (hb.mono HB.out.size))
    clear hb
    go_wp2_with fail
    go_ret
    exact ⟨ret_eq (bool_eq HE.out), HB9.out⟩
   ·have h1 : (x.op == 0) = false := by rw [beq_eq_false_iff_ne]; exact h0
    by_cases hw : wrd x.op = ⟨#[]⟩
    ·have HE : Hid (false = res) := zh (by
      have h := HRS.out
      rw [zF (fun h2 => h2.elim h0 fun h3 => h3 hw), Bool.false_and] at h
      exact h)
     rw [hw] at HWD
     clear HRS hw
     go_wp2_with fail
     refine HWD.out.mono ?_
     rintro e' w' ⟨rfl, hww⟩
     have hww := hww.symm
     subst hww
     go_wp2_with fail
     go_ret
     exact ⟨ret_eq (bool_eq HE.out), HB.out⟩
    ·have HE : Hid (q = res) := zh (by
      have h := HRS.out
      rw [zE (.inr hw), Bool.true_and] at h
      exact h)
     have qs := NM.str_eq (wrd x.op) ⟨#[]⟩
     rw [zF hw] at qs
     clear HRS hw
     generalize wrd x.op = ws at *
     have e2 : ¬ ws.toList = [] := by
      intro h
      rw [h] at qs
      first | exact absurd qs (by decide) | simp at qs
     clear qs
     go_wp2_with fail
     refine HWD.out.mono ?_
     rintro e' w' ⟨rfl, hww⟩
     have hww := hww.symm
     subst hww
     go_wp2_with (first | (refine wpList_load_rowW (by first | rfl | (simp only [Region.wanted, yielded]; simp [e2])) _ _ rfl (w.heap.size + 1) rfl _ (cv y) _ HG.out Tryz.underlying30 rfl (cmd_info y) ?_))
     refine (HS.out _ HB.out).mono ?_
     rintro e' w2 ⟨rfl, hb⟩
     have HB9 := zh (HB.out.trans (hb.mono HB.out.size))
     clear hb
     go_wp2_with fail
     go_ret
     exact ⟨ret_eq (bool_eq (by have h := HE.out; simp [e2, h])), HB9.out⟩
end
section
open Go.RowKit LX TR TM CM
namespace CM
end CM
theorem cHidC {P : Program} {F : FuncId} {a : Array Value} {w : World} {Q : Ending → World → Prop} (h : ∀ Q' : Ending → World → Prop, (∀ e w, Q e w → Q' e w) → Calls P F a w Q') : Calls P F a w Q := h Q fun _ _ h => h
end
section
open Go.RowKit LX TR TM CM
theorem big12_some' (x : Cm) (w : World) (hx : CmIn w w.heap.size x) (hl : cnt [x.l] ≤ 4294967296) (hr : cnt [x.r] ≤ 4294967296) :
 Calls Tryz.prog 6 #[.agg (cv x)] w fun e w' => ∃ b : Bool, e = .returned (.bool b) ∧ Below w.heap.size w w' := by
 have r0 := RowAt.new w 30 (cv x)
 have hb : Below w.heap.size w (w.alloc (.cells (cv x) 30)) := (zB _ _).alloc (zL _) _
 have HBIG : Hid (∀ A c W, Below w.heap.size w W → Sl W W.heap.size A (ncs [x.l, x.r]) → Calls Tryz.prog 19 #[.slice A 2 c] W fun e w' => ∃ b : Bool, e = .returned (.bool b) ∧ Below W.heap.size W w') := zh fun A c W h hs => by
  have h1 := big10_any A c [x.l, x.r] (by simp) (fun z hz => by
   rcases List.mem_cons.1 hz with rfl | hz
   ·exact hl
   ·obtain rfl := List.mem_singleton.1 hz
    exact hr) W hs (fun z hz => by
   rcases List.mem_cons.1 hz with rfl | hz
   ·exact (hx.l.below h).mono h.size
   ·obtain rfl := List.mem_singleton.1 hz
    exact (hx.r.below h).mono h.size)
  exact h1.mono fun e w' ⟨h2, h3⟩ => ⟨_, h2, h3⟩
 clear hx hl hr
 refine cHidC fun Q' hQ => ?_
 have HQ := zh hQ; clear hQ
 go_enter Tryz.func6, Tryz.ntmps6
 go_upto_region 1 with fail
 change Code.wp _ _ _ _ (w.alloc (.cells (cv x) 30))
 generalize w.alloc (.cells (cv x) 30) = w1 at *
 have HB1 := zh hb
 have HR1 := zh r0
 clear hb r0
 have c4 : w1.cell? ⟨w.heap.size, 4, none⟩ = some (.slice x.A x.ws.length x.c) := (HR1.out.cell 4).trans rfl
 have c5 : w1.cell? ⟨w.heap.size, 5, none⟩ = some (.slice x.B x.ps.length x.d) := (HR1.out.cell 5).trans rfl
 have c2 : w1.cell? ⟨w.heap.size, 2, none⟩ = some (.string x.n.s) := (HR1.out.cell 2).trans rfl
 generalize x.ws.length = nw at *
 generalize x.ps.length = np at *
 by_cases h1 : 100 < nw
 ·go_wp2_with fail
  exact HQ.out _ _ ⟨true, rfl, HB1.out⟩
 ·by_cases h2 : 100 < np
  ·go_wp2_with fail
   exact HQ.out _ _ ⟨true, rfl, HB1.out⟩
  ·by_cases h3 : 100 < x.n.s.size
   ·go_wp2_with fail
    exact HQ.out _ _ ⟨true, rfl, HB1.out⟩
   ·go_upto_region 3 with fail
    clear c4 c5 c2 h1 h2 h3
    go_wp2_with (first
     | (refine wpList_load_mid rfl _ _ rfl w.heap.size 7 rfl (ncells x.l) _ (RowAt.range HR1.out 7 (ncells x.l) (by intro j u hu; match j, hu with | 0, hu => exact hu | 1, hu => exact hu | 2, hu => exact hu | 3, hu => exact hu | 4, hu => exact hu)) Tryz.underlying28 rfl (by rw [show (ncells x.l).length = 5 from rfl]; kernel_rfl) ?_)
     | (refine wpList_load_mid rfl _ _ rfl w.heap.size 12 rfl (ncells x.r) _ (RowAt.range HR1.out 12 (ncells x.r) (by intro j u hu; match j, hu with | 0, hu => exact hu | 1, hu => exact hu | 2, hu => exact hu | 3, hu => exact hu | 4, hu => exact hu)) Tryz.underlying28 rfl (by rw [show (ncells x.r).length = 5 from rfl]; kernel_rfl) ?_)
     | (refine wpList_nodes2 (by rfl) _ _ rfl x.l x.r rfl rfl ?_; intro w2 hsl hb2; have HB2 := zh (HB1.out.trans (hb2.mono HB1.out.size)); have HG2 := zh (HBIG.out _ 2 w2 HB2.out hsl); clear hsl hb2)
     | (go_at_call 19; refine HG2.out.mono ?_; rintro e w3 ⟨b, rfl, hb3⟩; have HB3 := zh (HB2.out.trans (hb3.mono HB2.out.size)); clear hb3))
    exact HQ.out _ _ ⟨b, rfl, HB3.out⟩
namespace CM
end CM
namespace CM
end CM
end
end Go.Proofs.YtmffnkfohmbbeaaGreatDoor
