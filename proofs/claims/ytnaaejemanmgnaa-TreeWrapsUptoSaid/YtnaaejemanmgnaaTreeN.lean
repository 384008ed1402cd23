/-
  The chapter's example. Conditions: none.
-/
import Derived.Test.YtnaaejemanmgnaaTreeI
import Derived.Test.YtnaaejemanmgnaaTreeK
import Derived.Test.YtnaaejemanmgnaaTreeM
namespace Go.Proofs.Ytnaaejemanmgnaa
open Go.RowKit LX TR

def ex9 : ByteArray := ⟨#[97, 32, 123, 32, 98, 32, 40, 32, 41, 32, 125]⟩
def ex9Toks : List Tk := [⟨97, ⟨#[97]⟩, 0⟩, ⟨123, ⟨#[123]⟩, 2⟩, ⟨97, ⟨#[98]⟩, 4⟩, ⟨40, ⟨#[40]⟩, 6⟩, ⟨41, ⟨#[41]⟩, 8⟩, ⟨125, ⟨#[125]⟩, 10⟩]
def ex9Trees : List Tr := [.mk ⟨97, ⟨#[97]⟩, 0⟩ none 0 [] 0, .mk ⟨123, ⟨#[123]⟩, 2⟩ none 0 [.mk ⟨97, ⟨#[98]⟩, 4⟩ none 0 [] 4, .mk ⟨40, ⟨#[40]⟩, 6⟩ none 0 [] 8] 10]
def ex9Bad : List Tk := [⟨40, ⟨#[40]⟩, 0⟩, ⟨93, ⟨#[93]⟩, 2⟩]
theorem ex9_scan : scan ex9 0 [] = .ok ex9Toks := by kernel_rfl
theorem ex9_scan2 : scan ⟨#[40, 32, 93]⟩ 0 [] = .ok ex9Bad := by kernel_rfl
theorem ex9_parse : parse ex9Toks = .ok ex9Trees := by rfl
theorem ex9_parse2 : parse ex9Bad = .error 2 := by rfl
theorem ex9_dep : dep ex9Trees = 2 := by simp [ex9Trees, dep, cl]
theorem rd8_ok {s : ByteArray} {B : Nat} {R : List Tk} {e : Ending} {w w' : World} (hs : scan s 0 [] = .ok R) (h : Rd B (scan s 0 []) e w w') :
    Below B w w' ∧ ∃ A c, e = .returned (.tuple #[.slice A R.length c, .agg #[.int .i64 0, .int .i64 0]]) ∧ w'.ownsRow B 36 3 (.slice A R.length c) R.length (tkcells R) := by
  rw [hs] at h; exact h
theorem rt_ok {l : List Tk} {B : Nat} {ts : List Tr} {e : Ending} {w w' : World} (hs : parse l = .ok ts) (h : Rt B (parse l) e w w') :
    Below B w w' ∧ ∃ X d us, e = .returned (.tuple #[.slice X us.length d, .agg #[.int .i64 0, .int .i64 0]]) ∧ er us = ts ∧ us.length ≤ d ∧ Trs w' w'.heap.size X us := by
  rw [hs] at h; exact h
theorem rt_err {l : List Tk} {B : Nat} {p : Int} {e : Ending} {w w' : World} (hs : parse l = .error p) (h : Rt B (parse l) e w w') :
    Below B w w' ∧ e = .returned (.tuple #[.slice none 0 0, .agg #[.int .i64 2, .int .i64 p]]) := by
  rw [hs] at h; exact h
theorem er_getD {l : List Tr} {i : Nat} (hi : i < l.length) : (er l).getD i r0 = er1 (l.getD i r0) := by
  induction l generalizing i with
  | nil => simp at hi
  | cons x l ih =>
    cases x
    cases i with
    | zero => simp [er, er1, Tr.t, Tr.ks, Tr.e]
    | succ i => simp only [er, List.getD_cons_succ]; exact ih (by simpa using hi)
set_option maxHeartbeats 800000 in
theorem pieces_any (s : ByteArray) (R : List Tk) (w : World) (hl : s.size ≤ 3000) (hs : scan s 0 [] = .ok R) :
    Calls Try.prog 20 #[.string s] w fun e w' => Below w.heap.size w w' ∧ ∃ A c, e = .returned (.slice A R.length c) ∧ Toks w' A R := by
  have HR := Lib.hid (fun W => (refRead8_any s W (by omega)).mono fun e w' h => rd8_ok hs h)
  clear hs hl
  generalize hn : R.length = n at *
  go_enter Try.func20, Try.ntmps20
  go_wp2_with fail
  refine (HR.out _).mono ?_
  rintro e w1 ⟨hb1, A, c, rfl, hown⟩
  have HT : Hid (Toks w1 A R) := Sl.of_own hown
  have HB1 := Lib.hid hb1
  have HT2 := Lib.hid (HT.out.alloc (.cells #[.int .i64 0, .int .i64 0] 27))
  have HB2 := Lib.hid (HB1.out.alloc HB1.out.size (.cells #[.int .i64 0, .int .i64 0] 27))
  clear hb1 hown
  go_wp2
  go_ret
  exact ⟨HB2.out, A, c, rfl, HT2.out⟩
set_option maxHeartbeats 1600000 in
theorem alive9_any (w : World) :
    Calls Try.prog 8 #[] w fun e w' => e = .returned (.bool true) ∧ Below w.heap.size w w' := by
  have HP1 := Lib.hid (fun W => pieces_any ex9 ex9Toks W (by decide) ex9_scan)
  have HP2 := Lib.hid (fun W => pieces_any ⟨#[40, 32, 93]⟩ ex9Bad W (by decide) ex9_scan2)
  have HR1 := Lib.hid (fun A c W (h : Toks W A ex9Toks) => (treeRead_any A c ex9Toks W (by decide) h).mono fun e w' h => rt_ok ex9_parse h)
  have HR2 := Lib.hid (fun A c W (h : Toks W A ex9Bad) => (treeRead_any A c ex9Bad W (by decide) h).mono fun e w' h => rt_err ex9_parse2 h)
  unfold ex9 at HP1
  go_enter Try.func8, Try.ntmps8
  go_wp2_with fail
  refine (HP1.out _).mono ?_
  rintro e w1 ⟨hb1, A, c, rfl, hT1⟩
  have HB1 := Lib.hid hb1
  have HT1 := Lib.hid hT1
  clear hb1 hT1
  go_wp2_with fail
  refine (HR1.out A c _ HT1.out).mono ?_
  rintro e w2 ⟨hb2, X, d, us, rfl, hus, hcap, htr⟩
  have HB2 := Lib.hid (HB1.out.trans (hb2.mono HB1.out.size))
  have hl2 : us.length = 2 := by rw [← er_length, hus]; rfl
  have hg1 : er1 (us.getD 1 r0) = .mk ⟨123, ⟨#[123]⟩, 2⟩ none 0 [.mk ⟨97, ⟨#[98]⟩, 4⟩ none 0 [] 4, .mk ⟨40, ⟨#[40]⟩, 6⟩ none 0 [] 8] 10 := by
    rw [← er_getD (by omega), hus]; rfl
  have hk2 : (us.getD 1 r0).ks.length = 2 := by
    have h := congrArg (fun x : Tr => x.ks.length) hg1
    have h2 : (er (us.getD 1 r0).ks).length = 2 := h
    rw [er_length] at h2
    exact h2
  have he2 : (us.getD 1 r0).e = 10 := congrArg Tr.e hg1
  have hd2 : dep us = 2 := by rw [← dep_er, hus]; exact ex9_dep
  have hnn : (nodes us).length ≤ 536870912 := by rw [← nodes_er, hus]; simp [ex9Trees, nodes]
  have HTR := Lib.hid (Trs.mono (htr.below ((Below.refl _ _).alloc (Nat.le_refl _) (.cells #[.int .i64 0, .int .i64 0] 27))) (show w2.heap.size ≤ (w2.alloc (.cells #[.int .i64 0, .int .i64 0] 27)).heap.size by simp))
  have HF1 := Lib.hid (RowAt.new w2 27 #[.int .i64 0, .int .i64 0])
  have HBA := Lib.hid (HB2.out.alloc HB2.out.size (.cells #[.int .i64 0, .int .i64 0] 27))
  have HCP := Lib.hid hcap
  have HK2 := Lib.hid hk2
  have HE2 := Lib.hid he2
  have HD2 := Lib.hid hd2
  have HNN := Lib.hid hnn
  have HL2 := Lib.hid hl2
  clear hb2 hus hcap htr hg1 hk2 he2 hd2 hnn hl2
  rw [HL2.out]
  go_wp2_with fail
  refine (HP2.out _).mono ?_
  rintro e w3 ⟨hb3, A2, c2, rfl, hT3⟩
  have HF3 := Lib.hid (HF1.out.below hb3 HF1.out.lt)
  have HTR3 := Lib.hid ((HTR.out.below hb3).mono hb3.size)
  have HB3 := Lib.hid (HBA.out.trans (hb3.mono HBA.out.size))
  have HT3 := Lib.hid hT3
  clear hb3 hT3
  go_wp2_with fail
  refine (HR2.out A2 c2 _ HT3.out).mono ?_
  rintro e w4 ⟨hb4, rfl⟩
  have HF4 := Lib.hid ((HF3.out.below hb4 HF3.out.lt).alloc (.cells #[.int .i64 2, .int .i64 2] 27))
  have HG4 := Lib.hid (RowAt.new w4 27 #[.int .i64 2, .int .i64 2])
  have hba : Below w4.heap.size w4 (w4.alloc (.cells #[.int .i64 2, .int .i64 2] 27)) := (Below.refl _ _).alloc (Nat.le_refl _) _
  have HTR4 := Lib.hid (Trs.mono (((HTR3.out.below hb4).mono hb4.size).below hba) hba.size)
  have HB4 := Lib.hid ((HB3.out.trans (hb4.mono HB3.out.size)).alloc (by have := HB3.out.size; have := hb4.size; omega) (.cells #[.int .i64 2, .int .i64 2] 27))
  clear hb4 hba
  have a0 := (HF4.out.cell 0).trans rfl
  have a1 := (HF4.out.cell 1).trans rfl
  obtain ⟨b, o, rfl, _, hc⟩ := HTR4.out.at (k := 1) (by rw [HL2.out]; decide)
  obtain ⟨_, _, _, h3, h4⟩ := hc 1 (by rw [HL2.out]; decide)
  rw [HK2.out, Nat.one_mul] at h3
  rw [HE2.out, Nat.one_mul] at h4
  have h3' : (w4.alloc (.cells #[.int .i64 2, .int .i64 2] 27)).cell? ⟨b, o + 8, none⟩ = some (.slice (us.getD 1 r0).A 2 (us.getD 1 r0).c) := h3
  have h4' : (w4.alloc (.cells #[.int .i64 2, .int .i64 2] 27)).cell? ⟨b, o + 9, none⟩ = some (.int .i64 10) := h4
  have HDC := depth9_any (some ⟨b, o, none⟩) d us _ HNN.out HTR4.out HCP.out
  rw [HL2.out, HD2.out] at HDC
  have HDC2 := Lib.hid HDC
  clear hc HDC
  generalize (us.getD 1 r0).A = A9 at *
  generalize (us.getD 1 r0).c = c9 at *
  go_wp2_with fail
  refine HDC2.out.mono ?_
  rintro e w5 ⟨rfl, hb5⟩
  have b0 := ((HG4.out.below hb5 HG4.out.lt).cell 0).trans rfl
  have b1 := ((HG4.out.below hb5 HG4.out.lt).cell 1).trans rfl
  have HB5 := Lib.hid (HB4.out.trans (hb5.mono HB4.out.size))
  clear hb5
  go_wp2
  go_ret
  exact ⟨rfl, HB5.out⟩
end Go.Proofs.Ytnaaejemanmgnaa
