/-
  The chapter's example. Conditions: none.
-/
import Derived.Test.YtfhmdambdkmmgaaLexH
namespace Go.Proofs.Ytfhmdambdkmmgaa
open Go.RowKit LX

def exLine : ByteArray := ⟨#[108, 101, 113, 32, 107, 32, 120, 32, 35, 104, 105, 32, 45, 45, 32, 119, 104, 121]⟩
def exToks : List Tk := [⟨97, ⟨#[108, 101, 113]⟩, 0⟩, ⟨97, ⟨#[107]⟩, 4⟩, ⟨97, ⟨#[120]⟩, 6⟩, ⟨35, ⟨#[35]⟩, 8⟩, ⟨97, ⟨#[104, 105]⟩, 9⟩]
theorem ex_scan : scan exLine 0 [] = .ok exToks := by kernel_rfl
theorem ex_bad : scan ⟨#[97, 45, 98]⟩ 0 [] = .error 1 := by kernel_rfl
theorem ex_text : text exToks = ⟨#[108, 101, 113, 32, 107, 32, 120, 35, 104, 105]⟩ := by kernel_rfl
theorem rd_ok {s : ByteArray} {B : Nat} {R : List Tk} {e : Ending} {w w' : World} (hs : scan s 0 [] = .ok R) (h : Rd B (scan s 0 []) e w w') :
    Below B w w' ∧ ∃ A c, e = .returned (.tuple #[.slice A R.length c, .agg #[.int .i64 0, .int .i64 0]]) ∧ w'.ownsRow B 33 3 (.slice A R.length c) R.length (tkcells R) := by
  rw [hs] at h; exact h
theorem rd_err {s : ByteArray} {B f : Nat} {e : Ending} {w w' : World} (hs : scan s 0 [] = .error f) (h : Rd B (scan s 0 []) e w w') :
    Below B w w' ∧ e = .returned (.tuple #[.slice none 0 0, .agg #[.int .i64 1, .int .i64 (f : Int)]]) := by
  rw [hs] at h; exact h
theorem toks_own {w : World} {B : Nat} {A : Option Addr} {l : List Tk} {c : Nat} (h : w.ownsRow B 33 3 (.slice A l.length c) l.length (tkcells l)) : Toks w A l := Sl.of_own h

set_option maxHeartbeats 800000 in
theorem alive_any (w : World) :
    Calls Try.prog 7 #[] w fun e w' => e = .returned (.bool true) ∧ Below w.heap.size w w' := by
  have HR1 := Lib.hid (fun W => (lexRead_any exLine W (by decide)).mono fun e w' h => rd_ok ex_scan h)
  have HR2 := Lib.hid (fun W => (lexRead_any ⟨#[97, 45, 98]⟩ W (by decide)).mono fun e w' h => rd_err ex_bad h)
  have HTX := Lib.hid (fun A c W => lexText_any A c exToks W (by decide) (by decide))
  rw [ex_text] at HTX
  have HLN : Hid (exToks.length = 5) := rfl
  have H4 : Hid (exToks.getD 4 t0 = ⟨97, ⟨#[104, 105]⟩, 9⟩) := rfl
  unfold exLine at HR1
  go_enter Try.func7, Try.ntmps7
  go_wp2_with fail
  refine (HR1.out _).mono ?_
  rintro e w1 ⟨hb1, A, c, rfl, hown⟩
  have HB1 := Lib.hid hb1
  have HTK := Lib.hid (toks_own hown)
  clear hb1 hown
  have HF1 := Lib.hid (RowAt.new w1 25 #[.int .i64 0, .int .i64 0])
  have HTK1 := Lib.hid (HTK.out.alloc (.cells #[.int .i64 0, .int .i64 0] 25))
  have HBA := Lib.hid (HB1.out.alloc HB1.out.size (.cells #[.int .i64 0, .int .i64 0] 25))
  go_wp2_with fail
  refine (HR2.out _).mono ?_
  rintro e w2 ⟨hb2, rfl⟩
  have HF12 := Lib.hid (HF1.out.below hb2 HF1.out.lt)
  have HTK2 := Lib.hid (HTK1.out.below hb2)
  have HB2 := Lib.hid (HBA.out.trans (hb2.mono HBA.out.size))
  clear hb2
  have HF13 := Lib.hid (HF12.out.alloc (.cells #[.int .i64 1, .int .i64 1] 25))
  have HF2 := Lib.hid (RowAt.new w2 25 #[.int .i64 1, .int .i64 1])
  have HTK3 := Lib.hid (HTK2.out.alloc (.cells #[.int .i64 1, .int .i64 1] 25))
  have HB3 := Lib.hid (HB2.out.alloc HB2.out.size (.cells #[.int .i64 1, .int .i64 1] 25))
  have a0 := (HF13.out.cell 0).trans rfl
  have a1 := (HF13.out.cell 1).trans rfl
  go_wp2_with fail
  refine (HTX.out A c _ HTK3.out).mono ?_
  rintro e w3 ⟨rfl, hb3⟩
  have HTK4 := Lib.hid (HTK3.out.below hb3)
  have HF24 := Lib.hid (HF2.out.below hb3 HF2.out.lt)
  have HB4 := Lib.hid (HB3.out.trans (hb3.mono HB3.out.size))
  clear hb3 a0 a1
  obtain ⟨b, o, rfl, _, hc⟩ := HTK4.out.at (k := 4) (by decide)
  obtain ⟨_, _, h4⟩ := hc 4 (by decide)
  rw [H4.out] at h4
  replace h4 : w3.cell? ⟨b, o + 4 * 3 + 2, none⟩ = some (.int .i64 9) := h4
  have h4' : w3.cell? ⟨b, o + 12 + 2, none⟩ = some (.int .i64 9) := h4
  have h4'' : w3.cell? ⟨b, o + 14, none⟩ = some (.int .i64 9) := h4
  clear h4 hc
  have b0 := (HF24.out.cell 0).trans rfl
  have b1 := (HF24.out.cell 1).trans rfl
  rw [HLN.out]
  go_wp2
  go_ret
  exact ⟨rfl, HB4.out⟩
end Go.Proofs.Ytfhmdambdkmmgaa
