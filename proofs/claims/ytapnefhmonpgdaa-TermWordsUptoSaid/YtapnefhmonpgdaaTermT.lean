/-
  The document's names in braces, from outside. Conditions: lists of at most 2^20 trees.
-/
import Derived.Test.YtapnefhmonpgdaaTermS
namespace Go.Proofs.Ytapnefhmonpgdaa
open Go.RowKit LX TR TM

def wholeR (ks : List Tr) (e : Int) : Except Int (List Wd) := match someR nameR ks e with
  | .error p => .error p
  | .ok (ws, []) => .ok ws
  | .ok (_, y :: _) => .error y.t.p
set_option maxRecDepth 100000 in
set_option maxHeartbeats 1600000 in
theorem whole6_any (x : Tr) (w : World) (hT : Trs w w.heap.size x.A x.ks) (hl : x.ks.length ≤ 1048576) :
    Calls Try.prog 35 #[.int .i64 6, .agg (trv x), .bool false] w fun e' w' =>
      (match wholeR x.ks x.e with
        | .error p => e' = .returned (.tuple #[.slice none 0 0, gbad p])
        | .ok ws => ∃ X d s9 p9 i2, e' = .returned (.tuple #[.slice X ws.length d, gok s9 p9 i2]) ∧ ws.length ≤ d ∧ SlC w' (fun k => w.heap.size + 2 ≤ k) X (ncs (ws.map wnd))) ∧ Below w.heap.size w w' := by
  obtain ⟨⟨q, ts, tp⟩, YA, yc, ks, ye⟩ := x
  simp only [Tr.A, Tr.ks, Tr.e] at hT hl ⊢
  have hr0 := (RowAt.new w 57 #[.int .u8 (q : Int), .string ts, .int .i64 tp, .slice YA ks.length yc, .int .i64 ye]).alloc (.cells #[.int .i64 0, .int .i64 0, .string ⟨#[]⟩, .slice none 0 0, .slice none 0 0, .int .i64 0, .bool false, .int .i64 0] 34)
  have hg0 := RowAt.new (w.alloc (.cells #[.int .u8 (q : Int), .string ts, .int .i64 tp, .slice YA ks.length yc, .int .i64 ye] 57)) 34 #[.int .i64 0, .int .i64 0, .string ⟨#[]⟩, .slice none 0 0, .slice none 0 0, .int .i64 0, .bool false, .int .i64 0]
  rw [show (w.alloc (.cells #[.int .u8 (q : Int), .string ts, .int .i64 tp, .slice YA ks.length yc, .int .i64 ye] 57)).heap.size = w.heap.size + 1 by simp] at hg0
  have hbz : Below w.heap.size w ((w.alloc (.cells #[.int .u8 (q : Int), .string ts, .int .i64 tp, .slice YA ks.length yc, .int .i64 ye] 57)).alloc (.cells #[.int .i64 0, .int .i64 0, .string ⟨#[]⟩, .slice none 0 0, .slice none 0 0, .int .i64 0, .bool false, .int .i64 0] 34)) := ((Below.refl _ _).alloc (Nat.le_refl _) _).alloc (by simp) _
  have HC := Lib.hid (some6_any YA yc ks ye _ ((hT.below hbz).mono hbz.size) hl)
  have HR0 := Lib.hid hr0
  have HG0 := Lib.hid hg0
  have HB0 := Lib.hid hbz
  have HTT := Lib.hid hT
  refine calls_hid fun Q' hQ => ?_
  have HQ := Lib.hid hQ
  have HTR : Hid (trv (.mk ⟨q, ts, tp⟩ YA yc ks ye) = #[.int .u8 (q : Int), .string ts, .int .i64 tp, .slice YA ks.length yc, .int .i64 ye]) := rfl
  rw [HTR.out]
  clear hr0 hg0 hbz hT hQ HTR
  generalize hn : ks.length = n at *
  have HN := Lib.hid hn; clear hn
  go_enter Try.func35, Try.ntmps35
  go_wp2_with fail
  refine HC.out.mono ?_
  rintro e' w1 ⟨⟨ws, i2, X, d, s9, p9, rfl, hst, hd, hsl⟩ | ⟨p, rfl, her⟩, hb1⟩
  · have hb2 : Below w1.heap.size w1 (w1.alloc (.cells #[.int .i64 0, .int .i64 p9, .string s9, .slice none 0 0, .slice none 0 0, .int .i64 i2, .bool false, .int .i64 0] 34)) := (Below.refl _ _).alloc (Nat.le_refl _) _
    have HSL : Hid (SlC (w1.alloc (.cells #[.int .i64 0, .int .i64 p9, .string s9, .slice none 0 0, .slice none 0 0, .int .i64 i2, .bool false, .int .i64 0] 34)) (fun k => w.heap.size + 2 ≤ k) X (ncs (ws.map wnd))) := (hsl.keep9 fun k hk _ => hb2.block k hk).weak fun k _ hk => by simp at hk; omega
    have hz0 : w.heap.size + 1 < w1.heap.size := Nat.lt_of_lt_of_le HG0.out.lt hb1.size
    have HR1 := Lib.hid ((HR0.out.below hb1 HR0.out.lt).below hb2 (by omega))
    have HG1 := Lib.hid ((HG0.out.below hb1 HG0.out.lt).below hb2 hz0)
    have HW1 := Lib.hid ((HB0.out.trans (hb1.mono HB0.out.size)).trans (hb2.mono (by omega)))
    have HGG := Lib.hid (RowAt.new w1 34 #[.int .i64 0, .int .i64 p9, .string s9, .slice none 0 0, .slice none 0 0, .int .i64 i2, .bool false, .int .i64 0])
    have hcs := hst.cases
    rw [rest_zero] at hcs
    have hok : someR nameR ks ye = .ok (ws, rest ks i2) := by
      rcases hcs with ⟨p, h1, _⟩ | ⟨_, _, h1⟩
      · cases h1
      · exact h1
    obtain ⟨m, hm, hmk, hdr⟩ := hst.1.drop
    rw [rest_zero] at hmk hdr
    have hi2 : i2 = (m : Int) := by omega
    subst hi2
    clear hm
    clear hb1 hb2 hsl hst hcs HC HR0 HG0 HB0
    unfold gok
    go_upto_region 4 with fail
    generalize w1.alloc (.cells #[.int .i64 0, .int .i64 p9, .string s9, .slice none 0 0, .slice none 0 0, .int .i64 (m : Int), .bool false, .int .i64 0] 34) = w2 at *
    obtain ⟨⟨h0, h1, h2, h3, h4, h5, h6, h7⟩, ff⟩ := row8 HGG.out
    obtain ⟨r0, r1, r2, r3, r4, _, _, _, _, _⟩ := row5 HR1.out
    obtain ⟨⟨k0, k1, k2, k3, k4, k5, k6, k7⟩, fk⟩ := row8 HG1.out
    by_cases hlt : m < n
    · have hw := wrong_any YA yc ks (m : Int) ye w2 ((HTT.out.below HW1.out).mono HW1.out.size)
      rw [HN.out] at hw
      have HWR := Lib.hid hw
      have HWH : Hid (wholeR ks ye = .error (offOf (rest ks m) ye)) := by
        unfold wholeR
        rw [hok]
        cases hq : rest ks (m : Int) with
        | nil =>
          rw [hq] at hdr
          have := congrArg List.length hdr
          rw [List.length_drop, List.length_nil] at this
          have h9 := HN.out
          omega
        | cons y r => exact Lib.hid rfl
      have e0 : decide ((m : Int) < (n : Int)) = true := decide_eq_true (by omega)
      clear hw hok hdr
      rw [HWH.out] at HQ
      generalize offOf (rest ks (m : Int)) ye = p at *
      go_wp2_with fail
      refine HWR.out.mono ?_
      rintro e' w3 ⟨rfl, hb3⟩
      have HR2 := Lib.hid (HG1.out.below hb3 HG1.out.lt)
      have HW2 := Lib.hid (HW1.out.trans (hb3.mono HW1.out.size))
      clear hb3 h0 h1 h2 h3 h4 h5 h6 h7 ff r0 r1 r2 r3 r4 k0 k1 k2 k3 k4 k5 k6 k7 fk
      obtain ⟨⟨k0, k1, k2, k3, k4, k5, k6, k7⟩, fk⟩ := row8 HR2.out
      unfold gbad
      go_wp2_with fail
      change bodyPost _ _ _ _ _ (set8 w3 (w.heap.size + 1) (.int .i64 0) (.int .i64 0) (.string ⟨#[]⟩) (.slice none 0 0) (.slice none 0 0) (.int .i64 0) (.bool true) (.int .i64 p))
      have e1 : RowAt (set8 w3 (w.heap.size + 1) (.int .i64 0) (.int .i64 0) (.string ⟨#[]⟩) (.slice none 0 0) (.slice none 0 0) (.int .i64 0) (.bool true) (.int .i64 p)) (w.heap.size + 1) 34 #[.int .i64 0, .int .i64 0, .string ⟨#[]⟩, .slice none 0 0, .slice none 0 0, .int .i64 0, .bool true, .int .i64 p] := set8_row HR2.out
      have e2 : Below w.heap.size w (set8 w3 (w.heap.size + 1) (.int .i64 0) (.int .i64 0) (.string ⟨#[]⟩) (.slice none 0 0) (.slice none 0 0) (.int .i64 0) (.bool true) (.int .i64 p)) := HW2.out.trans (set8_below (by omega))
      generalize set8 w3 (w.heap.size + 1) (.int .i64 0) (.int .i64 0) (.string ⟨#[]⟩) (.slice none 0 0) (.slice none 0 0) (.int .i64 0) (.bool true) (.int .i64 p) = w8 at *
      exact bodyPost_ret (ret_slot_cell rfl _ _ (.slice none 0 0) (w.heap.size + 1) _ _ (0, 0) _ rfl rfl e1 Try.underlying34 rfl (got_info _ _ _ _ _ _ _ _)) rfl (HQ.out _ _ ⟨rfl, e2⟩)
    · have HWH : Hid (wholeR ks ye = .ok ws) := by
        unfold wholeR
        rw [hok]
        have h9 := HN.out
        have hnil : rest ks (m : Int) = [] := by rw [hdr]; exact List.drop_eq_nil_of_le (by omega)
        rw [hnil]; exact Lib.hid rfl
      have e0 : decide ((m : Int) < (n : Int)) = false := decide_eq_false (by omega)
      clear hok hdr
      rw [HWH.out] at HQ
      go_wp2_with fail
      go_region
      go_wp2_with fail
      change bodyPost _ _ _ _ _ ((set8 w2 (w.heap.size + 1) (.int .i64 0) (.int .i64 p9) (.string s9) (.slice none 0 0) (.slice none 0 0) (.int .i64 (m : Int)) (.bool false) (.int .i64 0)).drew)
      have e1 : RowAt (set8 w2 (w.heap.size + 1) (.int .i64 0) (.int .i64 p9) (.string s9) (.slice none 0 0) (.slice none 0 0) (.int .i64 (m : Int)) (.bool false) (.int .i64 0)) (w.heap.size + 1) 34 #[.int .i64 0, .int .i64 p9, .string s9, .slice none 0 0, .slice none 0 0, .int .i64 (m : Int), .bool false, .int .i64 0] := set8_row HG1.out
      have e2 : Below w.heap.size w (set8 w2 (w.heap.size + 1) (.int .i64 0) (.int .i64 p9) (.string s9) (.slice none 0 0) (.slice none 0 0) (.int .i64 (m : Int)) (.bool false) (.int .i64 0)) := HW1.out.trans (set8_below (by omega))
      have e3 : SlC (set8 w2 (w.heap.size + 1) (.int .i64 0) (.int .i64 p9) (.string s9) (.slice none 0 0) (.slice none 0 0) (.int .i64 (m : Int)) (.bool false) (.int .i64 0)) (fun k => w.heap.size + 2 ≤ k) X (ncs (ws.map wnd)) := HSL.out.keep9 fun k _ hk => set8_other (by omega)
      generalize set8 w2 (w.heap.size + 1) (.int .i64 0) (.int .i64 p9) (.string s9) (.slice none 0 0) (.slice none 0 0) (.int .i64 (m : Int)) (.bool false) (.int .i64 0) = w8 at *
      exact bodyPost_ret (ret_slot_cell rfl _ _ (.slice X ws.length d) (w.heap.size + 1) _ _ (0, 0) _ rfl rfl e1.drew Try.underlying34 rfl (got_info _ _ _ _ _ _ _ _)) rfl (HQ.out _ _ ⟨⟨X, d, s9, p9, _, rfl, hd, e3.keep9 fun _ _ _ => rfl⟩, e2.drew⟩)
  · have hb2 : Below w1.heap.size w1 (w1.alloc (.cells #[.int .i64 0, .int .i64 0, .string ⟨#[]⟩, .slice none 0 0, .slice none 0 0, .int .i64 0, .bool true, .int .i64 p] 34)) := (Below.refl _ _).alloc (Nat.le_refl _) _
    have hz0 : w.heap.size + 1 < w1.heap.size := Nat.lt_of_lt_of_le HG0.out.lt hb1.size
    have HR1 := Lib.hid ((HR0.out.below hb1 HR0.out.lt).below hb2 (by omega))
    have HG1 := Lib.hid ((HG0.out.below hb1 HG0.out.lt).below hb2 hz0)
    have HW1 := Lib.hid ((HB0.out.trans (hb1.mono HB0.out.size)).trans (hb2.mono (by omega)))
    have HGG := Lib.hid (RowAt.new w1 34 #[.int .i64 0, .int .i64 0, .string ⟨#[]⟩, .slice none 0 0, .slice none 0 0, .int .i64 0, .bool true, .int .i64 p])
    have HWH : Hid (wholeR ks ye = .error p) := by
      unfold wholeR
      rw [her]; exact Lib.hid rfl
    clear hb1 hb2 her HC HR0 HG0 HB0
    rw [HWH.out] at HQ
    unfold gbad
    go_upto_region 4 with fail
    generalize w1.alloc (.cells #[.int .i64 0, .int .i64 0, .string ⟨#[]⟩, .slice none 0 0, .slice none 0 0, .int .i64 0, .bool true, .int .i64 p] 34) = w2 at *
    obtain ⟨⟨h0, h1, h2, h3, h4, h5, h6, h7⟩, ff⟩ := row8 HGG.out
    obtain ⟨⟨k0, k1, k2, k3, k4, k5, k6, k7⟩, fk⟩ := row8 HG1.out
    go_wp2_with fail
    go_region
    go_wp2_with fail
    change bodyPost _ _ _ _ _ ((set8 w2 (w.heap.size + 1) (.int .i64 0) (.int .i64 0) (.string ⟨#[]⟩) (.slice none 0 0) (.slice none 0 0) (.int .i64 0) (.bool true) (.int .i64 p)).drew)
    have e1 : RowAt (set8 w2 (w.heap.size + 1) (.int .i64 0) (.int .i64 0) (.string ⟨#[]⟩) (.slice none 0 0) (.slice none 0 0) (.int .i64 0) (.bool true) (.int .i64 p)) (w.heap.size + 1) 34 #[.int .i64 0, .int .i64 0, .string ⟨#[]⟩, .slice none 0 0, .slice none 0 0, .int .i64 0, .bool true, .int .i64 p] := set8_row HG1.out
    have e2 : Below w.heap.size w (set8 w2 (w.heap.size + 1) (.int .i64 0) (.int .i64 0) (.string ⟨#[]⟩) (.slice none 0 0) (.slice none 0 0) (.int .i64 0) (.bool true) (.int .i64 p)) := HW1.out.trans (set8_below (by omega))
    generalize set8 w2 (w.heap.size + 1) (.int .i64 0) (.int .i64 0) (.string ⟨#[]⟩) (.slice none 0 0) (.slice none 0 0) (.int .i64 0) (.bool true) (.int .i64 p) = w8 at *
    exact bodyPost_ret (ret_slot_cell rfl _ _ (.slice none 0 0) (w.heap.size + 1) _ _ (0, 0) _ rfl rfl e1.drew Try.underlying34 rfl (got_info _ _ _ _ _ _ _ _)) rfl (HQ.out _ _ ⟨rfl, e2.drew⟩)
end Go.Proofs.Ytapnefhmonpgdaa
