/-
  The law LexPlaces returns true. Conditions: none but what the law asks itself.
-/
import Derived.Test.YtfhmdambdkmmgaaLexK
namespace Go.Proofs.Ytfhmdambdkmmgaa
open Go.RowKit LX

theorem placed_at {s : ByteArray} {a k : Nat} {l : List Tk} (h : Placed s a (l.drop k)) (hk : k < l.length) :
    ∃ p : Nat, (l.getD k t0).p = (p : Int) ∧ a ≤ p ∧ p + (l.getD k t0).s.size ≤ s.size ∧ s.extract p (p + (l.getD k t0).s.size) = (l.getD k t0).s ∧ rightT (l.getD k t0) = true ∧ (∀ j, a ≤ j → j < p → blankB (bt s j) = true) ∧ Placed s (p + (l.getD k t0).s.size) (l.drop (k + 1)) := by
  have e : l.drop k = l.getD k t0 :: l.drop (k + 1) := by
    rw [List.drop_eq_getElem_cons hk, List.getD_eq_getElem?_getD, List.getElem?_eq_getElem hk]; rfl
  rw [e] at h
  cases h with
  | cons _ p t l hp ha hl hs hr hb h => exact ⟨p, hp, ha, hl, hs.symm, hr, hb, h⟩
theorem right_byte {t : Tk} (h : rightT t = true) : t.k < 256 := by
  by_cases h97 : t.k = 97
  · omega
  · rw [rightT_sign h97] at h
    simp only [Bool.and_eq_true, decide_eq_true_eq] at h
    rw [← h.2.2]
    exact byte_lt _ _

set_option maxRecDepth 100000 in
set_option maxHeartbeats 1600000 in
theorem lexPlaces_any (s : ByteArray) (w : World) :
    Calls Try.prog 5 #[.string s] w fun e w' => e = .returned (.bool true) ∧ Below w.heap.size w w' := by
  by_cases hbig : 3000 < s.size
  · go_enter Try.func5, Try.ntmps5
    go_wp2_with fail
    refine (alive_any _).mono ?_
    rintro e w1 ⟨rfl, hb⟩
    have HB := Lib.hid hb; clear hb
    go_wp2
    go_ret
    exact ⟨rfl, HB.out⟩
  · have HR1 := Lib.hid (fun W => lexRead_any s W (by omega))
    cases hR : scan s 0 [] with
    | ok L =>
      have hl := scan_len 0 [] L hR
      simp only [List.length_nil, Nat.zero_add, Nat.sub_zero] at hl
      obtain ⟨L', hLL, hpl⟩ := scan_placed 0 [] L hR
      rw [List.nil_append] at hLL
      subst hLL
      have HP0 : Hid (Placed s 0 (L.drop 0)) := by rw [List.drop_zero]; exact hpl
      have HPA := Lib.hid (fun a k (h : Placed s a (L.drop k)) (hk : k < L.length) => placed_at h hk)
      have HK1 : Hid (∀ W, Calls Try.prog 8 #[.string s] W fun e w' => Below W.heap.size W w' ∧ ∃ A c, e = .returned (.tuple #[.slice A L.length c, .agg #[.int .i64 0, .int .i64 0]]) ∧ w'.ownsRow W.heap.size 33 3 (.slice A L.length c) L.length (tkcells L)) :=
        fun W => (HR1.out W).mono fun e w' h => rd_ok hR h
      have h3000 : decide (3000 < s.size) = false := decide_eq_false hbig
      have h3001 : decide ((3000 : Int) < (s.size : Int)) = false := by rw [decide_eq_false_iff_not]; omega
      have hbs : s.size ≤ 3000 := by omega
      clear HR1 hR hpl hbig
      generalize hn : L.length = n at *
      have HN := Lib.hid hn; clear hn
      go_enter Try.func5, Try.ntmps5
      go_wp2_with fail
      refine (HK1.out _).mono ?_
      rintro e w1 ⟨hb1, A, c, rfl, hown1⟩
      have HT1 : Hid (Toks w1 A L) := Sl.of_own hown1
      have HB1 := Lib.hid hb1
      clear hb1 hown1
      have HT2 := Lib.hid (HT1.out.alloc (.cells #[.int .i64 0, .int .i64 0] 25))
      have HB2 := Lib.hid (HB1.out.alloc HB1.out.size (.cells #[.int .i64 0, .int .i64 0] 25))
      go_wp2_with fail
      go_loopw [7, 58] (fun av kv wr => ∃ k a : Nat, k ≤ n ∧ a ≤ s.size ∧ av = .int .i64 a ∧ kv = .int .i64 k ∧ Hid (Placed s a (L.drop k)) ∧ Hid (Toks wr A L) ∧ Hid (Below w.heap.size w wr)) (fun _ kv _ => n - (intOf kv).toNat)
      case atStart => exact ⟨0, 0, by omega, by omega, rfl, rfl, HP0, HT2, HB2⟩
      case round =>
        obtain ⟨k, a, hk, ha, rfl, rfl, HPL, HTW, HW⟩ := hrel
        by_cases hlt : k < n
        · obtain ⟨p, hp, hap, hps, hsub, hrt, hbl, hnext⟩ := HPA.out a k HPL.out hlt
          obtain ⟨bk, o, rfl, _, hc⟩ := HTW.out.at (k := k) (by rw [HN.out]; exact hlt)
          obtain ⟨hc0, hc1, hc2⟩ := hc k (by rw [HN.out]; exact hlt)
          clear hc
          rw [hp] at hc2
          have HRT : Hid (∀ W : World, Calls Try.prog 12 #[.agg #[.int .u8 ((L.getD k t0).k : Int), .string (L.getD k t0).s, .int .i64 (p : Int)]] W fun e w' => e = .returned (.bool true) ∧ Below W.heap.size W w') := fun W => by
            have h := lexRight_any (L.getD k t0) W (right_byte hrt)
            rw [hrt] at h
            unfold tv at h
            rw [hp] at h
            exact h
          clear hp hrt
          have HBL := Lib.hid hbl; clear hbl
          generalize (L.getD k t0).k = kk at *
          generalize (L.getD k t0).s = x at *
          have HNX := Lib.hid hnext; clear hnext
          have HB3 := Lib.hid (HW.out.alloc HW.out.size (.cells #[.int .u8 (kk : Int), .string x, .int .i64 (p : Int)] 33))
          have HT3 := Lib.hid (HTW.out.alloc (.cells #[.int .u8 (kk : Int), .string x, .int .i64 (p : Int)] 33))
          have HBOX := Lib.hid (RowAt.new wr 33 #[.int .u8 (kk : Int), .string x, .int .i64 (p : Int)])
          obtain ⟨S, HS, HKK, HBEL, keep⟩ := ex_keep w.heap.size (fun W => Toks W (some ⟨bk, o, none⟩) L ∧ RowAt W wr.heap.size 33 #[.int .u8 (kk : Int), .string x, .int .i64 (p : Int)]) (fun _ _ h hb => ⟨h.1.below hb, h.2.below hb h.2.lt⟩) w _ ⟨HT3.out, HBOX.out⟩ HB3.out
          have keepS := keep.out HB3.out.size
          clear keep
          have C0 : ∀ w', S w' → w'.cell? ⟨wr.heap.size, 0, none⟩ = some (.int .u8 (kk : Int)) := fun w' h => ((HKK.out w' h).2.cell 0).trans rfl
          have C1 : ∀ w', S w' → w'.cell? ⟨wr.heap.size, 1, none⟩ = some (.string x) := fun w' h => ((HKK.out w' h).2.cell 1).trans rfl
          have C2 : ∀ w', S w' → w'.cell? ⟨wr.heap.size, 2, none⟩ = some (.int .i64 (p : Int)) := fun w' h => ((HKK.out w' h).2.cell 2).trans rfl
          obtain ⟨z, hz⟩ : ∃ z : Nat, (s.size : Int) - (p : Int) = (z : Int) := ⟨s.size - p, by omega⟩
          obtain ⟨en, he⟩ : ∃ en : Nat, p + x.size = en := ⟨_, rfl⟩
          have hzx : decide (z < x.size) = false := by rw [decide_eq_false_iff_not]; omega
          have hz1 : IntKind.i64.wrap ((s.size : Int) - (p : Int)) = (z : Int) := by rw [IntKind.wrap_i64] <;> omega
          have hz2 : IntKind.i64.wrap ((p : Int) + (x.size : Int)) = (en : Int) := by rw [IntKind.wrap_i64] <;> omega
          rw [he] at hps hsub HNX
          have HE := Lib.hid he
          have hpe : p ≤ en := by omega
          clear hz he
          have hpa : decide (p < a) = false := by rw [decide_eq_false_iff_not]; omega
          have hpz : decide (s.size < p) = false := by rw [decide_eq_false_iff_not]; omega
          go_upto_region 13 with fail
          refine wp_region_ord S [(0, true), (1, true), (2, true), (3, true), (4, true), (5, true), (6, true), (7, true), (8, true), (9, true), (10, true), (11, true), (12, true), (13, true), (14, true), (15, true), (16, true), (17, true), (18, true), (19, true), (20, true), (21, true), (22, true), (23, true), (24, true), (25, true), (26, true), (27, true), (28, true), (29, true), (30, true), (31, true), (32, true), (33, true), (34, true), (35, true), (36, true), (37, true), (38, true), (39, false), (40, true), (41, true)] (by kernel_rfl) (by kernel_rfl) rfl (by kernel_rfl) HS.out ?_
          iterate 39
            (refine wpOrd_step (o := ?_) ?_ ?_; rotate_left 1; (simp only [List.getElem?_toArray, List.getElem?_cons_succ, List.getElem?_cons_zero]; with_reducible rfl))
            (first
                | (refine wpOrd_skip (by rfl) ?_)
                | (refine wpOrd_take (v := ?_) (by rfl) ?_ ?_; rotate_left 1; (intro wx hSx; have hc_0 := C0 wx hSx; have hc_1 := C1 wx hSx; have hc_2 := C2 wx hSx; go_simp; try with_reducible rfl)))
            (try simp only [Act.put, List.setIfInBounds_toArray, List.set_cons_zero, List.set_cons_succ])
          (refine wpOrd_solo (o := ?_) ?_ ?_; rotate_left 1; (simp only [List.getElem?_toArray, List.getElem?_cons_succ, List.getElem?_cons_zero]; with_reducible rfl))
          intro K hK
          go_simp
          go_at_call 12
          refine (HRT.out _).mono ?_
          rintro e w1 ⟨rfl, hb⟩
          have hS := keepS _ _ HS.out hb
          clear HS
          have HS := Lib.hid hS; clear hS hb
          refine hK.out _ _ HS.out ?_
          clear hK K
          (try simp only [Act.put, List.setIfInBounds_toArray, List.set_cons_zero, List.set_cons_succ])
          iterate 2
            (refine wpOrd_step (o := ?_) ?_ ?_; rotate_left 1; (simp only [List.getElem?_toArray, List.getElem?_cons_succ, List.getElem?_cons_zero]; with_reducible rfl))
            (first
                | (refine wpOrd_skip (by rfl) ?_)
                | (refine wpOrd_take (v := ?_) (by rfl) ?_ ?_; rotate_left 1; (intro wx hSx; have hc_0 := C0 wx hSx; have hc_1 := C1 wx hSx; have hc_2 := C2 wx hSx; go_simp; try with_reducible rfl)))
            (try simp only [Act.put, List.setIfInBounds_toArray, List.set_cons_zero, List.set_cons_succ])
          refine wpOrd_done ?_
          go_wp2_with fail
          have hk2 := HKK.out _ HS.out
          have c1 := (hk2.2.cell 1).trans rfl
          have c2 := (hk2.2.cell 2).trans rfl
          have HT4 := Lib.hid hk2.1
          have HW4 := Lib.hid (HBEL.out _ HS.out)
          clear hk2 C0 C1 C2 HS keepS HKK HBEL hc0 hc1 hc2 HB3 HT3 HBOX
          obtain ⟨wo, rfl⟩ : ∃ wo : World, wo = w1 := ⟨_, rfl⟩
          go_loop [7] (fun av => ∃ j : Nat, a ≤ j ∧ j ≤ p ∧ av = .int .i64 j) (fun av => p - (intOf av).toNat)
          case atStart => exact ⟨a, by omega, hap, rfl⟩
          case round =>
            obtain ⟨j, haj, hjp, rfl⟩ := hrel
            by_cases hjl : j < p
            · have hjs : j < s.size := by omega
              have hby := blank_yes (HBL.out j haj hjl)
              rw [bt_at hjs] at hby
              rcases hby with h32 | ⟨h32, h9⟩
              · have g32 : ((s[j].toNat : Int) != 32) = false := by rw [bne, h32]; rfl
                clear h32
                go_wp2_with fail
                go_round
                case rel => exact ⟨j + 1, by omega, by omega, by go_num⟩
                case measure => simp [intOf]; omega
              · have g32 : ((s[j].toNat : Int) != 32) = true := by rw [bne, h32]; rfl
                have g9 : ((s[j].toNat : Int) != 9) = false := by rw [bne, h9]; rfl
                go_wp2_with fail
                go_round
                case rel => exact ⟨j + 1, by omega, by omega, by go_num⟩
                case measure => simp [intOf]; omega
            · obtain rfl : j = p := by omega
              go_wp2_with fail
              go_roundw
              case rel => exact ⟨k + 1, en, by omega, hps, rfl, by go_num, HNX, HT4, HW4⟩
              case measure => simp [intOf]; omega
        · obtain rfl : k = n := by omega
          go_wp2_with fail
          refine (alive_any _).mono ?_
          rintro e w2 ⟨rfl, hb⟩
          have HB := Lib.hid (HW.out.trans (hb.mono HW.out.size)); clear hb
          go_wp2
          go_ret
          exact ⟨rfl, HB.out⟩
    | error f =>
      have hf := scan_err 0 [] f hR
      obtain ⟨L, hL⟩ := scan_pre 0 [] hR
      have hsz : (s.extract 0 f).size ≤ 2147483648 := by
        have := sub_size (s := s) (i := 0) (e := f) (by omega) (by omega)
        rw [show (s.extract 0 f).size = f - 0 from this]; omega
      have HK1 : Hid (∀ W, Calls Try.prog 8 #[.string s] W fun e w' => Below W.heap.size W w' ∧ e = .returned (.tuple #[.slice none 0 0, .agg #[.int .i64 1, .int .i64 (f : Int)]])) :=
        fun W => (HR1.out W).mono fun e w' h => rd_err hR h
      have HK2 : Hid (∀ W, Calls Try.prog 8 #[.string (s.extract 0 f)] W fun e w' => Below W.heap.size W w' ∧ ∃ A c, e = .returned (.tuple #[.slice A L.length c, .agg #[.int .i64 0, .int .i64 0]]) ∧ w'.ownsRow W.heap.size 33 3 (.slice A L.length c) L.length (tkcells L)) :=
        fun W => (lexRead_any (s.extract 0 f) W hsz).mono fun e w' h => rd_ok hL h
      clear HR1 hR hL hsz
      obtain ⟨_, hf⟩ := hf
      generalize L.length = n at *
      go_enter Try.func5, Try.ntmps5
      go_wp2_with fail
      refine (HK1.out _).mono ?_
      rintro e w1 ⟨hb1, rfl⟩
      have HB1 := Lib.hid hb1
      clear hb1
      have HB2 := Lib.hid (HB1.out.alloc HB1.out.size (.cells #[.int .i64 1, .int .i64 (f : Int)] 25))
      go_wp2_with fail
      refine (HK2.out _).mono ?_
      rintro e w2 ⟨hb2, A, c, rfl, _⟩
      have HB3 := Lib.hid (HB2.out.trans (hb2.mono HB2.out.size))
      clear hb2
      have HB4 := Lib.hid (HB3.out.alloc HB3.out.size (.cells #[.int .i64 0, .int .i64 0] 25))
      go_wp2_with fail
      refine (alive_any _).mono ?_
      rintro e w3 ⟨rfl, hb⟩
      have HB5 := Lib.hid (HB4.out.trans (hb.mono HB4.out.size)); clear hb
      go_wp2
      go_ret
      exact ⟨rfl, HB5.out⟩
end Go.Proofs.Ytfhmdambdkmmgaa
