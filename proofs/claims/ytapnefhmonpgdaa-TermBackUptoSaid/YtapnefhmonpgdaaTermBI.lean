/-
  TermBack: what might have been read is read again of its text. Conditions: at most 2^20 nodes, words and letters.
-/
import Derived.Test.YtapnefhmonpgdaaTermBH
set_option linter.unusedSimpArgs false
set_option linter.unusedVariables false
namespace Go.Proofs.Ytapnefhmonpgdaa
open Go.RowKit LX TR TM
set_option maxRecDepth 100000 in
set_option maxHeartbeats 6400000 in
theorem termBack_any (n : Nd) (w : World) (hn : Nods w w.heap.size [n]) (hcn : cnt [n] ≤ 1048576) (htn : (tx n).length ≤ 5242880) :
    Calls Try.prog 5 #[.agg (nv n)] w fun e w' => e = .returned (.bool true) ∧ Below w.heap.size w w' := by
  have hNA : ∀ W, Below w.heap.size w W → Nods W W.heap.size [n] := fun W h => (hn.below h).mono h.size
  have HBIG : Hid (∀ A c W, Below w.heap.size w W → Sl W W.heap.size A (ncs [n]) → Calls Try.prog 12 #[.slice A 1 c] W fun e w' => e = .returned (.bool (decide (300 < cnt [n]))) ∧ Below W.heap.size W w') := fun A c W h hs => by
    have h1 := big10_any A c [n] (by simp) (fun z hz => by obtain rfl := List.mem_singleton.1 hz; omega) W hs (fun z hz => by obtain rfl := List.mem_singleton.1 hz; exact hNA W h)
    simpa using h1
  have HT1 : Hid (∀ W, Below w.heap.size w W → Calls Try.prog 13 #[.agg (nv n)] W fun e w' => e = .returned (.string (text10 n)) ∧ Below W.heap.size W w') := fun W h => text_any n W (by omega) (by omega) (hNA W h)
  have HQ1 : Hid (∀ W, Below w.heap.size w W → Calls Try.prog 17 #[.agg (nv n)] W fun e w' => e = .returned (.bool (gF 1 (fl n))) ∧ Below W.heap.size W w') := fun W h => isConst_any 4294967296 (Nat.le_refl _) n (by omega) W (hNA W h)
  have HQ3 : Hid (∀ W, Below w.heap.size w W → Calls Try.prog 19 #[.agg (nv n)] W fun e w' => e = .returned (.bool (gF 3 (fl n))) ∧ Below W.heap.size W w') := fun W h => isLabel_any 4294967296 (Nat.le_refl _) n (by omega) W (hNA W h)
  have HQ6 : Hid (∀ W, Below w.heap.size w W → Calls Try.prog 21 #[.agg (nv n)] W fun e w' => e = .returned (.bool (gF 6 (fl n))) ∧ Below W.heap.size W w') := fun W h => isRow_any n (by omega) W (hNA W h)
  have HSM : Hid (∀ (z : Nd) W, cnt [z] = cnt [n] → sm z n = true → Nods W W.heap.size [z] → Below w.heap.size w W → Calls Try.prog 15 #[.agg (nv z), .agg (nv n)] W fun e w' => e = .returned (.bool true) ∧ Below W.heap.size W w') := fun z W h1 h2 h3 h4 => by
    have h5 := same10_any 4294967296 (Nat.le_refl _) z n (by omega) W h3 (hNA W h4)
    rw [h2] at h5
    exact h5
  have hTs : (text10 n).size ≤ 5242880 := by
    have h1 := LX.lst_length (text10 n)
    rw [lst_text10] at h1
    omega
  have HRD : Hid (∀ W, Calls Try.prog 23 #[.string (text10 n)] W fun e w' => Rd W.heap.size (scan (text10 n) 0 []) e W w') := fun W => refRead8_any _ W (by omega)
  have HNO : Hid (∀ p, scan (text10 n) 0 [] = .error p → gF 1 (fl n) = false ∧ gF 3 (fl n) = false ∧ gF 6 (fl n) = false) := fun p hp => by
    have hh : ∀ k, gF k (fl n) = true → False := fun k hk => by
      obtain ⟨R, h1, _⟩ := w_scan (w_of hk)
      rw [h1] at hp; cases hp
    exact ⟨Bool.eq_false_iff.2 (hh 1), Bool.eq_false_iff.2 (hh 3), Bool.eq_false_iff.2 (hh 6)⟩
  have HYES : Hid (∀ k R ts, scan (text10 n) 0 [] = .ok R → parse R = .ok ts → gF k (fl n) = true → ∀ e, ∃ y, rdN k 5242881 ts e = .ok (y, []) ∧ sm y n = true) := fun k R ts h1 h2 h3 e => by
    have h4 := scan_few 0 [] R h1 (Nat.zero_le _)
    have h5 := spells_length (parse_spells h2).1
    simp only [List.length_nil, Nat.zero_add, Nat.sub_zero] at h4
    exact w_read (w_of h3) h1 h2 _ e (by omega)
  have HFEW : Hid (∀ R, scan (text10 n) 0 [] = .ok R → R.length ≤ 5242880) := fun R h1 => by
    have h4 := scan_few 0 [] R h1 (Nat.zero_le _)
    simp only [List.length_nil, Nat.zero_add, Nat.sub_zero] at h4
    omega
  have HFT : Hid (∀ R ts us, scan (text10 n) 0 [] = .ok R → parse R = .ok ts → TR.er us = ts → (nodes us).length ≤ 5242880) := fun R ts us h1 h2 h3 => by
    have h4 := scan_few 0 [] R h1 (Nat.zero_le _)
    have h5 := spells_length (parse_spells h2).1
    simp only [List.length_nil, Nat.zero_add, Nat.sub_zero] at h4
    rw [← TR.nodes_er, h3]; omega
  clear hNA hn htn hcn hTs
  generalize decide (300 < cnt [n]) = big at *
  generalize text10 n = T at *
  generalize hg1 : gF 1 (fl n) = q1 at *
  generalize hg3 : gF 3 (fl n) = q3 at *
  generalize hg6 : gF 6 (fl n) = q6 at *
  obtain ⟨bk, bp, bs, bA, bc, bw, bB, bd, bz⟩ := n
  unfold nv at HT1 HQ1 HQ3 HQ6 ⊢
  simp only [Nd.k, Nd.p, Nd.s, Nd.A, Nd.c, Nd.ws, Nd.B, Nd.d, Nd.ks] at HT1 HQ1 HQ3 HQ6 ⊢
  cases big
  · cases hsc : scan T 0 [] with
    | error p =>
      obtain ⟨rfl, rfl, rfl⟩ := HNO.out p hsc
      rw [hsc] at HRD
      have HRE : Hid (∀ W, Calls Try.prog 23 #[.string T] W fun e w' => Below W.heap.size W w' ∧ e = .returned (.tuple #[.slice none 0 0, .agg #[.int .i64 1, .int .i64 (p : Int)]])) := HRD.out
      have HP : Hid (∀ W c, Calls Try.prog 24 #[.slice none 0 c] W fun e w' => Below W.heap.size W w' ∧ ∃ X d us, e = .returned (.tuple #[.slice X us.length d, .agg #[.int .i64 0, .int .i64 0]]) ∧ TR.er us = [] ∧ us.length ≤ d ∧ Trs w' w'.heap.size X us) := fun W c => refRead9_any none c [] W (by simp) (Toks.nil _ _)
      clear HRD HNO HYES HFEW HFT HSM hsc hg1 hg3 hg6
      have hbw1 : Below w.heap.size w (w.alloc (.cells #[.int .i64 bk, .int .i64 bp, .string bs, .slice bA bw.length bc, .slice bB bz.length bd] 32)) := (Below.refl _ _).alloc (Nat.le_refl _) _
      have hra := RowAt.new w 32 #[.int .i64 bk, .int .i64 bp, .string bs, .slice bA bw.length bc, .slice bB bz.length bd]
      have HRAw1 := Lib.hid hra
      have HBw1 := Lib.hid hbw1
      clear hra hbw1
      go_enter Try.func5, Try.ntmps5
      go_upto_region 1 with fail
      generalize (w.alloc (.cells #[.int .i64 bk, .int .i64 bp, .string bs, .slice bA bw.length bc, .slice bB bz.length bd] 32)) = w1 at *
      obtain ⟨HRA0, HRA1, HRA2, HRA3, HRA4, _, _, _, _, _⟩ := row5 HRAw1.out
      go_wp2_with (refine wpList_nodes1 (by rfl) _ rfl (.mk bk bp bs bA bc bw bB bd bz) rfl ?_; intro w2 hsl hb2)
      clear HRA0 HRA1 HRA2 HRA3 HRA4
      have HBw2 := Lib.hid (HBw1.out.trans (hb2.mono HBw1.out.size))
      have HRAw2 := Lib.hid (HRAw1.out.below hb2 HRAw1.out.lt)
      have HG2 := Lib.hid (HBIG.out _ 1 w2 HBw2.out hsl)
      clear hsl hb2 HRAw1 HBw1 HBIG
      go_wp2_with fail
      refine (HG2.out).mono ?_
      rintro e w3 ⟨rfl, hb⟩
      have HRAw3 := Lib.hid (HRAw2.out.below hb HRAw2.out.lt)
      have HBw3 := Lib.hid (HBw2.out.trans (hb.mono HBw2.out.size))
      clear hb HRAw2 HBw2
      clear HG2
      obtain ⟨HRA0, HRA1, HRA2, HRA3, HRA4, _, _, _, _, _⟩ := row5 HRAw3.out
      go_wp2_with fail
      refine (HT1.out w3 HBw3.out).mono ?_
      rintro e w4 ⟨rfl, hb⟩
      have HRAw4 := Lib.hid (HRAw3.out.below hb HRAw3.out.lt)
      have HBw4 := Lib.hid (HBw3.out.trans (hb.mono HBw3.out.size))
      clear hb HRAw3 HBw3
      clear HRA0 HRA1 HRA2 HRA3 HRA4
      go_wp2_with fail
      refine (HRE.out w4).mono ?_
      rintro e w5 ⟨hb, rfl⟩
      have HRAw5 := Lib.hid (HRAw4.out.below hb HRAw4.out.lt)
      have HBw5 := Lib.hid (HBw4.out.trans (hb.mono HBw4.out.size))
      clear hb HRAw4 HBw4
      have HRAw6 := Lib.hid (HRAw5.out.alloc (.cells #[.int .i64 1, .int .i64 (p : Int)] 27))
      have HBw6 := Lib.hid (HBw5.out.alloc HBw5.out.size (.cells #[.int .i64 1, .int .i64 (p : Int)] 27))
      have HFAw6 := Lib.hid (RowAt.new w5 27 #[.int .i64 1, .int .i64 (p : Int)])
      have HBAw6 : Hid (Below w5.heap.size w5 (w5.alloc (.cells #[.int .i64 1, .int .i64 (p : Int)] 27))) := (Below.refl _ _).alloc (Nat.le_refl _) _
      clear HRAw5 HBw5
      go_upto_region 5 with fail
      generalize (w5.alloc (.cells #[.int .i64 1, .int .i64 (p : Int)] 27)) = w6 at *
      go_wp2_with fail
      refine (HP.out w6 0).mono ?_
      rintro e w7 ⟨hb, X, dd, us, rfl, hus, hdd, htr⟩
      have HRAw7 := Lib.hid (HRAw6.out.below hb HRAw6.out.lt)
      have HFAw7 := Lib.hid (HFAw6.out.below hb HFAw6.out.lt)
      have HBw7 := Lib.hid (HBw6.out.trans (hb.mono HBw6.out.size))
      clear hb HRAw6 HFAw6 HBw6
      clear hus htr
      generalize us.length = nn at *
      have HRAw8 := Lib.hid (HRAw7.out.alloc (.cells #[.int .i64 0, .int .i64 0] 27))
      have HFAw8 := Lib.hid (HFAw7.out.alloc (.cells #[.int .i64 0, .int .i64 0] 27))
      have HBw8 := Lib.hid (HBw7.out.alloc HBw7.out.size (.cells #[.int .i64 0, .int .i64 0] 27))
      have HGAw8 := Lib.hid (RowAt.new w7 27 #[.int .i64 0, .int .i64 0])
      have HBAw8 : Hid (Below w7.heap.size w7 (w7.alloc (.cells #[.int .i64 0, .int .i64 0] 27))) := (Below.refl _ _).alloc (Nat.le_refl _) _
      clear HRAw7 HFAw7 HBw7
      go_upto_region 6 with fail
      generalize (w7.alloc (.cells #[.int .i64 0, .int .i64 0] 27)) = w8 at *
      obtain ⟨HRA0, HRA1, HRA2, HRA3, HRA4, _, _, _, _, _⟩ := row5 HRAw8.out
      obtain ⟨HFA0, HFA1, _, _⟩ := row2 HFAw8.out
      obtain ⟨HGA0, HGA1, _, _⟩ := row2 HGAw8.out
      go_wp2_with fail
      refine (HQ1.out w8 HBw8.out).mono ?_
      rintro e e1 ⟨rfl, hb⟩
      have HRAe1 := Lib.hid (HRAw8.out.below hb HRAw8.out.lt)
      have HBe1 := Lib.hid (HBw8.out.trans (hb.mono HBw8.out.size))
      clear hb HRAw8 HBw8
      clear HRA0 HRA1 HRA2 HRA3 HRA4
      obtain ⟨HRA0, HRA1, HRA2, HRA3, HRA4, _, _, _, _, _⟩ := row5 HRAe1.out
      go_wp2_with fail
      refine (HQ3.out e1 HBe1.out).mono ?_
      rintro e e3 ⟨rfl, hb⟩
      have HRAe3 := Lib.hid (HRAe1.out.below hb HRAe1.out.lt)
      have HBe3 := Lib.hid (HBe1.out.trans (hb.mono HBe1.out.size))
      clear hb HRAe1 HBe1
      clear HRA0 HRA1 HRA2 HRA3 HRA4
      obtain ⟨HRA0, HRA1, HRA2, HRA3, HRA4, _, _, _, _, _⟩ := row5 HRAe3.out
      go_wp2_with fail
      refine (HQ6.out e3 HBe3.out).mono ?_
      rintro e e6 ⟨rfl, hb⟩
      have HRAe6 := Lib.hid (HRAe3.out.below hb HRAe3.out.lt)
      have HBe6 := Lib.hid (HBe3.out.trans (hb.mono HBe3.out.size))
      clear hb HRAe3 HBe3
      clear HRA0 HRA1 HRA2 HRA3 HRA4
      obtain ⟨HRA0, HRA1, HRA2, HRA3, HRA4, _, _, _, _, _⟩ := row5 HRAe6.out
      go_wp2_with fail
      refine (alive10_any _).mono ?_
      rintro e wz ⟨rfl, hb⟩
      have HBz := Lib.hid (HBe6.out.trans (hb.mono HBe6.out.size))
      clear hb
      go_wp2_with fail
      go_ret
      exact ⟨rfl, HBz.out⟩
    | ok R =>
      have hRl := HFEW.out R hsc
      have HRO : Hid (∀ W, Calls Try.prog 23 #[.string T] W fun e w' => Below W.heap.size W w' ∧ ∃ A c, e = .returned (.tuple #[.slice A R.length c, .agg #[.int .i64 0, .int .i64 0]]) ∧ w'.ownsRow W.heap.size 55 3 (.slice A R.length c) R.length (tkcells R)) := fun W => by
        have h := HRD.out W
        rw [hsc] at h
        exact h
      cases hp : parse R with
      | error p =>
        have HP9 : Hid (∀ A W c, Toks W A R → Calls Try.prog 24 #[.slice A R.length c] W fun e w' => Below W.heap.size W w' ∧ e = .returned (.tuple #[.slice none 0 0, .agg #[.int .i64 2, .int .i64 p]])) := fun A W c h => by
          have h1 := refRead9_any A c R W (by omega) h
          rw [hp] at h1
          exact h1
        clear HRD HNO HYES HFEW HFT HSM HQ1 HQ3 HQ6 hsc hp hg1 hg3 hg6
        generalize R.length = rl at *
        have hbw1 : Below w.heap.size w (w.alloc (.cells #[.int .i64 bk, .int .i64 bp, .string bs, .slice bA bw.length bc, .slice bB bz.length bd] 32)) := (Below.refl _ _).alloc (Nat.le_refl _) _
        have hra := RowAt.new w 32 #[.int .i64 bk, .int .i64 bp, .string bs, .slice bA bw.length bc, .slice bB bz.length bd]
        have HRAw1 := Lib.hid hra
        have HBw1 := Lib.hid hbw1
        clear hra hbw1
        go_enter Try.func5, Try.ntmps5
        go_upto_region 1 with fail
        generalize (w.alloc (.cells #[.int .i64 bk, .int .i64 bp, .string bs, .slice bA bw.length bc, .slice bB bz.length bd] 32)) = w1 at *
        obtain ⟨HRA0, HRA1, HRA2, HRA3, HRA4, _, _, _, _, _⟩ := row5 HRAw1.out
        go_wp2_with (refine wpList_nodes1 (by rfl) _ rfl (.mk bk bp bs bA bc bw bB bd bz) rfl ?_; intro w2 hsl hb2)
        clear HRA0 HRA1 HRA2 HRA3 HRA4
        have HBw2 := Lib.hid (HBw1.out.trans (hb2.mono HBw1.out.size))
        have HRAw2 := Lib.hid (HRAw1.out.below hb2 HRAw1.out.lt)
        have HG2 := Lib.hid (HBIG.out _ 1 w2 HBw2.out hsl)
        clear hsl hb2 HRAw1 HBw1 HBIG
        go_wp2_with fail
        refine (HG2.out).mono ?_
        rintro e w3 ⟨rfl, hb⟩
        have HRAw3 := Lib.hid (HRAw2.out.below hb HRAw2.out.lt)
        have HBw3 := Lib.hid (HBw2.out.trans (hb.mono HBw2.out.size))
        clear hb HRAw2 HBw2
        clear HG2
        obtain ⟨HRA0, HRA1, HRA2, HRA3, HRA4, _, _, _, _, _⟩ := row5 HRAw3.out
        go_wp2_with fail
        refine (HT1.out w3 HBw3.out).mono ?_
        rintro e w4 ⟨rfl, hb⟩
        have HRAw4 := Lib.hid (HRAw3.out.below hb HRAw3.out.lt)
        have HBw4 := Lib.hid (HBw3.out.trans (hb.mono HBw3.out.size))
        clear hb HRAw3 HBw3
        clear HRA0 HRA1 HRA2 HRA3 HRA4
        go_wp2_with fail
        refine (HRO.out w4).mono ?_
        rintro e w5 ⟨hb, A, c, rfl, hown⟩
        have HRAw5 := Lib.hid (HRAw4.out.below hb HRAw4.out.lt)
        have HBw5 := Lib.hid (HBw4.out.trans (hb.mono HBw4.out.size))
        have HTKw5 : Hid (Toks w5 A R) := Sl.of_own hown
        clear hb HRAw4 HBw4
        clear hown
        have HTKw6 := Lib.hid (HTKw5.out.alloc (.cells #[.int .i64 0, .int .i64 0] 27))
        have HRAw6 := Lib.hid (HRAw5.out.alloc (.cells #[.int .i64 0, .int .i64 0] 27))
        have HBw6 := Lib.hid (HBw5.out.alloc HBw5.out.size (.cells #[.int .i64 0, .int .i64 0] 27))
        have HFAw6 := Lib.hid (RowAt.new w5 27 #[.int .i64 0, .int .i64 0])
        have HBAw6 : Hid (Below w5.heap.size w5 (w5.alloc (.cells #[.int .i64 0, .int .i64 0] 27))) := (Below.refl _ _).alloc (Nat.le_refl _) _
        clear HRAw5 HBw5
        go_upto_region 5 with fail
        generalize (w5.alloc (.cells #[.int .i64 0, .int .i64 0] 27)) = w6 at *
        clear HTKw5
        go_wp2_with fail
        refine (HP9.out A w6 c HTKw6.out).mono ?_
        rintro e w7 ⟨hb, rfl⟩
        have HRAw7 := Lib.hid (HRAw6.out.below hb HRAw6.out.lt)
        have HFAw7 := Lib.hid (HFAw6.out.below hb HFAw6.out.lt)
        have HBw7 := Lib.hid (HBw6.out.trans (hb.mono HBw6.out.size))
        clear hb HRAw6 HFAw6 HBw6
        have HRAw8 := Lib.hid (HRAw7.out.alloc (.cells #[.int .i64 2, .int .i64 p] 27))
        have HFAw8 := Lib.hid (HFAw7.out.alloc (.cells #[.int .i64 2, .int .i64 p] 27))
        have HBw8 := Lib.hid (HBw7.out.alloc HBw7.out.size (.cells #[.int .i64 2, .int .i64 p] 27))
        have HGAw8 := Lib.hid (RowAt.new w7 27 #[.int .i64 2, .int .i64 p])
        have HBAw8 : Hid (Below w7.heap.size w7 (w7.alloc (.cells #[.int .i64 2, .int .i64 p] 27))) := (Below.refl _ _).alloc (Nat.le_refl _) _
        clear HRAw7 HFAw7 HBw7
        go_upto_region 6 with fail
        generalize (w7.alloc (.cells #[.int .i64 2, .int .i64 p] 27)) = w8 at *
        obtain ⟨HRA0, HRA1, HRA2, HRA3, HRA4, _, _, _, _, _⟩ := row5 HRAw8.out
        obtain ⟨HFA0, HFA1, _, _⟩ := row2 HFAw8.out
        obtain ⟨HGA0, HGA1, _, _⟩ := row2 HGAw8.out
        go_wp2_with fail
        refine (alive10_any _).mono ?_
        rintro e wz ⟨rfl, hb⟩
        have HBz := Lib.hid (HBw8.out.trans (hb.mono HBw8.out.size))
        clear hb
        go_wp2_with fail
        go_ret
        exact ⟨rfl, HBz.out⟩
      | ok ts =>
        have HP9 : Hid (∀ A W c, Toks W A R → Calls Try.prog 24 #[.slice A R.length c] W fun e w' => Below W.heap.size W w' ∧ ∃ X d us, e = .returned (.tuple #[.slice X us.length d, .agg #[.int .i64 0, .int .i64 0]]) ∧ TR.er us = ts ∧ us.length ≤ d ∧ Trs w' w'.heap.size X us) := fun A W c h => by
          have h1 := refRead9_any A c R W (by omega) h
          rw [hp] at h1
          exact h1
        have HFU := Lib.hid (fun us h => HFT.out R ts us hsc hp h)
        have HY1 : Hid (q1 = true → ∀ e, ∃ y, constR 5242881 ts e = .ok (y, []) ∧ sm y (.mk bk bp bs bA bc bw bB bd bz) = true) := fun h => HYES.out 1 R ts hsc hp (hg1.trans h)
        have HY3 : Hid (q3 = true → ∀ e, ∃ y, labelR 5242881 ts e = .ok (y, []) ∧ sm y (.mk bk bp bs bA bc bw bB bd bz) = true) := fun h => HYES.out 3 R ts hsc hp (hg3.trans h)
        have HY6 : Hid (q6 = true → ∀ e, ∃ y, rowR 5242881 ts e = .ok (y, []) ∧ sm y (.mk bk bp bs bA bc bw bB bd bz) = true) := fun h => HYES.out 6 R ts hsc hp (hg6.trans h)
        clear HRD HNO HYES HFEW HFT hsc hp hg1 hg3 hg6
        generalize R.length = rl at *
        have hbw1 : Below w.heap.size w (w.alloc (.cells #[.int .i64 bk, .int .i64 bp, .string bs, .slice bA bw.length bc, .slice bB bz.length bd] 32)) := (Below.refl _ _).alloc (Nat.le_refl _) _
        have hra := RowAt.new w 32 #[.int .i64 bk, .int .i64 bp, .string bs, .slice bA bw.length bc, .slice bB bz.length bd]
        have HRAw1 := Lib.hid hra
        have HBw1 := Lib.hid hbw1
        clear hra hbw1
        go_enter Try.func5, Try.ntmps5
        go_upto_region 1 with fail
        generalize (w.alloc (.cells #[.int .i64 bk, .int .i64 bp, .string bs, .slice bA bw.length bc, .slice bB bz.length bd] 32)) = w1 at *
        obtain ⟨HRA0, HRA1, HRA2, HRA3, HRA4, _, _, _, _, _⟩ := row5 HRAw1.out
        go_wp2_with (refine wpList_nodes1 (by rfl) _ rfl (.mk bk bp bs bA bc bw bB bd bz) rfl ?_; intro w2 hsl hb2)
        clear HRA0 HRA1 HRA2 HRA3 HRA4
        have HBw2 := Lib.hid (HBw1.out.trans (hb2.mono HBw1.out.size))
        have HRAw2 := Lib.hid (HRAw1.out.below hb2 HRAw1.out.lt)
        have HG2 := Lib.hid (HBIG.out _ 1 w2 HBw2.out hsl)
        clear hsl hb2 HRAw1 HBw1 HBIG
        go_wp2_with fail
        refine (HG2.out).mono ?_
        rintro e w3 ⟨rfl, hb⟩
        have HRAw3 := Lib.hid (HRAw2.out.below hb HRAw2.out.lt)
        have HBw3 := Lib.hid (HBw2.out.trans (hb.mono HBw2.out.size))
        clear hb HRAw2 HBw2
        clear HG2
        obtain ⟨HRA0, HRA1, HRA2, HRA3, HRA4, _, _, _, _, _⟩ := row5 HRAw3.out
        go_wp2_with fail
        refine (HT1.out w3 HBw3.out).mono ?_
        rintro e w4 ⟨rfl, hb⟩
        have HRAw4 := Lib.hid (HRAw3.out.below hb HRAw3.out.lt)
        have HBw4 := Lib.hid (HBw3.out.trans (hb.mono HBw3.out.size))
        clear hb HRAw3 HBw3
        clear HRA0 HRA1 HRA2 HRA3 HRA4
        go_wp2_with fail
        refine (HRO.out w4).mono ?_
        rintro e w5 ⟨hb, A, c, rfl, hown⟩
        have HRAw5 := Lib.hid (HRAw4.out.below hb HRAw4.out.lt)
        have HBw5 := Lib.hid (HBw4.out.trans (hb.mono HBw4.out.size))
        have HTKw5 : Hid (Toks w5 A R) := Sl.of_own hown
        clear hb HRAw4 HBw4
        clear hown
        have HTKw6 := Lib.hid (HTKw5.out.alloc (.cells #[.int .i64 0, .int .i64 0] 27))
        have HRAw6 := Lib.hid (HRAw5.out.alloc (.cells #[.int .i64 0, .int .i64 0] 27))
        have HBw6 := Lib.hid (HBw5.out.alloc HBw5.out.size (.cells #[.int .i64 0, .int .i64 0] 27))
        have HFAw6 := Lib.hid (RowAt.new w5 27 #[.int .i64 0, .int .i64 0])
        have HBAw6 : Hid (Below w5.heap.size w5 (w5.alloc (.cells #[.int .i64 0, .int .i64 0] 27))) := (Below.refl _ _).alloc (Nat.le_refl _) _
        clear HRAw5 HBw5
        go_upto_region 5 with fail
        generalize (w5.alloc (.cells #[.int .i64 0, .int .i64 0] 27)) = w6 at *
        clear HTKw5
        go_wp2_with fail
        refine (HP9.out A w6 c HTKw6.out).mono ?_
        rintro e w7 ⟨hb, X, dd, us, rfl, hus, hdd, htr⟩
        have HRAw7 := Lib.hid (HRAw6.out.below hb HRAw6.out.lt)
        have HFAw7 := Lib.hid (HFAw6.out.below hb HFAw6.out.lt)
        have HBw7 := Lib.hid (HBw6.out.trans (hb.mono HBw6.out.size))
        clear hb HRAw6 HFAw6 HBw6
        have hfew := HFU.out us hus
        have hlen := length_nodes us
        have hsm : us.length ≤ 2199023255552 ∧ ∀ x ∈ nodes us, x.ks.length ≤ 2199023255552 := ⟨by omega, fun x hx => by have := kids_few us x hx; omega⟩
        have hN0 : (nodes (rest us 0)).length ≤ 5242880 := by rw [rest_zero]; omega
        have HTR := Lib.hid (fun W (h : Below w7.heap.size w7 W) => (htr.below h).mono h.size)
        have HK1 : Hid (q1 = true → ∀ W, Below w7.heap.size w7 W → Calls Try.prog 25 #[.slice X us.length dd, .int .i64 0, .int .i64 T.size] W fun e' w' => ∃ z, e' = .returned (.tuple #[.agg (nv z), .int .i64 (us.length : Nat), .agg #[.int .i64 0, .int .i64 0]]) ∧ DeepN w' (fun k => W.heap.size ≤ k) [z] ∧ cnt [z] = cnt [(.mk bk bp bs bA bc bw bB bd bz)] ∧ sm z (.mk bk bp bs bA bc bw bB bd bz) = true ∧ Below W.heap.size W w') := fun hq W h =>
          call_back (ei_const 5242881) hus (HY1.out hq T.size) (const_call 5242880 (by omega) X dd us 0 T.size W (HTR.out W h) hsm hN0)
        have HK3 : Hid (q3 = true → ∀ W, Below w7.heap.size w7 W → Calls Try.prog 26 #[.slice X us.length dd, .int .i64 0, .int .i64 T.size] W fun e' w' => ∃ z, e' = .returned (.tuple #[.agg (nv z), .int .i64 (us.length : Nat), .agg #[.int .i64 0, .int .i64 0]]) ∧ DeepN w' (fun k => W.heap.size ≤ k) [z] ∧ cnt [z] = cnt [(.mk bk bp bs bA bc bw bB bd bz)] ∧ sm z (.mk bk bp bs bA bc bw bB bd bz) = true ∧ Below W.heap.size W w') := fun hq W h =>
          call_back (ei_label 5242881) hus (HY3.out hq T.size) (label_call 5242880 (by omega) X dd us 0 T.size W (HTR.out W h) hsm hN0)
        have HK6 : Hid (q6 = true → ∀ W, Below w7.heap.size w7 W → Calls Try.prog 27 #[.slice X us.length dd, .int .i64 0, .int .i64 T.size] W fun e' w' => ∃ z, e' = .returned (.tuple #[.agg (nv z), .int .i64 (us.length : Nat), .agg #[.int .i64 0, .int .i64 0]]) ∧ DeepN w' (fun k => W.heap.size ≤ k) [z] ∧ cnt [z] = cnt [(.mk bk bp bs bA bc bw bB bd bz)] ∧ sm z (.mk bk bp bs bA bc bw bB bd bz) = true ∧ Below W.heap.size W w') := fun hq W h =>
          call_back (ei_row 5242881) hus (HY6.out hq T.size) (row_call 5242880 (by omega) X dd us 0 T.size W (HTR.out W h) hsm hN0)
        clear hfew hlen hsm hN0 HTR hus htr
        generalize us.length = nn at *
        have HBB7 : Hid (Below w7.heap.size w7 (w7.alloc (.cells #[.int .i64 0, .int .i64 0] 27))) := (Below.refl _ _).alloc (Nat.le_refl _) _
        have HRAw8 := Lib.hid (HRAw7.out.alloc (.cells #[.int .i64 0, .int .i64 0] 27))
        have HFAw8 := Lib.hid (HFAw7.out.alloc (.cells #[.int .i64 0, .int .i64 0] 27))
        have HBw8 := Lib.hid (HBw7.out.alloc HBw7.out.size (.cells #[.int .i64 0, .int .i64 0] 27))
        have HGAw8 := Lib.hid (RowAt.new w7 27 #[.int .i64 0, .int .i64 0])
        have HBAw8 : Hid (Below w7.heap.size w7 (w7.alloc (.cells #[.int .i64 0, .int .i64 0] 27))) := (Below.refl _ _).alloc (Nat.le_refl _) _
        clear HRAw7 HFAw7 HBw7
        go_upto_region 6 with fail
        generalize (w7.alloc (.cells #[.int .i64 0, .int .i64 0] 27)) = w8 at *
        have HSN : Hid (∀ W, Below w8.heap.size w8 W → Below w7.heap.size w7 W) := fun W h => HBB7.out.trans (h.mono HBB7.out.size)
        obtain ⟨f0, f1, _, _⟩ := row2 HFAw8.out
        obtain ⟨g0, g1, _, _⟩ := row2 HGAw8.out
        go_upto_region 8 with fail
        clear f0 f1 g0 g1 HFAw8 HGAw8 HBB7 HBAw8 HBAw6 HTKw6
        cases q1 <;> cases q3 <;> cases q6
        · skip
          clear HK1
          clear HK3
          clear HK6
          have HDw8 : Hid (Below w8.heap.size w8 w8) := Below.refl _ _
          obtain ⟨HRA0, HRA1, HRA2, HRA3, HRA4, _, _, _, _, _⟩ := row5 HRAw8.out
          go_wp2_with fail
          refine (HQ1.out w8 HBw8.out).mono ?_
          rintro e u1a ⟨rfl, hb⟩
          have HRAu1a := Lib.hid (HRAw8.out.below hb HRAw8.out.lt)
          have HBu1a := Lib.hid (HBw8.out.trans (hb.mono HBw8.out.size))
          have HDu1a := Lib.hid (HDw8.out.trans (hb.mono HDw8.out.size))
          clear hb HRAw8 HBw8 HDw8
          clear HRA0 HRA1 HRA2 HRA3 HRA4
          obtain ⟨HRA0, HRA1, HRA2, HRA3, HRA4, _, _, _, _, _⟩ := row5 HRAu1a.out
          go_wp2_with fail
          refine (HQ3.out u1a HBu1a.out).mono ?_
          rintro e u3a ⟨rfl, hb⟩
          have HRAu3a := Lib.hid (HRAu1a.out.below hb HRAu1a.out.lt)
          have HBu3a := Lib.hid (HBu1a.out.trans (hb.mono HBu1a.out.size))
          have HDu3a := Lib.hid (HDu1a.out.trans (hb.mono HDu1a.out.size))
          clear hb HRAu1a HBu1a HDu1a
          clear HRA0 HRA1 HRA2 HRA3 HRA4
          obtain ⟨HRA0, HRA1, HRA2, HRA3, HRA4, _, _, _, _, _⟩ := row5 HRAu3a.out
          go_wp2_with fail
          refine (HQ6.out u3a HBu3a.out).mono ?_
          rintro e u6a ⟨rfl, hb⟩
          have HRAu6a := Lib.hid (HRAu3a.out.below hb HRAu3a.out.lt)
          have HBu6a := Lib.hid (HBu3a.out.trans (hb.mono HBu3a.out.size))
          have HDu6a := Lib.hid (HDu3a.out.trans (hb.mono HDu3a.out.size))
          clear hb HRAu3a HBu3a HDu3a
          clear HRA0 HRA1 HRA2 HRA3 HRA4
          go_wp2_with fail
          refine (alive10_any _).mono ?_
          rintro e wz ⟨rfl, hb⟩
          have HBz := Lib.hid (HBu6a.out.trans (hb.mono HBu6a.out.size))
          clear hb
          go_wp2_with fail
          go_ret
          exact ⟨rfl, HBz.out⟩
        · skip
          clear HK1
          clear HK3
          have HKK6 := Lib.hid (HK6.out rfl)
          clear HK6
          have HDw8 : Hid (Below w8.heap.size w8 w8) := Below.refl _ _
          obtain ⟨HRA0, HRA1, HRA2, HRA3, HRA4, _, _, _, _, _⟩ := row5 HRAw8.out
          go_wp2_with fail
          refine (HQ1.out w8 HBw8.out).mono ?_
          rintro e u1a ⟨rfl, hb⟩
          have HRAu1a := Lib.hid (HRAw8.out.below hb HRAw8.out.lt)
          have HBu1a := Lib.hid (HBw8.out.trans (hb.mono HBw8.out.size))
          have HDu1a := Lib.hid (HDw8.out.trans (hb.mono HDw8.out.size))
          clear hb HRAw8 HBw8 HDw8
          clear HRA0 HRA1 HRA2 HRA3 HRA4
          obtain ⟨HRA0, HRA1, HRA2, HRA3, HRA4, _, _, _, _, _⟩ := row5 HRAu1a.out
          go_wp2_with fail
          refine (HQ3.out u1a HBu1a.out).mono ?_
          rintro e u3a ⟨rfl, hb⟩
          have HRAu3a := Lib.hid (HRAu1a.out.below hb HRAu1a.out.lt)
          have HBu3a := Lib.hid (HBu1a.out.trans (hb.mono HBu1a.out.size))
          have HDu3a := Lib.hid (HDu1a.out.trans (hb.mono HDu1a.out.size))
          clear hb HRAu1a HBu1a HDu1a
          clear HRA0 HRA1 HRA2 HRA3 HRA4
          obtain ⟨HRA0, HRA1, HRA2, HRA3, HRA4, _, _, _, _, _⟩ := row5 HRAu3a.out
          go_wp2_with fail
          refine (HQ6.out u3a HBu3a.out).mono ?_
          rintro e u6a ⟨rfl, hb⟩
          have HRAu6a := Lib.hid (HRAu3a.out.below hb HRAu3a.out.lt)
          have HBu6a := Lib.hid (HBu3a.out.trans (hb.mono HBu3a.out.size))
          have HDu6a := Lib.hid (HDu3a.out.trans (hb.mono HDu3a.out.size))
          clear hb HRAu3a HBu3a HDu3a
          clear HRA0 HRA1 HRA2 HRA3 HRA4
          have hk := HKK6.out u6a (HSN.out _ HDu6a.out)
          go_wp2_with fail
          refine hk.mono ?_
          rintro e u6b ⟨⟨xk, xp, xs, xA, xc, xw, xB, xd, xz⟩, rfl, hdx, hcx, hsx, hb⟩
          have HRAu6b := Lib.hid (HRAu6a.out.below hb HRAu6a.out.lt)
          have HBu6b := Lib.hid (HBu6a.out.trans (hb.mono HBu6a.out.size))
          have HDu6b := Lib.hid (HDu6a.out.trans (hb.mono HDu6a.out.size))
          have HSX := Lib.hid (fun W (h : Below u6b.heap.size u6b W) (h2 : Below w.heap.size w W) => HSM.out (.mk xk xp xs xA xc xw xB xd xz) W hcx hsx ((hdx.nods.below h).mono h.size) h2)
          clear hb hdx hcx hsx hk HRAu6a HBu6a HDu6a
          unfold nv at HSX ⊢
          simp only [Nd.k, Nd.p, Nd.s, Nd.A, Nd.c, Nd.ws, Nd.B, Nd.d, Nd.ks] at HSX ⊢
          have hbx : Below u6b.heap.size u6b ((u6b.alloc (.cells #[.int .i64 xk, .int .i64 xp, .string xs, .slice xA xw.length xc, .slice xB xz.length xd] 32)).alloc (.cells #[.int .i64 0, .int .i64 0] 27)) := ((Below.refl _ _).alloc (Nat.le_refl _) _).alloc (by simp) _
          have HXAu6c := Lib.hid ((RowAt.new u6b 32 #[.int .i64 xk, .int .i64 xp, .string xs, .slice xA xw.length xc, .slice xB xz.length xd]).alloc (.cells #[.int .i64 0, .int .i64 0] 27))
          have hf3 := RowAt.new (u6b.alloc (.cells #[.int .i64 xk, .int .i64 xp, .string xs, .slice xA xw.length xc, .slice xB xz.length xd] 32)) 27 #[.int .i64 0, .int .i64 0]
          rw [show (u6b.alloc (.cells #[.int .i64 xk, .int .i64 xp, .string xs, .slice xA xw.length xc, .slice xB xz.length xd] 32)).heap.size = u6b.heap.size + 1 by simp] at hf3
          have HXFu6c := Lib.hid hf3
          have HRAu6c := Lib.hid (HRAu6b.out.below hbx HRAu6b.out.lt)
          have HBu6c := Lib.hid (HBu6b.out.trans (hbx.mono HBu6b.out.size))
          have HDu6c := Lib.hid (HDu6b.out.trans (hbx.mono HDu6b.out.size))
          have HSY := Lib.hid (HSX.out _ hbx HBu6c.out)
          clear hbx hf3 HSX HRAu6b HBu6b HDu6b
          go_upto_region 18 with fail
          generalize ((u6b.alloc (.cells #[.int .i64 xk, .int .i64 xp, .string xs, .slice xA xw.length xc, .slice xB xz.length xd] 32)).alloc (.cells #[.int .i64 0, .int .i64 0] 27)) = u6c at *
          obtain ⟨HRA0, HRA1, HRA2, HRA3, HRA4, _, _, _, _, _⟩ := row5 HRAu6c.out
          obtain ⟨HXA0, HXA1, HXA2, HXA3, HXA4, _, _, _, _, _⟩ := row5 HXAu6c.out
          obtain ⟨HXF0, HXF1, _, _⟩ := row2 HXFu6c.out
          go_wp2_with fail
          refine (HSY.out).mono ?_
          rintro e u6d ⟨rfl, hb⟩
          have HRAu6d := Lib.hid (HRAu6c.out.below hb HRAu6c.out.lt)
          have HBu6d := Lib.hid (HBu6c.out.trans (hb.mono HBu6c.out.size))
          have HDu6d := Lib.hid (HDu6c.out.trans (hb.mono HDu6c.out.size))
          clear hb HRAu6c HBu6c HDu6c
          clear HRA0 HRA1 HRA2 HRA3 HRA4 HXA0 HXA1 HXA2 HXA3 HXA4 HXF0 HXF1
          clear HXAu6c HXFu6c
          go_wp2_with fail
          refine (alive10_any _).mono ?_
          rintro e wz ⟨rfl, hb⟩
          have HBz := Lib.hid (HBu6d.out.trans (hb.mono HBu6d.out.size))
          clear hb
          go_wp2_with fail
          go_ret
          exact ⟨rfl, HBz.out⟩
        · skip
          clear HK1
          have HKK3 := Lib.hid (HK3.out rfl)
          clear HK3
          clear HK6
          have HDw8 : Hid (Below w8.heap.size w8 w8) := Below.refl _ _
          obtain ⟨HRA0, HRA1, HRA2, HRA3, HRA4, _, _, _, _, _⟩ := row5 HRAw8.out
          go_wp2_with fail
          refine (HQ1.out w8 HBw8.out).mono ?_
          rintro e u1a ⟨rfl, hb⟩
          have HRAu1a := Lib.hid (HRAw8.out.below hb HRAw8.out.lt)
          have HBu1a := Lib.hid (HBw8.out.trans (hb.mono HBw8.out.size))
          have HDu1a := Lib.hid (HDw8.out.trans (hb.mono HDw8.out.size))
          clear hb HRAw8 HBw8 HDw8
          clear HRA0 HRA1 HRA2 HRA3 HRA4
          obtain ⟨HRA0, HRA1, HRA2, HRA3, HRA4, _, _, _, _, _⟩ := row5 HRAu1a.out
          go_wp2_with fail
          refine (HQ3.out u1a HBu1a.out).mono ?_
          rintro e u3a ⟨rfl, hb⟩
          have HRAu3a := Lib.hid (HRAu1a.out.below hb HRAu1a.out.lt)
          have HBu3a := Lib.hid (HBu1a.out.trans (hb.mono HBu1a.out.size))
          have HDu3a := Lib.hid (HDu1a.out.trans (hb.mono HDu1a.out.size))
          clear hb HRAu1a HBu1a HDu1a
          clear HRA0 HRA1 HRA2 HRA3 HRA4
          have hk := HKK3.out u3a (HSN.out _ HDu3a.out)
          go_wp2_with fail
          refine hk.mono ?_
          rintro e u3b ⟨⟨xk, xp, xs, xA, xc, xw, xB, xd, xz⟩, rfl, hdx, hcx, hsx, hb⟩
          have HRAu3b := Lib.hid (HRAu3a.out.below hb HRAu3a.out.lt)
          have HBu3b := Lib.hid (HBu3a.out.trans (hb.mono HBu3a.out.size))
          have HDu3b := Lib.hid (HDu3a.out.trans (hb.mono HDu3a.out.size))
          have HSX := Lib.hid (fun W (h : Below u3b.heap.size u3b W) (h2 : Below w.heap.size w W) => HSM.out (.mk xk xp xs xA xc xw xB xd xz) W hcx hsx ((hdx.nods.below h).mono h.size) h2)
          clear hb hdx hcx hsx hk HRAu3a HBu3a HDu3a
          unfold nv at HSX ⊢
          simp only [Nd.k, Nd.p, Nd.s, Nd.A, Nd.c, Nd.ws, Nd.B, Nd.d, Nd.ks] at HSX ⊢
          have hbx : Below u3b.heap.size u3b ((u3b.alloc (.cells #[.int .i64 xk, .int .i64 xp, .string xs, .slice xA xw.length xc, .slice xB xz.length xd] 32)).alloc (.cells #[.int .i64 0, .int .i64 0] 27)) := ((Below.refl _ _).alloc (Nat.le_refl _) _).alloc (by simp) _
          have HXAu3c := Lib.hid ((RowAt.new u3b 32 #[.int .i64 xk, .int .i64 xp, .string xs, .slice xA xw.length xc, .slice xB xz.length xd]).alloc (.cells #[.int .i64 0, .int .i64 0] 27))
          have hf3 := RowAt.new (u3b.alloc (.cells #[.int .i64 xk, .int .i64 xp, .string xs, .slice xA xw.length xc, .slice xB xz.length xd] 32)) 27 #[.int .i64 0, .int .i64 0]
          rw [show (u3b.alloc (.cells #[.int .i64 xk, .int .i64 xp, .string xs, .slice xA xw.length xc, .slice xB xz.length xd] 32)).heap.size = u3b.heap.size + 1 by simp] at hf3
          have HXFu3c := Lib.hid hf3
          have HRAu3c := Lib.hid (HRAu3b.out.below hbx HRAu3b.out.lt)
          have HBu3c := Lib.hid (HBu3b.out.trans (hbx.mono HBu3b.out.size))
          have HDu3c := Lib.hid (HDu3b.out.trans (hbx.mono HDu3b.out.size))
          have HSY := Lib.hid (HSX.out _ hbx HBu3c.out)
          clear hbx hf3 HSX HRAu3b HBu3b HDu3b
          go_upto_region 14 with fail
          generalize ((u3b.alloc (.cells #[.int .i64 xk, .int .i64 xp, .string xs, .slice xA xw.length xc, .slice xB xz.length xd] 32)).alloc (.cells #[.int .i64 0, .int .i64 0] 27)) = u3c at *
          obtain ⟨HRA0, HRA1, HRA2, HRA3, HRA4, _, _, _, _, _⟩ := row5 HRAu3c.out
          obtain ⟨HXA0, HXA1, HXA2, HXA3, HXA4, _, _, _, _, _⟩ := row5 HXAu3c.out
          obtain ⟨HXF0, HXF1, _, _⟩ := row2 HXFu3c.out
          go_wp2_with fail
          refine (HSY.out).mono ?_
          rintro e u3d ⟨rfl, hb⟩
          have HRAu3d := Lib.hid (HRAu3c.out.below hb HRAu3c.out.lt)
          have HBu3d := Lib.hid (HBu3c.out.trans (hb.mono HBu3c.out.size))
          have HDu3d := Lib.hid (HDu3c.out.trans (hb.mono HDu3c.out.size))
          clear hb HRAu3c HBu3c HDu3c
          clear HRA0 HRA1 HRA2 HRA3 HRA4 HXA0 HXA1 HXA2 HXA3 HXA4 HXF0 HXF1
          clear HXAu3c HXFu3c
          obtain ⟨HRA0, HRA1, HRA2, HRA3, HRA4, _, _, _, _, _⟩ := row5 HRAu3d.out
          go_wp2_with fail
          refine (HQ6.out u3d HBu3d.out).mono ?_
          rintro e u6a ⟨rfl, hb⟩
          have HRAu6a := Lib.hid (HRAu3d.out.below hb HRAu3d.out.lt)
          have HBu6a := Lib.hid (HBu3d.out.trans (hb.mono HBu3d.out.size))
          have HDu6a := Lib.hid (HDu3d.out.trans (hb.mono HDu3d.out.size))
          clear hb HRAu3d HBu3d HDu3d
          clear HRA0 HRA1 HRA2 HRA3 HRA4
          go_wp2_with fail
          refine (alive10_any _).mono ?_
          rintro e wz ⟨rfl, hb⟩
          have HBz := Lib.hid (HBu6a.out.trans (hb.mono HBu6a.out.size))
          clear hb
          go_wp2_with fail
          go_ret
          exact ⟨rfl, HBz.out⟩
        · skip
          clear HK1
          have HKK3 := Lib.hid (HK3.out rfl)
          clear HK3
          have HKK6 := Lib.hid (HK6.out rfl)
          clear HK6
          have HDw8 : Hid (Below w8.heap.size w8 w8) := Below.refl _ _
          obtain ⟨HRA0, HRA1, HRA2, HRA3, HRA4, _, _, _, _, _⟩ := row5 HRAw8.out
          go_wp2_with fail
          refine (HQ1.out w8 HBw8.out).mono ?_
          rintro e u1a ⟨rfl, hb⟩
          have HRAu1a := Lib.hid (HRAw8.out.below hb HRAw8.out.lt)
          have HBu1a := Lib.hid (HBw8.out.trans (hb.mono HBw8.out.size))
          have HDu1a := Lib.hid (HDw8.out.trans (hb.mono HDw8.out.size))
          clear hb HRAw8 HBw8 HDw8
          clear HRA0 HRA1 HRA2 HRA3 HRA4
          obtain ⟨HRA0, HRA1, HRA2, HRA3, HRA4, _, _, _, _, _⟩ := row5 HRAu1a.out
          go_wp2_with fail
          refine (HQ3.out u1a HBu1a.out).mono ?_
          rintro e u3a ⟨rfl, hb⟩
          have HRAu3a := Lib.hid (HRAu1a.out.below hb HRAu1a.out.lt)
          have HBu3a := Lib.hid (HBu1a.out.trans (hb.mono HBu1a.out.size))
          have HDu3a := Lib.hid (HDu1a.out.trans (hb.mono HDu1a.out.size))
          clear hb HRAu1a HBu1a HDu1a
          clear HRA0 HRA1 HRA2 HRA3 HRA4
          have hk := HKK3.out u3a (HSN.out _ HDu3a.out)
          go_wp2_with fail
          refine hk.mono ?_
          rintro e u3b ⟨⟨xk, xp, xs, xA, xc, xw, xB, xd, xz⟩, rfl, hdx, hcx, hsx, hb⟩
          have HRAu3b := Lib.hid (HRAu3a.out.below hb HRAu3a.out.lt)
          have HBu3b := Lib.hid (HBu3a.out.trans (hb.mono HBu3a.out.size))
          have HDu3b := Lib.hid (HDu3a.out.trans (hb.mono HDu3a.out.size))
          have HSX := Lib.hid (fun W (h : Below u3b.heap.size u3b W) (h2 : Below w.heap.size w W) => HSM.out (.mk xk xp xs xA xc xw xB xd xz) W hcx hsx ((hdx.nods.below h).mono h.size) h2)
          clear hb hdx hcx hsx hk HRAu3a HBu3a HDu3a
          unfold nv at HSX ⊢
          simp only [Nd.k, Nd.p, Nd.s, Nd.A, Nd.c, Nd.ws, Nd.B, Nd.d, Nd.ks] at HSX ⊢
          have hbx : Below u3b.heap.size u3b ((u3b.alloc (.cells #[.int .i64 xk, .int .i64 xp, .string xs, .slice xA xw.length xc, .slice xB xz.length xd] 32)).alloc (.cells #[.int .i64 0, .int .i64 0] 27)) := ((Below.refl _ _).alloc (Nat.le_refl _) _).alloc (by simp) _
          have HXAu3c := Lib.hid ((RowAt.new u3b 32 #[.int .i64 xk, .int .i64 xp, .string xs, .slice xA xw.length xc, .slice xB xz.length xd]).alloc (.cells #[.int .i64 0, .int .i64 0] 27))
          have hf3 := RowAt.new (u3b.alloc (.cells #[.int .i64 xk, .int .i64 xp, .string xs, .slice xA xw.length xc, .slice xB xz.length xd] 32)) 27 #[.int .i64 0, .int .i64 0]
          rw [show (u3b.alloc (.cells #[.int .i64 xk, .int .i64 xp, .string xs, .slice xA xw.length xc, .slice xB xz.length xd] 32)).heap.size = u3b.heap.size + 1 by simp] at hf3
          have HXFu3c := Lib.hid hf3
          have HRAu3c := Lib.hid (HRAu3b.out.below hbx HRAu3b.out.lt)
          have HBu3c := Lib.hid (HBu3b.out.trans (hbx.mono HBu3b.out.size))
          have HDu3c := Lib.hid (HDu3b.out.trans (hbx.mono HDu3b.out.size))
          have HSY := Lib.hid (HSX.out _ hbx HBu3c.out)
          clear hbx hf3 HSX HRAu3b HBu3b HDu3b
          go_upto_region 14 with fail
          generalize ((u3b.alloc (.cells #[.int .i64 xk, .int .i64 xp, .string xs, .slice xA xw.length xc, .slice xB xz.length xd] 32)).alloc (.cells #[.int .i64 0, .int .i64 0] 27)) = u3c at *
          obtain ⟨HRA0, HRA1, HRA2, HRA3, HRA4, _, _, _, _, _⟩ := row5 HRAu3c.out
          obtain ⟨HXA0, HXA1, HXA2, HXA3, HXA4, _, _, _, _, _⟩ := row5 HXAu3c.out
          obtain ⟨HXF0, HXF1, _, _⟩ := row2 HXFu3c.out
          go_wp2_with fail
          refine (HSY.out).mono ?_
          rintro e u3d ⟨rfl, hb⟩
          have HRAu3d := Lib.hid (HRAu3c.out.below hb HRAu3c.out.lt)
          have HBu3d := Lib.hid (HBu3c.out.trans (hb.mono HBu3c.out.size))
          have HDu3d := Lib.hid (HDu3c.out.trans (hb.mono HDu3c.out.size))
          clear hb HRAu3c HBu3c HDu3c
          clear HRA0 HRA1 HRA2 HRA3 HRA4 HXA0 HXA1 HXA2 HXA3 HXA4 HXF0 HXF1
          clear HXAu3c HXFu3c
          obtain ⟨HRA0, HRA1, HRA2, HRA3, HRA4, _, _, _, _, _⟩ := row5 HRAu3d.out
          go_wp2_with fail
          refine (HQ6.out u3d HBu3d.out).mono ?_
          rintro e u6a ⟨rfl, hb⟩
          have HRAu6a := Lib.hid (HRAu3d.out.below hb HRAu3d.out.lt)
          have HBu6a := Lib.hid (HBu3d.out.trans (hb.mono HBu3d.out.size))
          have HDu6a := Lib.hid (HDu3d.out.trans (hb.mono HDu3d.out.size))
          clear hb HRAu3d HBu3d HDu3d
          clear HRA0 HRA1 HRA2 HRA3 HRA4
          have hk := HKK6.out u6a (HSN.out _ HDu6a.out)
          go_wp2_with fail
          refine hk.mono ?_
          rintro e u6b ⟨⟨xk, xp, xs, xA, xc, xw, xB, xd, xz⟩, rfl, hdx, hcx, hsx, hb⟩
          have HRAu6b := Lib.hid (HRAu6a.out.below hb HRAu6a.out.lt)
          have HBu6b := Lib.hid (HBu6a.out.trans (hb.mono HBu6a.out.size))
          have HDu6b := Lib.hid (HDu6a.out.trans (hb.mono HDu6a.out.size))
          have HSX := Lib.hid (fun W (h : Below u6b.heap.size u6b W) (h2 : Below w.heap.size w W) => HSM.out (.mk xk xp xs xA xc xw xB xd xz) W hcx hsx ((hdx.nods.below h).mono h.size) h2)
          clear hb hdx hcx hsx hk HRAu6a HBu6a HDu6a
          unfold nv at HSX ⊢
          simp only [Nd.k, Nd.p, Nd.s, Nd.A, Nd.c, Nd.ws, Nd.B, Nd.d, Nd.ks] at HSX ⊢
          have hbx : Below u6b.heap.size u6b ((u6b.alloc (.cells #[.int .i64 xk, .int .i64 xp, .string xs, .slice xA xw.length xc, .slice xB xz.length xd] 32)).alloc (.cells #[.int .i64 0, .int .i64 0] 27)) := ((Below.refl _ _).alloc (Nat.le_refl _) _).alloc (by simp) _
          have HXAu6c := Lib.hid ((RowAt.new u6b 32 #[.int .i64 xk, .int .i64 xp, .string xs, .slice xA xw.length xc, .slice xB xz.length xd]).alloc (.cells #[.int .i64 0, .int .i64 0] 27))
          have hf3 := RowAt.new (u6b.alloc (.cells #[.int .i64 xk, .int .i64 xp, .string xs, .slice xA xw.length xc, .slice xB xz.length xd] 32)) 27 #[.int .i64 0, .int .i64 0]
          rw [show (u6b.alloc (.cells #[.int .i64 xk, .int .i64 xp, .string xs, .slice xA xw.length xc, .slice xB xz.length xd] 32)).heap.size = u6b.heap.size + 1 by simp] at hf3
          have HXFu6c := Lib.hid hf3
          have HRAu6c := Lib.hid (HRAu6b.out.below hbx HRAu6b.out.lt)
          have HBu6c := Lib.hid (HBu6b.out.trans (hbx.mono HBu6b.out.size))
          have HDu6c := Lib.hid (HDu6b.out.trans (hbx.mono HDu6b.out.size))
          have HSY := Lib.hid (HSX.out _ hbx HBu6c.out)
          clear hbx hf3 HSX HRAu6b HBu6b HDu6b
          go_upto_region 18 with fail
          generalize ((u6b.alloc (.cells #[.int .i64 xk, .int .i64 xp, .string xs, .slice xA xw.length xc, .slice xB xz.length xd] 32)).alloc (.cells #[.int .i64 0, .int .i64 0] 27)) = u6c at *
          obtain ⟨HRA0, HRA1, HRA2, HRA3, HRA4, _, _, _, _, _⟩ := row5 HRAu6c.out
          obtain ⟨HXA0, HXA1, HXA2, HXA3, HXA4, _, _, _, _, _⟩ := row5 HXAu6c.out
          obtain ⟨HXF0, HXF1, _, _⟩ := row2 HXFu6c.out
          go_wp2_with fail
          refine (HSY.out).mono ?_
          rintro e u6d ⟨rfl, hb⟩
          have HRAu6d := Lib.hid (HRAu6c.out.below hb HRAu6c.out.lt)
          have HBu6d := Lib.hid (HBu6c.out.trans (hb.mono HBu6c.out.size))
          have HDu6d := Lib.hid (HDu6c.out.trans (hb.mono HDu6c.out.size))
          clear hb HRAu6c HBu6c HDu6c
          clear HRA0 HRA1 HRA2 HRA3 HRA4 HXA0 HXA1 HXA2 HXA3 HXA4 HXF0 HXF1
          clear HXAu6c HXFu6c
          go_wp2_with fail
          refine (alive10_any _).mono ?_
          rintro e wz ⟨rfl, hb⟩
          have HBz := Lib.hid (HBu6d.out.trans (hb.mono HBu6d.out.size))
          clear hb
          go_wp2_with fail
          go_ret
          exact ⟨rfl, HBz.out⟩
        · skip
          have HKK1 := Lib.hid (HK1.out rfl)
          clear HK1
          clear HK3
          clear HK6
          have HDw8 : Hid (Below w8.heap.size w8 w8) := Below.refl _ _
          obtain ⟨HRA0, HRA1, HRA2, HRA3, HRA4, _, _, _, _, _⟩ := row5 HRAw8.out
          go_wp2_with fail
          refine (HQ1.out w8 HBw8.out).mono ?_
          rintro e u1a ⟨rfl, hb⟩
          have HRAu1a := Lib.hid (HRAw8.out.below hb HRAw8.out.lt)
          have HBu1a := Lib.hid (HBw8.out.trans (hb.mono HBw8.out.size))
          have HDu1a := Lib.hid (HDw8.out.trans (hb.mono HDw8.out.size))
          clear hb HRAw8 HBw8 HDw8
          clear HRA0 HRA1 HRA2 HRA3 HRA4
          have hk := HKK1.out u1a (HSN.out _ HDu1a.out)
          go_wp2_with fail
          refine hk.mono ?_
          rintro e u1b ⟨⟨xk, xp, xs, xA, xc, xw, xB, xd, xz⟩, rfl, hdx, hcx, hsx, hb⟩
          have HRAu1b := Lib.hid (HRAu1a.out.below hb HRAu1a.out.lt)
          have HBu1b := Lib.hid (HBu1a.out.trans (hb.mono HBu1a.out.size))
          have HDu1b := Lib.hid (HDu1a.out.trans (hb.mono HDu1a.out.size))
          have HSX := Lib.hid (fun W (h : Below u1b.heap.size u1b W) (h2 : Below w.heap.size w W) => HSM.out (.mk xk xp xs xA xc xw xB xd xz) W hcx hsx ((hdx.nods.below h).mono h.size) h2)
          clear hb hdx hcx hsx hk HRAu1a HBu1a HDu1a
          unfold nv at HSX ⊢
          simp only [Nd.k, Nd.p, Nd.s, Nd.A, Nd.c, Nd.ws, Nd.B, Nd.d, Nd.ks] at HSX ⊢
          have hbx : Below u1b.heap.size u1b ((u1b.alloc (.cells #[.int .i64 xk, .int .i64 xp, .string xs, .slice xA xw.length xc, .slice xB xz.length xd] 32)).alloc (.cells #[.int .i64 0, .int .i64 0] 27)) := ((Below.refl _ _).alloc (Nat.le_refl _) _).alloc (by simp) _
          have HXAu1c := Lib.hid ((RowAt.new u1b 32 #[.int .i64 xk, .int .i64 xp, .string xs, .slice xA xw.length xc, .slice xB xz.length xd]).alloc (.cells #[.int .i64 0, .int .i64 0] 27))
          have hf3 := RowAt.new (u1b.alloc (.cells #[.int .i64 xk, .int .i64 xp, .string xs, .slice xA xw.length xc, .slice xB xz.length xd] 32)) 27 #[.int .i64 0, .int .i64 0]
          rw [show (u1b.alloc (.cells #[.int .i64 xk, .int .i64 xp, .string xs, .slice xA xw.length xc, .slice xB xz.length xd] 32)).heap.size = u1b.heap.size + 1 by simp] at hf3
          have HXFu1c := Lib.hid hf3
          have HRAu1c := Lib.hid (HRAu1b.out.below hbx HRAu1b.out.lt)
          have HBu1c := Lib.hid (HBu1b.out.trans (hbx.mono HBu1b.out.size))
          have HDu1c := Lib.hid (HDu1b.out.trans (hbx.mono HDu1b.out.size))
          have HSY := Lib.hid (HSX.out _ hbx HBu1c.out)
          clear hbx hf3 HSX HRAu1b HBu1b HDu1b
          go_upto_region 10 with fail
          generalize ((u1b.alloc (.cells #[.int .i64 xk, .int .i64 xp, .string xs, .slice xA xw.length xc, .slice xB xz.length xd] 32)).alloc (.cells #[.int .i64 0, .int .i64 0] 27)) = u1c at *
          obtain ⟨HRA0, HRA1, HRA2, HRA3, HRA4, _, _, _, _, _⟩ := row5 HRAu1c.out
          obtain ⟨HXA0, HXA1, HXA2, HXA3, HXA4, _, _, _, _, _⟩ := row5 HXAu1c.out
          obtain ⟨HXF0, HXF1, _, _⟩ := row2 HXFu1c.out
          go_wp2_with fail
          refine (HSY.out).mono ?_
          rintro e u1d ⟨rfl, hb⟩
          have HRAu1d := Lib.hid (HRAu1c.out.below hb HRAu1c.out.lt)
          have HBu1d := Lib.hid (HBu1c.out.trans (hb.mono HBu1c.out.size))
          have HDu1d := Lib.hid (HDu1c.out.trans (hb.mono HDu1c.out.size))
          clear hb HRAu1c HBu1c HDu1c
          clear HRA0 HRA1 HRA2 HRA3 HRA4 HXA0 HXA1 HXA2 HXA3 HXA4 HXF0 HXF1
          clear HXAu1c HXFu1c
          obtain ⟨HRA0, HRA1, HRA2, HRA3, HRA4, _, _, _, _, _⟩ := row5 HRAu1d.out
          go_wp2_with fail
          refine (HQ3.out u1d HBu1d.out).mono ?_
          rintro e u3a ⟨rfl, hb⟩
          have HRAu3a := Lib.hid (HRAu1d.out.below hb HRAu1d.out.lt)
          have HBu3a := Lib.hid (HBu1d.out.trans (hb.mono HBu1d.out.size))
          have HDu3a := Lib.hid (HDu1d.out.trans (hb.mono HDu1d.out.size))
          clear hb HRAu1d HBu1d HDu1d
          clear HRA0 HRA1 HRA2 HRA3 HRA4
          obtain ⟨HRA0, HRA1, HRA2, HRA3, HRA4, _, _, _, _, _⟩ := row5 HRAu3a.out
          go_wp2_with fail
          refine (HQ6.out u3a HBu3a.out).mono ?_
          rintro e u6a ⟨rfl, hb⟩
          have HRAu6a := Lib.hid (HRAu3a.out.below hb HRAu3a.out.lt)
          have HBu6a := Lib.hid (HBu3a.out.trans (hb.mono HBu3a.out.size))
          have HDu6a := Lib.hid (HDu3a.out.trans (hb.mono HDu3a.out.size))
          clear hb HRAu3a HBu3a HDu3a
          clear HRA0 HRA1 HRA2 HRA3 HRA4
          go_wp2_with fail
          refine (alive10_any _).mono ?_
          rintro e wz ⟨rfl, hb⟩
          have HBz := Lib.hid (HBu6a.out.trans (hb.mono HBu6a.out.size))
          clear hb
          go_wp2_with fail
          go_ret
          exact ⟨rfl, HBz.out⟩
        · skip
          have HKK1 := Lib.hid (HK1.out rfl)
          clear HK1
          clear HK3
          have HKK6 := Lib.hid (HK6.out rfl)
          clear HK6
          have HDw8 : Hid (Below w8.heap.size w8 w8) := Below.refl _ _
          obtain ⟨HRA0, HRA1, HRA2, HRA3, HRA4, _, _, _, _, _⟩ := row5 HRAw8.out
          go_wp2_with fail
          refine (HQ1.out w8 HBw8.out).mono ?_
          rintro e u1a ⟨rfl, hb⟩
          have HRAu1a := Lib.hid (HRAw8.out.below hb HRAw8.out.lt)
          have HBu1a := Lib.hid (HBw8.out.trans (hb.mono HBw8.out.size))
          have HDu1a := Lib.hid (HDw8.out.trans (hb.mono HDw8.out.size))
          clear hb HRAw8 HBw8 HDw8
          clear HRA0 HRA1 HRA2 HRA3 HRA4
          have hk := HKK1.out u1a (HSN.out _ HDu1a.out)
          go_wp2_with fail
          refine hk.mono ?_
          rintro e u1b ⟨⟨xk, xp, xs, xA, xc, xw, xB, xd, xz⟩, rfl, hdx, hcx, hsx, hb⟩
          have HRAu1b := Lib.hid (HRAu1a.out.below hb HRAu1a.out.lt)
          have HBu1b := Lib.hid (HBu1a.out.trans (hb.mono HBu1a.out.size))
          have HDu1b := Lib.hid (HDu1a.out.trans (hb.mono HDu1a.out.size))
          have HSX := Lib.hid (fun W (h : Below u1b.heap.size u1b W) (h2 : Below w.heap.size w W) => HSM.out (.mk xk xp xs xA xc xw xB xd xz) W hcx hsx ((hdx.nods.below h).mono h.size) h2)
          clear hb hdx hcx hsx hk HRAu1a HBu1a HDu1a
          unfold nv at HSX ⊢
          simp only [Nd.k, Nd.p, Nd.s, Nd.A, Nd.c, Nd.ws, Nd.B, Nd.d, Nd.ks] at HSX ⊢
          have hbx : Below u1b.heap.size u1b ((u1b.alloc (.cells #[.int .i64 xk, .int .i64 xp, .string xs, .slice xA xw.length xc, .slice xB xz.length xd] 32)).alloc (.cells #[.int .i64 0, .int .i64 0] 27)) := ((Below.refl _ _).alloc (Nat.le_refl _) _).alloc (by simp) _
          have HXAu1c := Lib.hid ((RowAt.new u1b 32 #[.int .i64 xk, .int .i64 xp, .string xs, .slice xA xw.length xc, .slice xB xz.length xd]).alloc (.cells #[.int .i64 0, .int .i64 0] 27))
          have hf3 := RowAt.new (u1b.alloc (.cells #[.int .i64 xk, .int .i64 xp, .string xs, .slice xA xw.length xc, .slice xB xz.length xd] 32)) 27 #[.int .i64 0, .int .i64 0]
          rw [show (u1b.alloc (.cells #[.int .i64 xk, .int .i64 xp, .string xs, .slice xA xw.length xc, .slice xB xz.length xd] 32)).heap.size = u1b.heap.size + 1 by simp] at hf3
          have HXFu1c := Lib.hid hf3
          have HRAu1c := Lib.hid (HRAu1b.out.below hbx HRAu1b.out.lt)
          have HBu1c := Lib.hid (HBu1b.out.trans (hbx.mono HBu1b.out.size))
          have HDu1c := Lib.hid (HDu1b.out.trans (hbx.mono HDu1b.out.size))
          have HSY := Lib.hid (HSX.out _ hbx HBu1c.out)
          clear hbx hf3 HSX HRAu1b HBu1b HDu1b
          go_upto_region 10 with fail
          generalize ((u1b.alloc (.cells #[.int .i64 xk, .int .i64 xp, .string xs, .slice xA xw.length xc, .slice xB xz.length xd] 32)).alloc (.cells #[.int .i64 0, .int .i64 0] 27)) = u1c at *
          obtain ⟨HRA0, HRA1, HRA2, HRA3, HRA4, _, _, _, _, _⟩ := row5 HRAu1c.out
          obtain ⟨HXA0, HXA1, HXA2, HXA3, HXA4, _, _, _, _, _⟩ := row5 HXAu1c.out
          obtain ⟨HXF0, HXF1, _, _⟩ := row2 HXFu1c.out
          go_wp2_with fail
          refine (HSY.out).mono ?_
          rintro e u1d ⟨rfl, hb⟩
          have HRAu1d := Lib.hid (HRAu1c.out.below hb HRAu1c.out.lt)
          have HBu1d := Lib.hid (HBu1c.out.trans (hb.mono HBu1c.out.size))
          have HDu1d := Lib.hid (HDu1c.out.trans (hb.mono HDu1c.out.size))
          clear hb HRAu1c HBu1c HDu1c
          clear HRA0 HRA1 HRA2 HRA3 HRA4 HXA0 HXA1 HXA2 HXA3 HXA4 HXF0 HXF1
          clear HXAu1c HXFu1c
          obtain ⟨HRA0, HRA1, HRA2, HRA3, HRA4, _, _, _, _, _⟩ := row5 HRAu1d.out
          go_wp2_with fail
          refine (HQ3.out u1d HBu1d.out).mono ?_
          rintro e u3a ⟨rfl, hb⟩
          have HRAu3a := Lib.hid (HRAu1d.out.below hb HRAu1d.out.lt)
          have HBu3a := Lib.hid (HBu1d.out.trans (hb.mono HBu1d.out.size))
          have HDu3a := Lib.hid (HDu1d.out.trans (hb.mono HDu1d.out.size))
          clear hb HRAu1d HBu1d HDu1d
          clear HRA0 HRA1 HRA2 HRA3 HRA4
          obtain ⟨HRA0, HRA1, HRA2, HRA3, HRA4, _, _, _, _, _⟩ := row5 HRAu3a.out
          go_wp2_with fail
          refine (HQ6.out u3a HBu3a.out).mono ?_
          rintro e u6a ⟨rfl, hb⟩
          have HRAu6a := Lib.hid (HRAu3a.out.below hb HRAu3a.out.lt)
          have HBu6a := Lib.hid (HBu3a.out.trans (hb.mono HBu3a.out.size))
          have HDu6a := Lib.hid (HDu3a.out.trans (hb.mono HDu3a.out.size))
          clear hb HRAu3a HBu3a HDu3a
          clear HRA0 HRA1 HRA2 HRA3 HRA4
          have hk := HKK6.out u6a (HSN.out _ HDu6a.out)
          go_wp2_with fail
          refine hk.mono ?_
          rintro e u6b ⟨⟨xk, xp, xs, xA, xc, xw, xB, xd, xz⟩, rfl, hdx, hcx, hsx, hb⟩
          have HRAu6b := Lib.hid (HRAu6a.out.below hb HRAu6a.out.lt)
          have HBu6b := Lib.hid (HBu6a.out.trans (hb.mono HBu6a.out.size))
          have HDu6b := Lib.hid (HDu6a.out.trans (hb.mono HDu6a.out.size))
          have HSX := Lib.hid (fun W (h : Below u6b.heap.size u6b W) (h2 : Below w.heap.size w W) => HSM.out (.mk xk xp xs xA xc xw xB xd xz) W hcx hsx ((hdx.nods.below h).mono h.size) h2)
          clear hb hdx hcx hsx hk HRAu6a HBu6a HDu6a
          unfold nv at HSX ⊢
          simp only [Nd.k, Nd.p, Nd.s, Nd.A, Nd.c, Nd.ws, Nd.B, Nd.d, Nd.ks] at HSX ⊢
          have hbx : Below u6b.heap.size u6b ((u6b.alloc (.cells #[.int .i64 xk, .int .i64 xp, .string xs, .slice xA xw.length xc, .slice xB xz.length xd] 32)).alloc (.cells #[.int .i64 0, .int .i64 0] 27)) := ((Below.refl _ _).alloc (Nat.le_refl _) _).alloc (by simp) _
          have HXAu6c := Lib.hid ((RowAt.new u6b 32 #[.int .i64 xk, .int .i64 xp, .string xs, .slice xA xw.length xc, .slice xB xz.length xd]).alloc (.cells #[.int .i64 0, .int .i64 0] 27))
          have hf3 := RowAt.new (u6b.alloc (.cells #[.int .i64 xk, .int .i64 xp, .string xs, .slice xA xw.length xc, .slice xB xz.length xd] 32)) 27 #[.int .i64 0, .int .i64 0]
          rw [show (u6b.alloc (.cells #[.int .i64 xk, .int .i64 xp, .string xs, .slice xA xw.length xc, .slice xB xz.length xd] 32)).heap.size = u6b.heap.size + 1 by simp] at hf3
          have HXFu6c := Lib.hid hf3
          have HRAu6c := Lib.hid (HRAu6b.out.below hbx HRAu6b.out.lt)
          have HBu6c := Lib.hid (HBu6b.out.trans (hbx.mono HBu6b.out.size))
          have HDu6c := Lib.hid (HDu6b.out.trans (hbx.mono HDu6b.out.size))
          have HSY := Lib.hid (HSX.out _ hbx HBu6c.out)
          clear hbx hf3 HSX HRAu6b HBu6b HDu6b
          go_upto_region 18 with fail
          generalize ((u6b.alloc (.cells #[.int .i64 xk, .int .i64 xp, .string xs, .slice xA xw.length xc, .slice xB xz.length xd] 32)).alloc (.cells #[.int .i64 0, .int .i64 0] 27)) = u6c at *
          obtain ⟨HRA0, HRA1, HRA2, HRA3, HRA4, _, _, _, _, _⟩ := row5 HRAu6c.out
          obtain ⟨HXA0, HXA1, HXA2, HXA3, HXA4, _, _, _, _, _⟩ := row5 HXAu6c.out
          obtain ⟨HXF0, HXF1, _, _⟩ := row2 HXFu6c.out
          go_wp2_with fail
          refine (HSY.out).mono ?_
          rintro e u6d ⟨rfl, hb⟩
          have HRAu6d := Lib.hid (HRAu6c.out.below hb HRAu6c.out.lt)
          have HBu6d := Lib.hid (HBu6c.out.trans (hb.mono HBu6c.out.size))
          have HDu6d := Lib.hid (HDu6c.out.trans (hb.mono HDu6c.out.size))
          clear hb HRAu6c HBu6c HDu6c
          clear HRA0 HRA1 HRA2 HRA3 HRA4 HXA0 HXA1 HXA2 HXA3 HXA4 HXF0 HXF1
          clear HXAu6c HXFu6c
          go_wp2_with fail
          refine (alive10_any _).mono ?_
          rintro e wz ⟨rfl, hb⟩
          have HBz := Lib.hid (HBu6d.out.trans (hb.mono HBu6d.out.size))
          clear hb
          go_wp2_with fail
          go_ret
          exact ⟨rfl, HBz.out⟩
        · skip
          have HKK1 := Lib.hid (HK1.out rfl)
          clear HK1
          have HKK3 := Lib.hid (HK3.out rfl)
          clear HK3
          clear HK6
          have HDw8 : Hid (Below w8.heap.size w8 w8) := Below.refl _ _
          obtain ⟨HRA0, HRA1, HRA2, HRA3, HRA4, _, _, _, _, _⟩ := row5 HRAw8.out
          go_wp2_with fail
          refine (HQ1.out w8 HBw8.out).mono ?_
          rintro e u1a ⟨rfl, hb⟩
          have HRAu1a := Lib.hid (HRAw8.out.below hb HRAw8.out.lt)
          have HBu1a := Lib.hid (HBw8.out.trans (hb.mono HBw8.out.size))
          have HDu1a := Lib.hid (HDw8.out.trans (hb.mono HDw8.out.size))
          clear hb HRAw8 HBw8 HDw8
          clear HRA0 HRA1 HRA2 HRA3 HRA4
          have hk := HKK1.out u1a (HSN.out _ HDu1a.out)
          go_wp2_with fail
          refine hk.mono ?_
          rintro e u1b ⟨⟨xk, xp, xs, xA, xc, xw, xB, xd, xz⟩, rfl, hdx, hcx, hsx, hb⟩
          have HRAu1b := Lib.hid (HRAu1a.out.below hb HRAu1a.out.lt)
          have HBu1b := Lib.hid (HBu1a.out.trans (hb.mono HBu1a.out.size))
          have HDu1b := Lib.hid (HDu1a.out.trans (hb.mono HDu1a.out.size))
          have HSX := Lib.hid (fun W (h : Below u1b.heap.size u1b W) (h2 : Below w.heap.size w W) => HSM.out (.mk xk xp xs xA xc xw xB xd xz) W hcx hsx ((hdx.nods.below h).mono h.size) h2)
          clear hb hdx hcx hsx hk HRAu1a HBu1a HDu1a
          unfold nv at HSX ⊢
          simp only [Nd.k, Nd.p, Nd.s, Nd.A, Nd.c, Nd.ws, Nd.B, Nd.d, Nd.ks] at HSX ⊢
          have hbx : Below u1b.heap.size u1b ((u1b.alloc (.cells #[.int .i64 xk, .int .i64 xp, .string xs, .slice xA xw.length xc, .slice xB xz.length xd] 32)).alloc (.cells #[.int .i64 0, .int .i64 0] 27)) := ((Below.refl _ _).alloc (Nat.le_refl _) _).alloc (by simp) _
          have HXAu1c := Lib.hid ((RowAt.new u1b 32 #[.int .i64 xk, .int .i64 xp, .string xs, .slice xA xw.length xc, .slice xB xz.length xd]).alloc (.cells #[.int .i64 0, .int .i64 0] 27))
          have hf3 := RowAt.new (u1b.alloc (.cells #[.int .i64 xk, .int .i64 xp, .string xs, .slice xA xw.length xc, .slice xB xz.length xd] 32)) 27 #[.int .i64 0, .int .i64 0]
          rw [show (u1b.alloc (.cells #[.int .i64 xk, .int .i64 xp, .string xs, .slice xA xw.length xc, .slice xB xz.length xd] 32)).heap.size = u1b.heap.size + 1 by simp] at hf3
          have HXFu1c := Lib.hid hf3
          have HRAu1c := Lib.hid (HRAu1b.out.below hbx HRAu1b.out.lt)
          have HBu1c := Lib.hid (HBu1b.out.trans (hbx.mono HBu1b.out.size))
          have HDu1c := Lib.hid (HDu1b.out.trans (hbx.mono HDu1b.out.size))
          have HSY := Lib.hid (HSX.out _ hbx HBu1c.out)
          clear hbx hf3 HSX HRAu1b HBu1b HDu1b
          go_upto_region 10 with fail
          generalize ((u1b.alloc (.cells #[.int .i64 xk, .int .i64 xp, .string xs, .slice xA xw.length xc, .slice xB xz.length xd] 32)).alloc (.cells #[.int .i64 0, .int .i64 0] 27)) = u1c at *
          obtain ⟨HRA0, HRA1, HRA2, HRA3, HRA4, _, _, _, _, _⟩ := row5 HRAu1c.out
          obtain ⟨HXA0, HXA1, HXA2, HXA3, HXA4, _, _, _, _, _⟩ := row5 HXAu1c.out
          obtain ⟨HXF0, HXF1, _, _⟩ := row2 HXFu1c.out
          go_wp2_with fail
          refine (HSY.out).mono ?_
          rintro e u1d ⟨rfl, hb⟩
          have HRAu1d := Lib.hid (HRAu1c.out.below hb HRAu1c.out.lt)
          have HBu1d := Lib.hid (HBu1c.out.trans (hb.mono HBu1c.out.size))
          have HDu1d := Lib.hid (HDu1c.out.trans (hb.mono HDu1c.out.size))
          clear hb HRAu1c HBu1c HDu1c
          clear HRA0 HRA1 HRA2 HRA3 HRA4 HXA0 HXA1 HXA2 HXA3 HXA4 HXF0 HXF1
          clear HXAu1c HXFu1c
          obtain ⟨HRA0, HRA1, HRA2, HRA3, HRA4, _, _, _, _, _⟩ := row5 HRAu1d.out
          go_wp2_with fail
          refine (HQ3.out u1d HBu1d.out).mono ?_
          rintro e u3a ⟨rfl, hb⟩
          have HRAu3a := Lib.hid (HRAu1d.out.below hb HRAu1d.out.lt)
          have HBu3a := Lib.hid (HBu1d.out.trans (hb.mono HBu1d.out.size))
          have HDu3a := Lib.hid (HDu1d.out.trans (hb.mono HDu1d.out.size))
          clear hb HRAu1d HBu1d HDu1d
          clear HRA0 HRA1 HRA2 HRA3 HRA4
          have hk := HKK3.out u3a (HSN.out _ HDu3a.out)
          go_wp2_with fail
          refine hk.mono ?_
          rintro e u3b ⟨⟨xk, xp, xs, xA, xc, xw, xB, xd, xz⟩, rfl, hdx, hcx, hsx, hb⟩
          have HRAu3b := Lib.hid (HRAu3a.out.below hb HRAu3a.out.lt)
          have HBu3b := Lib.hid (HBu3a.out.trans (hb.mono HBu3a.out.size))
          have HDu3b := Lib.hid (HDu3a.out.trans (hb.mono HDu3a.out.size))
          have HSX := Lib.hid (fun W (h : Below u3b.heap.size u3b W) (h2 : Below w.heap.size w W) => HSM.out (.mk xk xp xs xA xc xw xB xd xz) W hcx hsx ((hdx.nods.below h).mono h.size) h2)
          clear hb hdx hcx hsx hk HRAu3a HBu3a HDu3a
          unfold nv at HSX ⊢
          simp only [Nd.k, Nd.p, Nd.s, Nd.A, Nd.c, Nd.ws, Nd.B, Nd.d, Nd.ks] at HSX ⊢
          have hbx : Below u3b.heap.size u3b ((u3b.alloc (.cells #[.int .i64 xk, .int .i64 xp, .string xs, .slice xA xw.length xc, .slice xB xz.length xd] 32)).alloc (.cells #[.int .i64 0, .int .i64 0] 27)) := ((Below.refl _ _).alloc (Nat.le_refl _) _).alloc (by simp) _
          have HXAu3c := Lib.hid ((RowAt.new u3b 32 #[.int .i64 xk, .int .i64 xp, .string xs, .slice xA xw.length xc, .slice xB xz.length xd]).alloc (.cells #[.int .i64 0, .int .i64 0] 27))
          have hf3 := RowAt.new (u3b.alloc (.cells #[.int .i64 xk, .int .i64 xp, .string xs, .slice xA xw.length xc, .slice xB xz.length xd] 32)) 27 #[.int .i64 0, .int .i64 0]
          rw [show (u3b.alloc (.cells #[.int .i64 xk, .int .i64 xp, .string xs, .slice xA xw.length xc, .slice xB xz.length xd] 32)).heap.size = u3b.heap.size + 1 by simp] at hf3
          have HXFu3c := Lib.hid hf3
          have HRAu3c := Lib.hid (HRAu3b.out.below hbx HRAu3b.out.lt)
          have HBu3c := Lib.hid (HBu3b.out.trans (hbx.mono HBu3b.out.size))
          have HDu3c := Lib.hid (HDu3b.out.trans (hbx.mono HDu3b.out.size))
          have HSY := Lib.hid (HSX.out _ hbx HBu3c.out)
          clear hbx hf3 HSX HRAu3b HBu3b HDu3b
          go_upto_region 14 with fail
          generalize ((u3b.alloc (.cells #[.int .i64 xk, .int .i64 xp, .string xs, .slice xA xw.length xc, .slice xB xz.length xd] 32)).alloc (.cells #[.int .i64 0, .int .i64 0] 27)) = u3c at *
          obtain ⟨HRA0, HRA1, HRA2, HRA3, HRA4, _, _, _, _, _⟩ := row5 HRAu3c.out
          obtain ⟨HXA0, HXA1, HXA2, HXA3, HXA4, _, _, _, _, _⟩ := row5 HXAu3c.out
          obtain ⟨HXF0, HXF1, _, _⟩ := row2 HXFu3c.out
          go_wp2_with fail
          refine (HSY.out).mono ?_
          rintro e u3d ⟨rfl, hb⟩
          have HRAu3d := Lib.hid (HRAu3c.out.below hb HRAu3c.out.lt)
          have HBu3d := Lib.hid (HBu3c.out.trans (hb.mono HBu3c.out.size))
          have HDu3d := Lib.hid (HDu3c.out.trans (hb.mono HDu3c.out.size))
          clear hb HRAu3c HBu3c HDu3c
          clear HRA0 HRA1 HRA2 HRA3 HRA4 HXA0 HXA1 HXA2 HXA3 HXA4 HXF0 HXF1
          clear HXAu3c HXFu3c
          obtain ⟨HRA0, HRA1, HRA2, HRA3, HRA4, _, _, _, _, _⟩ := row5 HRAu3d.out
          go_wp2_with fail
          refine (HQ6.out u3d HBu3d.out).mono ?_
          rintro e u6a ⟨rfl, hb⟩
          have HRAu6a := Lib.hid (HRAu3d.out.below hb HRAu3d.out.lt)
          have HBu6a := Lib.hid (HBu3d.out.trans (hb.mono HBu3d.out.size))
          have HDu6a := Lib.hid (HDu3d.out.trans (hb.mono HDu3d.out.size))
          clear hb HRAu3d HBu3d HDu3d
          clear HRA0 HRA1 HRA2 HRA3 HRA4
          go_wp2_with fail
          refine (alive10_any _).mono ?_
          rintro e wz ⟨rfl, hb⟩
          have HBz := Lib.hid (HBu6a.out.trans (hb.mono HBu6a.out.size))
          clear hb
          go_wp2_with fail
          go_ret
          exact ⟨rfl, HBz.out⟩
        · skip
          have HKK1 := Lib.hid (HK1.out rfl)
          clear HK1
          have HKK3 := Lib.hid (HK3.out rfl)
          clear HK3
          have HKK6 := Lib.hid (HK6.out rfl)
          clear HK6
          have HDw8 : Hid (Below w8.heap.size w8 w8) := Below.refl _ _
          obtain ⟨HRA0, HRA1, HRA2, HRA3, HRA4, _, _, _, _, _⟩ := row5 HRAw8.out
          go_wp2_with fail
          refine (HQ1.out w8 HBw8.out).mono ?_
          rintro e u1a ⟨rfl, hb⟩
          have HRAu1a := Lib.hid (HRAw8.out.below hb HRAw8.out.lt)
          have HBu1a := Lib.hid (HBw8.out.trans (hb.mono HBw8.out.size))
          have HDu1a := Lib.hid (HDw8.out.trans (hb.mono HDw8.out.size))
          clear hb HRAw8 HBw8 HDw8
          clear HRA0 HRA1 HRA2 HRA3 HRA4
          have hk := HKK1.out u1a (HSN.out _ HDu1a.out)
          go_wp2_with fail
          refine hk.mono ?_
          rintro e u1b ⟨⟨xk, xp, xs, xA, xc, xw, xB, xd, xz⟩, rfl, hdx, hcx, hsx, hb⟩
          have HRAu1b := Lib.hid (HRAu1a.out.below hb HRAu1a.out.lt)
          have HBu1b := Lib.hid (HBu1a.out.trans (hb.mono HBu1a.out.size))
          have HDu1b := Lib.hid (HDu1a.out.trans (hb.mono HDu1a.out.size))
          have HSX := Lib.hid (fun W (h : Below u1b.heap.size u1b W) (h2 : Below w.heap.size w W) => HSM.out (.mk xk xp xs xA xc xw xB xd xz) W hcx hsx ((hdx.nods.below h).mono h.size) h2)
          clear hb hdx hcx hsx hk HRAu1a HBu1a HDu1a
          unfold nv at HSX ⊢
          simp only [Nd.k, Nd.p, Nd.s, Nd.A, Nd.c, Nd.ws, Nd.B, Nd.d, Nd.ks] at HSX ⊢
          have hbx : Below u1b.heap.size u1b ((u1b.alloc (.cells #[.int .i64 xk, .int .i64 xp, .string xs, .slice xA xw.length xc, .slice xB xz.length xd] 32)).alloc (.cells #[.int .i64 0, .int .i64 0] 27)) := ((Below.refl _ _).alloc (Nat.le_refl _) _).alloc (by simp) _
          have HXAu1c := Lib.hid ((RowAt.new u1b 32 #[.int .i64 xk, .int .i64 xp, .string xs, .slice xA xw.length xc, .slice xB xz.length xd]).alloc (.cells #[.int .i64 0, .int .i64 0] 27))
          have hf3 := RowAt.new (u1b.alloc (.cells #[.int .i64 xk, .int .i64 xp, .string xs, .slice xA xw.length xc, .slice xB xz.length xd] 32)) 27 #[.int .i64 0, .int .i64 0]
          rw [show (u1b.alloc (.cells #[.int .i64 xk, .int .i64 xp, .string xs, .slice xA xw.length xc, .slice xB xz.length xd] 32)).heap.size = u1b.heap.size + 1 by simp] at hf3
          have HXFu1c := Lib.hid hf3
          have HRAu1c := Lib.hid (HRAu1b.out.below hbx HRAu1b.out.lt)
          have HBu1c := Lib.hid (HBu1b.out.trans (hbx.mono HBu1b.out.size))
          have HDu1c := Lib.hid (HDu1b.out.trans (hbx.mono HDu1b.out.size))
          have HSY := Lib.hid (HSX.out _ hbx HBu1c.out)
          clear hbx hf3 HSX HRAu1b HBu1b HDu1b
          go_upto_region 10 with fail
          generalize ((u1b.alloc (.cells #[.int .i64 xk, .int .i64 xp, .string xs, .slice xA xw.length xc, .slice xB xz.length xd] 32)).alloc (.cells #[.int .i64 0, .int .i64 0] 27)) = u1c at *
          obtain ⟨HRA0, HRA1, HRA2, HRA3, HRA4, _, _, _, _, _⟩ := row5 HRAu1c.out
          obtain ⟨HXA0, HXA1, HXA2, HXA3, HXA4, _, _, _, _, _⟩ := row5 HXAu1c.out
          obtain ⟨HXF0, HXF1, _, _⟩ := row2 HXFu1c.out
          go_wp2_with fail
          refine (HSY.out).mono ?_
          rintro e u1d ⟨rfl, hb⟩
          have HRAu1d := Lib.hid (HRAu1c.out.below hb HRAu1c.out.lt)
          have HBu1d := Lib.hid (HBu1c.out.trans (hb.mono HBu1c.out.size))
          have HDu1d := Lib.hid (HDu1c.out.trans (hb.mono HDu1c.out.size))
          clear hb HRAu1c HBu1c HDu1c
          clear HRA0 HRA1 HRA2 HRA3 HRA4 HXA0 HXA1 HXA2 HXA3 HXA4 HXF0 HXF1
          clear HXAu1c HXFu1c
          obtain ⟨HRA0, HRA1, HRA2, HRA3, HRA4, _, _, _, _, _⟩ := row5 HRAu1d.out
          go_wp2_with fail
          refine (HQ3.out u1d HBu1d.out).mono ?_
          rintro e u3a ⟨rfl, hb⟩
          have HRAu3a := Lib.hid (HRAu1d.out.below hb HRAu1d.out.lt)
          have HBu3a := Lib.hid (HBu1d.out.trans (hb.mono HBu1d.out.size))
          have HDu3a := Lib.hid (HDu1d.out.trans (hb.mono HDu1d.out.size))
          clear hb HRAu1d HBu1d HDu1d
          clear HRA0 HRA1 HRA2 HRA3 HRA4
          have hk := HKK3.out u3a (HSN.out _ HDu3a.out)
          go_wp2_with fail
          refine hk.mono ?_
          rintro e u3b ⟨⟨xk, xp, xs, xA, xc, xw, xB, xd, xz⟩, rfl, hdx, hcx, hsx, hb⟩
          have HRAu3b := Lib.hid (HRAu3a.out.below hb HRAu3a.out.lt)
          have HBu3b := Lib.hid (HBu3a.out.trans (hb.mono HBu3a.out.size))
          have HDu3b := Lib.hid (HDu3a.out.trans (hb.mono HDu3a.out.size))
          have HSX := Lib.hid (fun W (h : Below u3b.heap.size u3b W) (h2 : Below w.heap.size w W) => HSM.out (.mk xk xp xs xA xc xw xB xd xz) W hcx hsx ((hdx.nods.below h).mono h.size) h2)
          clear hb hdx hcx hsx hk HRAu3a HBu3a HDu3a
          unfold nv at HSX ⊢
          simp only [Nd.k, Nd.p, Nd.s, Nd.A, Nd.c, Nd.ws, Nd.B, Nd.d, Nd.ks] at HSX ⊢
          have hbx : Below u3b.heap.size u3b ((u3b.alloc (.cells #[.int .i64 xk, .int .i64 xp, .string xs, .slice xA xw.length xc, .slice xB xz.length xd] 32)).alloc (.cells #[.int .i64 0, .int .i64 0] 27)) := ((Below.refl _ _).alloc (Nat.le_refl _) _).alloc (by simp) _
          have HXAu3c := Lib.hid ((RowAt.new u3b 32 #[.int .i64 xk, .int .i64 xp, .string xs, .slice xA xw.length xc, .slice xB xz.length xd]).alloc (.cells #[.int .i64 0, .int .i64 0] 27))
          have hf3 := RowAt.new (u3b.alloc (.cells #[.int .i64 xk, .int .i64 xp, .string xs, .slice xA xw.length xc, .slice xB xz.length xd] 32)) 27 #[.int .i64 0, .int .i64 0]
          rw [show (u3b.alloc (.cells #[.int .i64 xk, .int .i64 xp, .string xs, .slice xA xw.length xc, .slice xB xz.length xd] 32)).heap.size = u3b.heap.size + 1 by simp] at hf3
          have HXFu3c := Lib.hid hf3
          have HRAu3c := Lib.hid (HRAu3b.out.below hbx HRAu3b.out.lt)
          have HBu3c := Lib.hid (HBu3b.out.trans (hbx.mono HBu3b.out.size))
          have HDu3c := Lib.hid (HDu3b.out.trans (hbx.mono HDu3b.out.size))
          have HSY := Lib.hid (HSX.out _ hbx HBu3c.out)
          clear hbx hf3 HSX HRAu3b HBu3b HDu3b
          go_upto_region 14 with fail
          generalize ((u3b.alloc (.cells #[.int .i64 xk, .int .i64 xp, .string xs, .slice xA xw.length xc, .slice xB xz.length xd] 32)).alloc (.cells #[.int .i64 0, .int .i64 0] 27)) = u3c at *
          obtain ⟨HRA0, HRA1, HRA2, HRA3, HRA4, _, _, _, _, _⟩ := row5 HRAu3c.out
          obtain ⟨HXA0, HXA1, HXA2, HXA3, HXA4, _, _, _, _, _⟩ := row5 HXAu3c.out
          obtain ⟨HXF0, HXF1, _, _⟩ := row2 HXFu3c.out
          go_wp2_with fail
          refine (HSY.out).mono ?_
          rintro e u3d ⟨rfl, hb⟩
          have HRAu3d := Lib.hid (HRAu3c.out.below hb HRAu3c.out.lt)
          have HBu3d := Lib.hid (HBu3c.out.trans (hb.mono HBu3c.out.size))
          have HDu3d := Lib.hid (HDu3c.out.trans (hb.mono HDu3c.out.size))
          clear hb HRAu3c HBu3c HDu3c
          clear HRA0 HRA1 HRA2 HRA3 HRA4 HXA0 HXA1 HXA2 HXA3 HXA4 HXF0 HXF1
          clear HXAu3c HXFu3c
          obtain ⟨HRA0, HRA1, HRA2, HRA3, HRA4, _, _, _, _, _⟩ := row5 HRAu3d.out
          go_wp2_with fail
          refine (HQ6.out u3d HBu3d.out).mono ?_
          rintro e u6a ⟨rfl, hb⟩
          have HRAu6a := Lib.hid (HRAu3d.out.below hb HRAu3d.out.lt)
          have HBu6a := Lib.hid (HBu3d.out.trans (hb.mono HBu3d.out.size))
          have HDu6a := Lib.hid (HDu3d.out.trans (hb.mono HDu3d.out.size))
          clear hb HRAu3d HBu3d HDu3d
          clear HRA0 HRA1 HRA2 HRA3 HRA4
          have hk := HKK6.out u6a (HSN.out _ HDu6a.out)
          go_wp2_with fail
          refine hk.mono ?_
          rintro e u6b ⟨⟨xk, xp, xs, xA, xc, xw, xB, xd, xz⟩, rfl, hdx, hcx, hsx, hb⟩
          have HRAu6b := Lib.hid (HRAu6a.out.below hb HRAu6a.out.lt)
          have HBu6b := Lib.hid (HBu6a.out.trans (hb.mono HBu6a.out.size))
          have HDu6b := Lib.hid (HDu6a.out.trans (hb.mono HDu6a.out.size))
          have HSX := Lib.hid (fun W (h : Below u6b.heap.size u6b W) (h2 : Below w.heap.size w W) => HSM.out (.mk xk xp xs xA xc xw xB xd xz) W hcx hsx ((hdx.nods.below h).mono h.size) h2)
          clear hb hdx hcx hsx hk HRAu6a HBu6a HDu6a
          unfold nv at HSX ⊢
          simp only [Nd.k, Nd.p, Nd.s, Nd.A, Nd.c, Nd.ws, Nd.B, Nd.d, Nd.ks] at HSX ⊢
          have hbx : Below u6b.heap.size u6b ((u6b.alloc (.cells #[.int .i64 xk, .int .i64 xp, .string xs, .slice xA xw.length xc, .slice xB xz.length xd] 32)).alloc (.cells #[.int .i64 0, .int .i64 0] 27)) := ((Below.refl _ _).alloc (Nat.le_refl _) _).alloc (by simp) _
          have HXAu6c := Lib.hid ((RowAt.new u6b 32 #[.int .i64 xk, .int .i64 xp, .string xs, .slice xA xw.length xc, .slice xB xz.length xd]).alloc (.cells #[.int .i64 0, .int .i64 0] 27))
          have hf3 := RowAt.new (u6b.alloc (.cells #[.int .i64 xk, .int .i64 xp, .string xs, .slice xA xw.length xc, .slice xB xz.length xd] 32)) 27 #[.int .i64 0, .int .i64 0]
          rw [show (u6b.alloc (.cells #[.int .i64 xk, .int .i64 xp, .string xs, .slice xA xw.length xc, .slice xB xz.length xd] 32)).heap.size = u6b.heap.size + 1 by simp] at hf3
          have HXFu6c := Lib.hid hf3
          have HRAu6c := Lib.hid (HRAu6b.out.below hbx HRAu6b.out.lt)
          have HBu6c := Lib.hid (HBu6b.out.trans (hbx.mono HBu6b.out.size))
          have HDu6c := Lib.hid (HDu6b.out.trans (hbx.mono HDu6b.out.size))
          have HSY := Lib.hid (HSX.out _ hbx HBu6c.out)
          clear hbx hf3 HSX HRAu6b HBu6b HDu6b
          go_upto_region 18 with fail
          generalize ((u6b.alloc (.cells #[.int .i64 xk, .int .i64 xp, .string xs, .slice xA xw.length xc, .slice xB xz.length xd] 32)).alloc (.cells #[.int .i64 0, .int .i64 0] 27)) = u6c at *
          obtain ⟨HRA0, HRA1, HRA2, HRA3, HRA4, _, _, _, _, _⟩ := row5 HRAu6c.out
          obtain ⟨HXA0, HXA1, HXA2, HXA3, HXA4, _, _, _, _, _⟩ := row5 HXAu6c.out
          obtain ⟨HXF0, HXF1, _, _⟩ := row2 HXFu6c.out
          go_wp2_with fail
          refine (HSY.out).mono ?_
          rintro e u6d ⟨rfl, hb⟩
          have HRAu6d := Lib.hid (HRAu6c.out.below hb HRAu6c.out.lt)
          have HBu6d := Lib.hid (HBu6c.out.trans (hb.mono HBu6c.out.size))
          have HDu6d := Lib.hid (HDu6c.out.trans (hb.mono HDu6c.out.size))
          clear hb HRAu6c HBu6c HDu6c
          clear HRA0 HRA1 HRA2 HRA3 HRA4 HXA0 HXA1 HXA2 HXA3 HXA4 HXF0 HXF1
          clear HXAu6c HXFu6c
          go_wp2_with fail
          refine (alive10_any _).mono ?_
          rintro e wz ⟨rfl, hb⟩
          have HBz := Lib.hid (HBu6d.out.trans (hb.mono HBu6d.out.size))
          clear hb
          go_wp2_with fail
          go_ret
          exact ⟨rfl, HBz.out⟩
  · clear HRD HNO HYES HFEW HFT HSM HQ1 HQ3 HQ6 HT1 hg1 hg3 hg6
    have hbw1 : Below w.heap.size w (w.alloc (.cells #[.int .i64 bk, .int .i64 bp, .string bs, .slice bA bw.length bc, .slice bB bz.length bd] 32)) := (Below.refl _ _).alloc (Nat.le_refl _) _
    have hra := RowAt.new w 32 #[.int .i64 bk, .int .i64 bp, .string bs, .slice bA bw.length bc, .slice bB bz.length bd]
    have HRAw1 := Lib.hid hra
    have HBw1 := Lib.hid hbw1
    clear hra hbw1
    go_enter Try.func5, Try.ntmps5
    go_upto_region 1 with fail
    generalize (w.alloc (.cells #[.int .i64 bk, .int .i64 bp, .string bs, .slice bA bw.length bc, .slice bB bz.length bd] 32)) = w1 at *
    obtain ⟨HRA0, HRA1, HRA2, HRA3, HRA4, _, _, _, _, _⟩ := row5 HRAw1.out
    go_wp2_with (refine wpList_nodes1 (by rfl) _ rfl (.mk bk bp bs bA bc bw bB bd bz) rfl ?_; intro w2 hsl hb2)
    clear HRA0 HRA1 HRA2 HRA3 HRA4
    have HBw2 := Lib.hid (HBw1.out.trans (hb2.mono HBw1.out.size))
    have HRAw2 := Lib.hid (HRAw1.out.below hb2 HRAw1.out.lt)
    have HG2 := Lib.hid (HBIG.out _ 1 w2 HBw2.out hsl)
    clear hsl hb2 HRAw1 HBw1 HBIG
    go_wp2_with fail
    refine (HG2.out).mono ?_
    rintro e w3 ⟨rfl, hb⟩
    have HRAw3 := Lib.hid (HRAw2.out.below hb HRAw2.out.lt)
    have HBw3 := Lib.hid (HBw2.out.trans (hb.mono HBw2.out.size))
    clear hb HRAw2 HBw2
    clear HG2
    go_wp2_with fail
    refine (alive10_any _).mono ?_
    rintro e wz ⟨rfl, hb⟩
    have HBz := Lib.hid (HBw3.out.trans (hb.mono HBw3.out.size))
    clear hb
    go_wp2_with fail
    go_ret
    exact ⟨rfl, HBz.out⟩
end Go.Proofs.Ytapnefhmonpgdaa
