/-
  The chapter's example. Conditions: none.
-/
import Derived.Test.YtapnefhmonpgdaaTermQ
namespace Go.Proofs.Ytapnefhmonpgdaa
open Go.RowKit LX TR TM

def exA : ByteArray := ⟨#[43, 40, 120, 44, 35, 123, 97, 44, 98, 125, 41]⟩
def exAToks : List Tk := [⟨43, ⟨#[43]⟩, 0⟩, ⟨40, ⟨#[40]⟩, 1⟩, ⟨97, ⟨#[120]⟩, 2⟩, ⟨44, ⟨#[44]⟩, 3⟩, ⟨35, ⟨#[35]⟩, 4⟩, ⟨123, ⟨#[123]⟩, 5⟩, ⟨97, ⟨#[97]⟩, 6⟩, ⟨44, ⟨#[44]⟩, 7⟩, ⟨97, ⟨#[98]⟩, 8⟩, ⟨125, ⟨#[125]⟩, 9⟩, ⟨41, ⟨#[41]⟩, 10⟩]
def exATrees : List Tr := [.mk ⟨43, ⟨#[43]⟩, 0⟩ none 0 [] 0, .mk ⟨40, ⟨#[40]⟩, 1⟩ none 0 [.mk ⟨97, ⟨#[120]⟩, 2⟩ none 0 [] 2, .mk ⟨44, ⟨#[44]⟩, 3⟩ none 0 [] 3, .mk ⟨35, ⟨#[35]⟩, 4⟩ none 0 [] 4, .mk ⟨123, ⟨#[123]⟩, 5⟩ none 0 [.mk ⟨97, ⟨#[97]⟩, 6⟩ none 0 [] 6, .mk ⟨44, ⟨#[44]⟩, 7⟩ none 0 [] 7, .mk ⟨97, ⟨#[98]⟩, 8⟩ none 0 [] 8] 9] 10]
def exB : ByteArray := ⟨#[43, 40, 41]⟩
def exBToks : List Tk := [⟨43, ⟨#[43]⟩, 0⟩, ⟨40, ⟨#[40]⟩, 1⟩, ⟨41, ⟨#[41]⟩, 2⟩]
def exBTrees : List Tr := [.mk ⟨43, ⟨#[43]⟩, 0⟩ none 0 [] 0, .mk ⟨40, ⟨#[40]⟩, 1⟩ none 0 [] 2]
def exC : ByteArray := ⟨#[91, 102, 61, 120, 44, 103, 61, 35, 104, 105, 124, 114, 93]⟩
def exCToks : List Tk := [⟨91, ⟨#[91]⟩, 0⟩, ⟨97, ⟨#[102]⟩, 1⟩, ⟨61, ⟨#[61]⟩, 2⟩, ⟨97, ⟨#[120]⟩, 3⟩, ⟨44, ⟨#[44]⟩, 4⟩, ⟨97, ⟨#[103]⟩, 5⟩, ⟨61, ⟨#[61]⟩, 6⟩, ⟨35, ⟨#[35]⟩, 7⟩, ⟨97, ⟨#[104, 105]⟩, 8⟩, ⟨124, ⟨#[124]⟩, 10⟩, ⟨97, ⟨#[114]⟩, 11⟩, ⟨93, ⟨#[93]⟩, 12⟩]
def exCTrees : List Tr := [.mk ⟨91, ⟨#[91]⟩, 0⟩ none 0 [.mk ⟨97, ⟨#[102]⟩, 1⟩ none 0 [] 1, .mk ⟨61, ⟨#[61]⟩, 2⟩ none 0 [] 2, .mk ⟨97, ⟨#[120]⟩, 3⟩ none 0 [] 3, .mk ⟨44, ⟨#[44]⟩, 4⟩ none 0 [] 4, .mk ⟨97, ⟨#[103]⟩, 5⟩ none 0 [] 5, .mk ⟨61, ⟨#[61]⟩, 6⟩ none 0 [] 6, .mk ⟨35, ⟨#[35]⟩, 7⟩ none 0 [] 7, .mk ⟨97, ⟨#[104, 105]⟩, 8⟩ none 0 [] 8, .mk ⟨124, ⟨#[124]⟩, 10⟩ none 0 [] 10, .mk ⟨97, ⟨#[114]⟩, 11⟩ none 0 [] 11] 12]
def exANode : Nd := nd 8 0 e0 [] [nd 1 2 ⟨#[120]⟩ [] [], nd 7 4 e0 [] [nd 3 5 e0 [⟨⟨#[97]⟩, 6⟩, ⟨⟨#[98]⟩, 8⟩] []]]
def exCNode : Nd := nd 10 0 e0 [⟨⟨#[114]⟩, 11⟩] [nd 11 1 ⟨#[102]⟩ [] [nd 1 3 ⟨#[120]⟩ [] []], nd 11 5 ⟨#[103]⟩ [] [nd 7 7 e0 [] [nd 2 8 ⟨#[104, 105]⟩ [] []]]]
theorem exA_tr : trOf exA = exATrees := trOf_ok (R := exAToks) (by kernel_rfl) (by rfl)
theorem exB_tr : trOf exB = exBTrees := trOf_ok (R := exBToks) (by kernel_rfl) (by rfl)
theorem exC_tr : trOf exC = exCTrees := trOf_ok (R := exCToks) (by kernel_rfl) (by rfl)
theorem exA_rd : labelR 21 exATrees 20 = .ok (exANode, []) := by rfl
theorem exB_rd : labelR 21 exBTrees 20 = .error 2 := by rfl
theorem exC_rd : rowR 21 exCTrees 20 = .ok (exCNode, []) := by rfl
theorem exC_tx : text10 exCNode = ⟨#[91, 102, 61, 120, 44, 103, 61, 35, 104, 105, 124, 114, 93]⟩ := by simp [text10, tx, exCNode, nd, txs, tx1, wtx, Nd.k, Nd.s, Nd.ws, Nd.ks, lst, jc, jt, e0]
theorem exC_cnt : cnt [exCNode] ≤ 100 := by simp [cnt, exCNode, nd]
theorem exA_n : (nodes exATrees).length ≤ 20 := by simp [nodes, exATrees]
theorem exB_n : (nodes exBTrees).length ≤ 20 := by simp [nodes, exBTrees]
theorem exC_n : (nodes exCTrees).length ≤ 20 := by simp [nodes, exCTrees]
theorem handed_ok {s : Nat} {rd : Rdr Nd} {us ts : List Tr} {e : Int} {v : Value} {w : World} {x : Nd} {rs : List Tr} (h : Handed s rd us 0 e v w) (hE : EI rd) (hu : TR.er us = ts) (hr : rd ts e = .ok (x, rs)) :
    ∃ z, ∃ m : Nat, v = .tuple #[.agg (nv z), .int .i64 (m : Int), .agg #[.int .i64 0, .int .i64 0]] ∧ er1 z = x ∧ DeepN w (fun k => s ≤ k) [z] ∧ m ≤ us.length ∧ rs = TR.er (us.drop m) := by
  have h1 := hE us e
  rw [hu, hr] at h1
  unfold Handed at h
  rw [rest_zero] at h
  cases hq : rd us e with
  | error p => rw [hq] at h1; cases h1
  | ok yr =>
    obtain ⟨y, r⟩ := yr
    rw [hq] at h h1
    simp only [mapR, Except.ok.injEq, Prod.mk.injEq] at h1
    obtain ⟨rfl, rfl⟩ := h1
    obtain ⟨z, i2, rfl, hz, hd, ha, rfl⟩ := h
    obtain ⟨m, rfl, hm, hd2⟩ := ha.drop
    rw [rest_zero] at hm hd2
    rw [Int.zero_add] at hd2 ⊢
    exact ⟨z, m, rfl, hz, hd, hm, by rw [hd2]⟩
theorem handed_err {s : Nat} {rd : Rdr Nd} {us ts : List Tr} {e : Int} {v : Value} {w : World} {p : Int} (h : Handed s rd us 0 e v w) (hE : EI rd) (hu : TR.er us = ts) (hr : rd ts e = .error p) :
    v = .tuple #[.agg (nv n0), .int .i64 0, .agg #[.int .i64 2, .int .i64 p]] := by
  have h1 := hE us e
  rw [hu, hr] at h1
  unfold Handed at h
  rw [rest_zero] at h
  cases hq : rd us e with
  | error q =>
    rw [hq] at h h1
    simp only [mapR, Except.error.injEq] at h1
    rw [h, h1]
  | ok yr => obtain ⟨y, r⟩ := yr; rw [hq] at h1; cases h1
theorem small_trees {us ts : List Tr} {N : Nat} (hu : TR.er us = ts) (hn : (nodes ts).length ≤ N) (hN : N ≤ 2199023255552) : (us.length ≤ 2199023255552 ∧ ∀ x ∈ nodes us, x.ks.length ≤ 2199023255552) ∧ (nodes (rest us 0)).length ≤ N := by
  have h1 : (nodes us).length ≤ N := by rw [← TR.nodes_er, hu]; exact hn
  have h2 := length_nodes us
  refine ⟨⟨by omega, fun x hx => by have := kids_few us x hx; omega⟩, by rw [rest_zero]; exact h1⟩
theorem len_er {us ts : List Tr} {m k : Nat} (hu : TR.er us = ts) (h : [] = TR.er (us.drop m)) (hm : m ≤ us.length) (hk : ts.length = k) : m = k := by
  have h1 := congrArg List.length h
  rw [TR.er_length, List.length_drop] at h1
  have h2 := congrArg List.length hu
  rw [TR.er_length] at h2
  simp only [List.length_nil] at h1
  omega
set_option maxRecDepth 100000 in
set_option maxHeartbeats 6400000 in
theorem alive10_any (w : World) :
    Calls Try.prog 8 #[] w fun e w' => e = .returned (.bool true) ∧ Below w.heap.size w w' := by
  have HP1 := Lib.hid (fun W => trees10_any exA W (by decide))
  have HP2 := Lib.hid (fun W => trees10_any exB W (by decide))
  have HP3 := Lib.hid (fun W => trees10_any exC W (by decide))
  unfold exA at HP1
  unfold exB at HP2
  unfold exC at HP3
  go_enter Try.func8, Try.ntmps8
  go_wp2_with fail
  refine (HP1.out _).mono ?_
  rintro e w1 ⟨hb1, X1, d1, us1, rfl, hu1, hc1, ht1⟩
  have hu1' := hu1.trans exA_tr
  have hsm := small_trees (N := 20) hu1' exA_n (by decide)
  have HL1 := Lib.hid (label_call 20 (by decide) X1 d1 us1 0 20 w1 ht1 hsm.1 hsm.2)
  have HB1 := Lib.hid hb1
  have HU1 := Lib.hid hu1'
  clear hb1 hu1 hu1' ht1 hsm
  go_wp2_with fail
  refine HL1.out.mono ?_
  rintro e w2 ⟨v, rfl, hh, hb2⟩
  obtain ⟨z, m, rfl, hz, _, hm, hr⟩ := handed_ok hh (ei_label 21) HU1.out exA_rd
  obtain rfl : m = 2 := len_er HU1.out hr hm rfl
  obtain ⟨zk, zp, zs, zA, zc, zw, zB, zd, zz⟩ := z
  have hk8 : zk = 8 := congrArg Nd.k hz
  have hz2 : zz.length = 2 := by
    have h := congrArg (fun x : Nd => x.ks.length) hz
    have h2 : (TM.er zz).length = 2 := h
    rw [TM.er_length] at h2
    exact h2
  subst hk8
  have HB2 := Lib.hid (HB1.out.trans (hb2.mono HB1.out.size))
  unfold nv
  simp only [Nd.k, Nd.p, Nd.s, Nd.A, Nd.c, Nd.ws, Nd.B, Nd.d, Nd.ks, hz2]
  clear hh hb2 hz hr hm HL1 hz2
  have hbw3 : Below w2.heap.size w2 ((w2.alloc (.cells #[.int .i64 8, .int .i64 zp, .string zs, .slice zA zw.length zc, .slice zB 2 zd] 32)).alloc (.cells #[.int .i64 0, .int .i64 0] 27)) := ((Below.refl _ _).alloc (Nat.le_refl _) _).alloc (by simp) _
  have HA3 := Lib.hid ((RowAt.new w2 32 #[.int .i64 8, .int .i64 zp, .string zs, .slice zA zw.length zc, .slice zB 2 zd]).alloc (.cells #[.int .i64 0, .int .i64 0] 27))
  have hf3 := RowAt.new (w2.alloc (.cells #[.int .i64 8, .int .i64 zp, .string zs, .slice zA zw.length zc, .slice zB 2 zd] 32)) 27 #[.int .i64 0, .int .i64 0]
  rw [show (w2.alloc (.cells #[.int .i64 8, .int .i64 zp, .string zs, .slice zA zw.length zc, .slice zB 2 zd] 32)).heap.size = w2.heap.size + 1 by simp] at hf3
  have HF3 := Lib.hid hf3
  have HB3 := Lib.hid (HB2.out.trans (hbw3.mono HB2.out.size))
  clear hbw3 hf3
  go_upto_region 2 with fail
  generalize ((w2.alloc (.cells #[.int .i64 8, .int .i64 zp, .string zs, .slice zA zw.length zc, .slice zB 2 zd] 32)).alloc (.cells #[.int .i64 0, .int .i64 0] 27)) = w3 at *
  go_wp2_with fail
  refine (HP2.out _).mono ?_
  rintro e w4 ⟨hb4, X2, d2, us2, rfl, hu2, hc2, ht2⟩
  have hu2' := hu2.trans exB_tr
  have hsm := small_trees (N := 20) hu2' exB_n (by decide)
  have HL2 := Lib.hid (label_call 20 (by decide) X2 d2 us2 0 20 w4 ht2 hsm.1 hsm.2)
  have HA4 := Lib.hid (HA3.out.below hb4 HA3.out.lt)
  have HF4 := Lib.hid (HF3.out.below hb4 HF3.out.lt)
  have HB4 := Lib.hid (HB3.out.trans (hb4.mono HB3.out.size))
  have HU2 := Lib.hid hu2'
  clear hb4 hu2 hu2' ht2 hsm HA3 HF3 HB3
  go_wp2_with fail
  refine HL2.out.mono ?_
  rintro e w5 ⟨v, rfl, hh, hb5⟩
  obtain rfl := handed_err hh (ei_label 21) HU2.out exB_rd
  have HA5 := Lib.hid (HA4.out.below hb5 HA4.out.lt)
  have HF5 := Lib.hid (HF4.out.below hb5 HF4.out.lt)
  have HB5 := Lib.hid (HB4.out.trans (hb5.mono HB4.out.size))
  have hz5 : w2.heap.size + 1 < w5.heap.size := HF5.out.lt
  rw [show nv n0 = #[.int .i64 0, .int .i64 0, .string ⟨#[]⟩, .slice none 0 0, .slice none 0 0] from rfl]
  clear hh hb5 HL2 HA4 HF4 HB4
  have hbw6 : Below w5.heap.size w5 ((w5.alloc (.cells #[.int .i64 0, .int .i64 0, .string ⟨#[]⟩, .slice none 0 0, .slice none 0 0] 32)).alloc (.cells #[.int .i64 2, .int .i64 2] 27)) := ((Below.refl _ _).alloc (Nat.le_refl _) _).alloc (by simp) _
  have HA6 := Lib.hid ((RowAt.new w5 32 #[.int .i64 0, .int .i64 0, .string ⟨#[]⟩, .slice none 0 0, .slice none 0 0]).alloc (.cells #[.int .i64 2, .int .i64 2] 27))
  have hf6 := RowAt.new (w5.alloc (.cells #[.int .i64 0, .int .i64 0, .string ⟨#[]⟩, .slice none 0 0, .slice none 0 0] 32)) 27 #[.int .i64 2, .int .i64 2]
  rw [show (w5.alloc (.cells #[.int .i64 0, .int .i64 0, .string ⟨#[]⟩, .slice none 0 0, .slice none 0 0] 32)).heap.size = w5.heap.size + 1 by simp] at hf6
  have HF6 := Lib.hid hf6
  have HB6 := Lib.hid (HB5.out.trans (hbw6.mono HB5.out.size))
  have HA6z := Lib.hid (HA5.out.below hbw6 HA5.out.lt)
  have HF6z := Lib.hid (HF5.out.below hbw6 HF5.out.lt)
  clear hbw6 hf6
  go_upto_region 3 with fail
  generalize ((w5.alloc (.cells #[.int .i64 0, .int .i64 0, .string ⟨#[]⟩, .slice none 0 0, .slice none 0 0] 32)).alloc (.cells #[.int .i64 2, .int .i64 2] 27)) = w6 at *
  go_wp2_with fail
  refine (HP3.out _).mono ?_
  rintro e w7 ⟨hb7, X3, d3, us3, rfl, hu3, hc3, ht3⟩
  have hu3' := hu3.trans exC_tr
  have hsm := small_trees (N := 20) hu3' exC_n (by decide)
  have HL3 := Lib.hid (row_call 20 (by decide) X3 d3 us3 0 20 w7 ht3 hsm.1 hsm.2)
  have HA7 := Lib.hid (HA6z.out.below hb7 HA6z.out.lt)
  have HF7 := Lib.hid (HF6z.out.below hb7 HF6z.out.lt)
  have HG7 := Lib.hid (HF6.out.below hb7 HF6.out.lt)
  have HB7 := Lib.hid (HB6.out.trans (hb7.mono HB6.out.size))
  have HU3 := Lib.hid hu3'
  clear hb7 hu3 hu3' ht3 hsm HA6 HF6 HB6 HA6z HF6z
  go_wp2_with fail
  refine HL3.out.mono ?_
  rintro e w8 ⟨v, rfl, hh, hb8⟩
  obtain ⟨y, m, rfl, hy, hdy, hm, hr⟩ := handed_ok hh (ei_row 21) HU3.out exC_rd
  have htx : text10 y = ⟨#[91, 102, 61, 120, 44, 103, 61, 35, 104, 105, 124, 114, 93]⟩ := by
    rw [← exC_tx, ← hy]; unfold text10; rw [tx_er]
  have hcn : cnt [y] ≤ 100 := by
    have h := cnt_er [y]
    rw [er_one, hy] at h
    rw [← h]; exact exC_cnt
  have hlx : (tx y).length ≤ 140737488355328 := by
    have h := congrArg ByteArray.size htx
    have h2 : (text10 y).size = (tx y).length := by unfold text10; simp [ByteArray.size]
    rw [h2] at h
    rw [h]; decide
  have HA8 := Lib.hid (HA7.out.below hb8 HA7.out.lt)
  have HF8 := Lib.hid (HF7.out.below hb8 HF7.out.lt)
  have HG8 := Lib.hid (HG7.out.below hb8 HG7.out.lt)
  have HB8 := Lib.hid (HB7.out.trans (hb8.mono HB7.out.size))
  have hz8 : w5.heap.size + 1 < w8.heap.size := HG8.out.lt
  have HTX := Lib.hid (fun W (h : Below w8.heap.size w8 W) => text_any y W (by omega) hlx ((hdy.nods.below h).mono h.size))
  rw [htx] at HTX
  clear hh hb8 hy hdy hm hr htx hlx hcn HL3 HA7 HF7 HG7 HB7
  obtain ⟨yk, yp, ys, yA, yc, yw, yB, yd, yz⟩ := y
  unfold nv at HTX ⊢
  simp only [Nd.k, Nd.p, Nd.s, Nd.A, Nd.c, Nd.ws, Nd.B, Nd.d, Nd.ks] at HTX ⊢
  have hbw9 : Below w8.heap.size w8 ((w8.alloc (.cells #[.int .i64 yk, .int .i64 yp, .string ys, .slice yA yw.length yc, .slice yB yz.length yd] 32)).alloc (.cells #[.int .i64 0, .int .i64 0] 27)) := ((Below.refl _ _).alloc (Nat.le_refl _) _).alloc (by simp) _
  have HA9 := Lib.hid ((RowAt.new w8 32 #[.int .i64 yk, .int .i64 yp, .string ys, .slice yA yw.length yc, .slice yB yz.length yd]).alloc (.cells #[.int .i64 0, .int .i64 0] 27))
  have hf9 := RowAt.new (w8.alloc (.cells #[.int .i64 yk, .int .i64 yp, .string ys, .slice yA yw.length yc, .slice yB yz.length yd] 32)) 27 #[.int .i64 0, .int .i64 0]
  rw [show (w8.alloc (.cells #[.int .i64 yk, .int .i64 yp, .string ys, .slice yA yw.length yc, .slice yB yz.length yd] 32)).heap.size = w8.heap.size + 1 by simp] at hf9
  have HF9 := Lib.hid hf9
  have HB9 := Lib.hid (HB8.out.trans (hbw9.mono HB8.out.size))
  have HA9z := Lib.hid (HA8.out.below hbw9 HA8.out.lt)
  have HF9z := Lib.hid (HF8.out.below hbw9 HF8.out.lt)
  have HG9z := Lib.hid (HG8.out.below hbw9 HG8.out.lt)
  have HT9 := Lib.hid (HTX.out _ hbw9)
  clear hbw9 hf9 HTX
  go_upto_region 4 with fail
  generalize ((w8.alloc (.cells #[.int .i64 yk, .int .i64 yp, .string ys, .slice yA yw.length yc, .slice yB yz.length yd] 32)).alloc (.cells #[.int .i64 0, .int .i64 0] 27)) = w9 at *
  obtain ⟨a0, a1, a2, a3, a4, _, _, _, _, _⟩ := row5 HA9z.out
  obtain ⟨f0, f1, _, _⟩ := row2 HF9z.out
  obtain ⟨g0, g1, _, _⟩ := row2 HG9z.out
  obtain ⟨y0, y1, y2, y3, y4, _, _, _, _, _⟩ := row5 HA9.out
  obtain ⟨k0, k1, _, _⟩ := row2 HF9.out
  go_wp2_with fail
  refine HT9.out.mono ?_
  rintro e wX ⟨rfl, hb⟩
  have HBX := Lib.hid (HB9.out.trans (hb.mono HB9.out.size))
  clear hb
  go_wp2_with fail
  go_ret
  exact ⟨rfl, HBX.out⟩
end Go.Proofs.Ytapnefhmonpgdaa
