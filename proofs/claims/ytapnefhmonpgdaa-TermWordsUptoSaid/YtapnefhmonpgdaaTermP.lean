/-
  The text of a node. Conditions: at most 2^32 nodes and words, texts below 2^47 bytes.
-/
import Derived.Test.YtapnefhmonpgdaaTermO
namespace Go.Proofs.Ytapnefhmonpgdaa
open Go.RowKit LX TR TM
section
variable (s : List UInt8) (ws ks : List (List UInt8))
theorem tx1_1 : tx1 1 s ws ks = s := by simp [tx1]
theorem tx1_2 : tx1 2 s ws ks = s := by simp [tx1]
theorem tx1_7 : tx1 7 s ws ks = 35 :: ks.headD [] := by simp [tx1]
theorem tx1_11 : tx1 11 s ws ks = s ++ 61 :: ks.headD [] := by simp [tx1]
theorem tx1_4 : tx1 4 s ws ks = 40 :: (jc ks ++ [41]) := by simp [tx1]
theorem tx1_8 : tx1 8 s ws ks = 43 :: 40 :: (jc ks ++ [41]) := by simp [tx1]
theorem tx1_9 : tx1 9 s ws ks = 38 :: 40 :: (jc ks ++ [41]) := by simp [tx1]
theorem tx1_5 : tx1 5 s ws ks = 91 :: (jc ks ++ [93]) := by simp [tx1]
theorem tx1_3 : tx1 3 s ws ks = 123 :: (jc ws ++ [125]) := by simp [tx1]
theorem tx1_6 : tx1 6 s ws ks = s ++ 58 :: 123 :: (jc ws ++ [125]) := by simp [tx1]
theorem tx1_10 : tx1 10 s ws ks = 91 :: (jc ks ++ (if ws = [] then [93] else 124 :: (jc ws ++ [93]))) := by simp [tx1]
theorem tx1_else {k : Int} (h1 : ¬ k = 1) (h2 : ¬ k = 2) (h7 : ¬ k = 7) (h11 : ¬ k = 11) (h4 : ¬ k = 4) (h8 : ¬ k = 8) (h9 : ¬ k = 9) (h5 : ¬ k = 5) (h3 : ¬ k = 3) (h6 : ¬ k = 6) (h10 : ¬ k = 10) : tx1 k s ws ks = [] := by
  simp [tx1, h1, h2, h7, h11, h4, h8, h9, h5, h3, h6, h10]
end
theorem lst_app (a b : ByteArray) : lst (a ++ b) = lst a ++ lst b := by simp [lst]
theorem bsz0 : (⟨#[]⟩ : ByteArray).size = 0 := rfl
theorem bsz1 (c : UInt8) : (⟨#[c]⟩ : ByteArray).size = 1 := rfl
theorem bsz2 (c d : UInt8) : (⟨#[c, d]⟩ : ByteArray).size = 2 := rfl
theorem lst_one (c : UInt8) : lst ⟨#[c]⟩ = [c] := rfl
theorem lst_two (c d : UInt8) : lst ⟨#[c, d]⟩ = [c, d] := rfl
theorem lst_none : lst ⟨#[]⟩ = [] := rfl
theorem Writes.weak {F : FuncId} {v : Value} {t : List UInt8} {K K' : World → Nat → Prop} (h : Writes F v t K) (hk : ∀ w B, K' w B → K w B) : Writes F v t K' := fun w B b acc h1 h2 h3 h4 => h w B b acc h1 h2 h3 (hk w B h4)
set_option maxHeartbeats 1600000 in
theorem wfirst_any {K : World → Nat → Prop} (A : Option Addr) (c : Nat) (zs : List Nd) (HF : ∀ z ∈ zs, Writes 38 (.agg (nv z)) (tx z) K)
    (w : World) (B b : Nat) (acc : List UInt8) (h : Bld w B b acc) (hB : B ≤ w.heap.size) (hl : acc.length + ((txs zs).headD []).length ≤ 140737488355328) (hk : K w B) (hA : Sl w B A (ncs zs)) :
    Calls Try.prog 70 #[.pointer (some ⟨b, 0, none⟩), .slice A zs.length c] w fun e w' => e = .returned (.tuple #[]) ∧ Bld w' B b (acc ++ (txs zs).headD []) ∧ Below B w w' ∧ Lib.OthersKept 5 (some b) w w' := by
  cases zs with
  | nil =>
    have HH := Lib.hid h
    rw [show (txs []).headD [] = [] by simp [txs], List.append_nil]
    simp only [List.length_nil]
    clear h hA hl HF
    go_enter Try.func70, Try.ntmps70
    go_wp2_with fail
    go_end0
    exact ⟨rfl, HH.out, Below.refl _ _, Lib.OthersKept.refl _ _ _⟩
  | cons z zs =>
    rw [txs_cons, List.headD_cons] at hl ⊢
    have HC := Lib.hid (HF z (by simp) w B b acc h hB hl hk)
    obtain ⟨bb, o, rfl, hbb, hc⟩ := sl_at (z := n0) ncells_length hA (k := 0) (by simp) (by omega)
    have q0 := hc 0 0 _ (by simp) (by omega) rfl
    have q1 := hc 0 1 _ (by simp) (by omega) rfl
    have q2 := hc 0 2 _ (by simp) (by omega) rfl
    have q3 := hc 0 3 _ (by simp) (by omega) rfl
    have q4 := hc 0 4 _ (by simp) (by omega) rfl
    simp only [Nat.zero_mul, Nat.add_zero, Nat.zero_add, List.getD_cons_zero] at q0 q1 q2 q3 q4
    simp only [List.length_cons]
    have hlen : (0 : Int) < ((zs.length + 1 : Nat) : Int) := by omega
    generalize zs.length + 1 = n at *
    unfold nv at HC
    clear h hA hl HF hc
    obtain ⟨zk, zp, zs9, zA, zc, zw, zB, zd, zz⟩ := z
    simp only [Nd.k, Nd.p, Nd.s, Nd.A, Nd.c, Nd.ws, Nd.B, Nd.d, Nd.ks] at q0 q1 q2 q3 q4 HC
    go_enter Try.func70, Try.ntmps70
    go_wp2_with fail
    refine HC.out.mono ?_
    rintro e w1 ⟨rfl, k1, k2, k3⟩
    have HBU := Lib.hid k1
    have HW := Lib.hid k2
    have HO := Lib.hid k3
    clear k1 k2 k3
    go_wp2_with fail
    go_end0
    exact ⟨rfl, HBU.out, HW.out, HO.out⟩
set_option maxRecDepth 100000 in
set_option maxHeartbeats 12800000 in
theorem write_step (N : Nat) (hN : N ≤ 4294967296) (ih : ∀ y, cnt [y] ≤ N → Writes 38 (.agg (nv y)) (tx y) (fun w B => Nods w B [y])) (z : Nd) (hz : cnt [z] ≤ N + 1) :
    Writes 38 (.agg (nv z)) (tx z) (fun w B => Nods w B [z]) := by
  intro w B b acc h hB hl hnd
  obtain ⟨zk, zp, zs, zA, zc, zw, zB, zd, zz⟩ := z
  have hcz : 1 + zw.length + cnt zz ≤ N + 1 := by rw [cnt_cons] at hz; simp only [cnt, Nat.add_zero] at hz; exact hz
  have hzl := length_cnt zz
  have HKF : Hid (∀ y ∈ zz, Writes 38 (.agg (nv y)) (tx y) (fun w B => Nods w B zz)) := fun y hy => (ih y (by
    have h1 := cnt_mem hy
    rw [cnt_cons]
    simp only [cnt, Nat.add_zero]
    omega)).weak fun w B h => h.mem hy
  have HNK : Hid (Nods w B zz) := hnd.kids
  have HSW : Hid (Sl w B zA (wcs zw)) := hnd.at.1.1
  have HSK : Hid (Sl w B zB (ncs zz)) := hnd.at.2.1
  have hgb : w.heap.size ≠ b := Nat.ne_of_gt (bld_lt h)
  have HBUw0 := Lib.hid (bld_below h ((Below.refl _ _).alloc (Nat.le_refl _) (.cells (nv (.mk zk zp zs zA zc zw zB zd zz)) 32)))
  have HWw0 : Hid (Below B w (w.alloc (.cells (nv (.mk zk zp zs zA zc zw zB zd zz)) 32))) := (Below.refl B w).alloc hB _
  have HOw0 : Hid (Lib.OthersKept 5 (some b) w (w.alloc (.cells (nv (.mk zk zp zs zA zc zw zB zd zz)) 32))) := (Lib.OthersKept.refl _ _ w).alloc _
  have HRw0 := Lib.hid (RowAt.new w 32 (nv (.mk zk zp zs zA zc zw zB zd zz)))
  have hzw0 : B ≤ (w.alloc (.cells (nv (.mk zk zp zs zA zc zw zB zd zz)) 32)).heap.size := by simp; omega
  unfold nv at HBUw0 HWw0 HOw0 HRw0 hzw0 ⊢
  simp only [Nd.k, Nd.p, Nd.s, Nd.A, Nd.c, Nd.ws, Nd.B, Nd.d, Nd.ks] at HBUw0 HWw0 HOw0 HRw0 hzw0 ⊢
  obtain ⟨m0, m1, m2, m3, m4, _, _, _, _, _⟩ := row5 HRw0.out
  clear h hnd ih
  by_cases h1 : zk = 1
  · subst h1
    have HTX : Hid (tx (.mk 1 zp zs zA zc zw zB zd zz) = tx1 1 (lst zs) (wtx zw) (txs zz)) := rfl
    rw [tx1_1] at HTX
    go_enter Try.func38, Try.ntmps38
    go_wp2_with fail
    have C1 := Lib.hid (wstr_any zs HBUw0.out hzw0 (by rw [HTX.out] at hl; (try simp only [wtx, txs_map] at hl); (try simp only [lst_length] at hl); (try simp only [List.length_append, List.length_cons, List.length_nil, lst_length, lst_app, lst_one, lst_two, lst_none, ByteArray.size_append, bsz0, bsz1, bsz2]); (try simp only [txs_map]); first | omega | (simp [ByteArray.size] at hl ⊢; omega)))
    go_wp2_with fail
    refine C1.out.mono ?_
    rintro e w1 ⟨rfl, k1, k2, k3⟩
    have HBUw1 := Lib.hid k1
    have HWw1 : Hid (Below B w w1) := HWw0.out.trans k2
    have HOw1 : Hid (Lib.OthersKept 5 (some b) w w1) := HOw0.out.trans k3
    have HRw1 := Lib.hid (others_row k3 HRw0.out hgb (by decide))
    obtain ⟨m0, m1, m2, m3, m4, _, _, _, _, _⟩ := row5 HRw1.out
    have hzw1 : B ≤ w1.heap.size := Nat.le_trans hB HWw1.out.size
    clear k1 k2 k3
    clear C1
    go_wp2_with fail
    go_end0
    exact ⟨rfl, (by have h := HBUw1.out; rw [HTX.out]; simpa [wtx, txs_map, lst_one, lst_two, lst_none, lst_app] using h), HWw1.out, HOw1.out⟩
  · by_cases h2 : zk = 2
    · subst h2
      have HTX : Hid (tx (.mk 2 zp zs zA zc zw zB zd zz) = tx1 2 (lst zs) (wtx zw) (txs zz)) := rfl
      rw [tx1_2] at HTX
      go_enter Try.func38, Try.ntmps38
      go_wp2_with fail
      have C1 := Lib.hid (wstr_any zs HBUw0.out hzw0 (by rw [HTX.out] at hl; (try simp only [wtx, txs_map] at hl); (try simp only [lst_length] at hl); (try simp only [List.length_append, List.length_cons, List.length_nil, lst_length, lst_app, lst_one, lst_two, lst_none, ByteArray.size_append, bsz0, bsz1, bsz2]); (try simp only [txs_map]); first | omega | (simp [ByteArray.size] at hl ⊢; omega)))
      go_wp2_with fail
      refine C1.out.mono ?_
      rintro e w1 ⟨rfl, k1, k2, k3⟩
      have HBUw1 := Lib.hid k1
      have HWw1 : Hid (Below B w w1) := HWw0.out.trans k2
      have HOw1 : Hid (Lib.OthersKept 5 (some b) w w1) := HOw0.out.trans k3
      have HRw1 := Lib.hid (others_row k3 HRw0.out hgb (by decide))
      obtain ⟨m0, m1, m2, m3, m4, _, _, _, _, _⟩ := row5 HRw1.out
      have hzw1 : B ≤ w1.heap.size := Nat.le_trans hB HWw1.out.size
      clear k1 k2 k3
      clear C1
      go_wp2_with fail
      go_end0
      exact ⟨rfl, (by have h := HBUw1.out; rw [HTX.out]; simpa [wtx, txs_map, lst_one, lst_two, lst_none, lst_app] using h), HWw1.out, HOw1.out⟩
    · by_cases h7 : zk = 7
      · subst h7
        have HTX : Hid (tx (.mk 7 zp zs zA zc zw zB zd zz) = tx1 7 (lst zs) (wtx zw) (txs zz)) := rfl
        rw [tx1_7] at HTX
        go_enter Try.func38, Try.ntmps38
        go_wp2_with fail
        have C1 := Lib.hid (wbyte_any 35 HBUw0.out hzw0 (by rw [HTX.out] at hl; (try simp only [txs_map] at hl); (try simp only [List.length_cons] at hl); (try simp only [List.length_append, List.length_cons, List.length_nil, lst_length, lst_app, lst_one, lst_two, lst_none, ByteArray.size_append, bsz0, bsz1, bsz2]); (try simp only [txs_map]); first | omega | (simp [ByteArray.size] at hl ⊢; omega)))
        go_wp2_with fail
        refine C1.out.mono ?_
        rintro e w1 ⟨rfl, k1, k2, k3⟩
        have HBUw1 := Lib.hid k1
        have HWw1 : Hid (Below B w w1) := HWw0.out.trans k2
        have HOw1 : Hid (Lib.OthersKept 5 (some b) w w1) := HOw0.out.trans k3
        have HRw1 := Lib.hid (others_row k3 HRw0.out hgb (by decide))
        obtain ⟨m0, m1, m2, m3, m4, _, _, _, _, _⟩ := row5 HRw1.out
        have hzw1 : B ≤ w1.heap.size := Nat.le_trans hB HWw1.out.size
        clear k1 k2 k3
        clear C1
        have C2 := Lib.hid (wfirst_any (K := fun w B => Nods w B zz) zB zd zz HKF.out _ _ _ _ HBUw1.out hzw1 (by rw [HTX.out] at hl; (try simp only [txs_map] at hl); (try simp only [List.length_cons] at hl); (try simp only [List.length_append, List.length_cons, List.length_nil]); (try simp only [txs_map]); first | omega | (simp [ByteArray.size] at hl ⊢; omega)) (HNK.out.below HWw1.out) (HSK.out.below HWw1.out))
        go_wp2_with fail
        refine C2.out.mono ?_
        rintro e w2 ⟨rfl, k1, k2, k3⟩
        have HBUw2 := Lib.hid k1
        have HWw2 : Hid (Below B w w2) := HWw1.out.trans k2
        have HOw2 : Hid (Lib.OthersKept 5 (some b) w w2) := HOw1.out.trans k3
        have HRw2 := Lib.hid (others_row k3 HRw1.out hgb (by decide))
        obtain ⟨m0, m1, m2, m3, m4, _, _, _, _, _⟩ := row5 HRw2.out
        have hzw2 : B ≤ w2.heap.size := Nat.le_trans hB HWw2.out.size
        clear k1 k2 k3
        clear C2
        go_wp2_with fail
        go_end0
        exact ⟨rfl, (by have h := HBUw2.out; rw [HTX.out]; simpa [wtx, txs_map, lst_one, lst_two, lst_none, lst_app] using h), HWw2.out, HOw2.out⟩
      · by_cases h11 : zk = 11
        · subst h11
          have HTX : Hid (tx (.mk 11 zp zs zA zc zw zB zd zz) = tx1 11 (lst zs) (wtx zw) (txs zz)) := rfl
          rw [tx1_11] at HTX
          have hsz : zs.size ≤ 140737488355327 := by
            rw [HTX.out] at hl
            simp only [List.length_append, List.length_cons, lst_length] at hl
            omega
          go_enter Try.func38, Try.ntmps38
          go_wp2_with fail
          have C1 := Lib.hid (wstr_any (zs ++ ⟨#[61]⟩) HBUw0.out hzw0 (by rw [HTX.out] at hl; (try simp only [txs_map] at hl); (try simp only [List.length_append, List.length_cons, lst_length] at hl); (try simp only [ByteArray.size_append, bsz1]); (try simp only [txs_map]); first | omega | (simp [ByteArray.size] at hl ⊢; omega)))
          go_wp2_with fail
          refine C1.out.mono ?_
          rintro e w1 ⟨rfl, k1, k2, k3⟩
          have HBUw1 := Lib.hid k1
          have HWw1 : Hid (Below B w w1) := HWw0.out.trans k2
          have HOw1 : Hid (Lib.OthersKept 5 (some b) w w1) := HOw0.out.trans k3
          have HRw1 := Lib.hid (others_row k3 HRw0.out hgb (by decide))
          obtain ⟨m0, m1, m2, m3, m4, _, _, _, _, _⟩ := row5 HRw1.out
          have hzw1 : B ≤ w1.heap.size := Nat.le_trans hB HWw1.out.size
          clear k1 k2 k3
          clear C1
          have C2 := Lib.hid (wfirst_any (K := fun w B => Nods w B zz) zB zd zz HKF.out _ _ _ _ HBUw1.out hzw1 (by rw [HTX.out] at hl; (try simp only [txs_map] at hl); (try simp only [List.length_append, List.length_cons, lst_length] at hl); (try simp only [List.length_append, List.length_cons, List.length_nil, lst_length, lst_app, lst_one]); (try simp only [txs_map]); first | omega | (simp [ByteArray.size] at hl ⊢; omega)) (HNK.out.below HWw1.out) (HSK.out.below HWw1.out))
          go_wp2_with fail
          refine C2.out.mono ?_
          rintro e w2 ⟨rfl, k1, k2, k3⟩
          have HBUw2 := Lib.hid k1
          have HWw2 : Hid (Below B w w2) := HWw1.out.trans k2
          have HOw2 : Hid (Lib.OthersKept 5 (some b) w w2) := HOw1.out.trans k3
          have HRw2 := Lib.hid (others_row k3 HRw1.out hgb (by decide))
          obtain ⟨m0, m1, m2, m3, m4, _, _, _, _, _⟩ := row5 HRw2.out
          have hzw2 : B ≤ w2.heap.size := Nat.le_trans hB HWw2.out.size
          clear k1 k2 k3
          clear C2
          go_wp2_with fail
          go_end0
          exact ⟨rfl, (by have h := HBUw2.out; rw [HTX.out]; simpa [wtx, txs_map, lst_one, lst_two, lst_none, lst_app] using h), HWw2.out, HOw2.out⟩
        · by_cases h4 : zk = 4
          · subst h4
            have HTX : Hid (tx (.mk 4 zp zs zA zc zw zB zd zz) = tx1 4 (lst zs) (wtx zw) (txs zz)) := rfl
            rw [tx1_4] at HTX
            go_enter Try.func38, Try.ntmps38
            go_wp2_with fail
            have C1 := Lib.hid ((wlistN_any (fun _ _ => by kernel_rfl) zB zd zz (by omega) HKF.out (fun wa wb B h hb => h.below hb) ⟨#[40]⟩ ⟨#[41]⟩ _ _ _ _ HBUw0.out hzw0 (by rw [HTX.out] at hl; (try simp only [txs_map] at hl); (try simp only [List.length_append, List.length_cons, List.length_nil] at hl); (try simp only [List.length_append, List.length_cons, List.length_nil, lst_one]); (try simp only [txs_map]); first | omega | (simp [ByteArray.size] at hl ⊢; omega)) (HNK.out.below HWw0.out) (HSK.out.below HWw0.out)))
            go_wp2_with fail
            refine C1.out.mono ?_
            rintro e w1 ⟨rfl, k1, k2, k3⟩
            have HBUw1 := Lib.hid k1
            have HWw1 : Hid (Below B w w1) := HWw0.out.trans k2
            have HOw1 : Hid (Lib.OthersKept 5 (some b) w w1) := HOw0.out.trans k3
            have HRw1 := Lib.hid (others_row k3 HRw0.out hgb (by decide))
            obtain ⟨m0, m1, m2, m3, m4, _, _, _, _, _⟩ := row5 HRw1.out
            have hzw1 : B ≤ w1.heap.size := Nat.le_trans hB HWw1.out.size
            clear k1 k2 k3
            clear C1
            go_wp2_with fail
            go_end0
            exact ⟨rfl, (by have h := HBUw1.out; rw [HTX.out]; simpa [wtx, txs_map, lst_one, lst_two, lst_none, lst_app] using h), HWw1.out, HOw1.out⟩
          · by_cases h8 : zk = 8
            · subst h8
              have HTX : Hid (tx (.mk 8 zp zs zA zc zw zB zd zz) = tx1 8 (lst zs) (wtx zw) (txs zz)) := rfl
              rw [tx1_8] at HTX
              go_enter Try.func38, Try.ntmps38
              go_wp2_with fail
              have C1 := Lib.hid ((wlistN_any (fun _ _ => by kernel_rfl) zB zd zz (by omega) HKF.out (fun wa wb B h hb => h.below hb) ⟨#[43, 40]⟩ ⟨#[41]⟩ _ _ _ _ HBUw0.out hzw0 (by rw [HTX.out] at hl; (try simp only [txs_map] at hl); (try simp only [List.length_append, List.length_cons, List.length_nil] at hl); (try simp only [List.length_append, List.length_cons, List.length_nil, lst_one, lst_two]); (try simp only [txs_map]); first | omega | (simp [ByteArray.size] at hl ⊢; omega)) (HNK.out.below HWw0.out) (HSK.out.below HWw0.out)))
              go_wp2_with fail
              refine C1.out.mono ?_
              rintro e w1 ⟨rfl, k1, k2, k3⟩
              have HBUw1 := Lib.hid k1
              have HWw1 : Hid (Below B w w1) := HWw0.out.trans k2
              have HOw1 : Hid (Lib.OthersKept 5 (some b) w w1) := HOw0.out.trans k3
              have HRw1 := Lib.hid (others_row k3 HRw0.out hgb (by decide))
              obtain ⟨m0, m1, m2, m3, m4, _, _, _, _, _⟩ := row5 HRw1.out
              have hzw1 : B ≤ w1.heap.size := Nat.le_trans hB HWw1.out.size
              clear k1 k2 k3
              clear C1
              go_wp2_with fail
              go_end0
              exact ⟨rfl, (by have h := HBUw1.out; rw [HTX.out]; simpa [wtx, txs_map, lst_one, lst_two, lst_none, lst_app] using h), HWw1.out, HOw1.out⟩
            · by_cases h9 : zk = 9
              · subst h9
                have HTX : Hid (tx (.mk 9 zp zs zA zc zw zB zd zz) = tx1 9 (lst zs) (wtx zw) (txs zz)) := rfl
                rw [tx1_9] at HTX
                go_enter Try.func38, Try.ntmps38
                go_wp2_with fail
                have C1 := Lib.hid ((wlistN_any (fun _ _ => by kernel_rfl) zB zd zz (by omega) HKF.out (fun wa wb B h hb => h.below hb) ⟨#[38, 40]⟩ ⟨#[41]⟩ _ _ _ _ HBUw0.out hzw0 (by rw [HTX.out] at hl; (try simp only [txs_map] at hl); (try simp only [List.length_append, List.length_cons, List.length_nil] at hl); (try simp only [List.length_append, List.length_cons, List.length_nil, lst_one, lst_two]); (try simp only [txs_map]); first | omega | (simp [ByteArray.size] at hl ⊢; omega)) (HNK.out.below HWw0.out) (HSK.out.below HWw0.out)))
                go_wp2_with fail
                refine C1.out.mono ?_
                rintro e w1 ⟨rfl, k1, k2, k3⟩
                have HBUw1 := Lib.hid k1
                have HWw1 : Hid (Below B w w1) := HWw0.out.trans k2
                have HOw1 : Hid (Lib.OthersKept 5 (some b) w w1) := HOw0.out.trans k3
                have HRw1 := Lib.hid (others_row k3 HRw0.out hgb (by decide))
                obtain ⟨m0, m1, m2, m3, m4, _, _, _, _, _⟩ := row5 HRw1.out
                have hzw1 : B ≤ w1.heap.size := Nat.le_trans hB HWw1.out.size
                clear k1 k2 k3
                clear C1
                go_wp2_with fail
                go_end0
                exact ⟨rfl, (by have h := HBUw1.out; rw [HTX.out]; simpa [wtx, txs_map, lst_one, lst_two, lst_none, lst_app] using h), HWw1.out, HOw1.out⟩
              · by_cases h5 : zk = 5
                · subst h5
                  have HTX : Hid (tx (.mk 5 zp zs zA zc zw zB zd zz) = tx1 5 (lst zs) (wtx zw) (txs zz)) := rfl
                  rw [tx1_5] at HTX
                  go_enter Try.func38, Try.ntmps38
                  go_wp2_with fail
                  have C1 := Lib.hid ((wlistN_any (fun _ _ => by kernel_rfl) zB zd zz (by omega) HKF.out (fun wa wb B h hb => h.below hb) ⟨#[91]⟩ ⟨#[93]⟩ _ _ _ _ HBUw0.out hzw0 (by rw [HTX.out] at hl; (try simp only [txs_map] at hl); (try simp only [List.length_append, List.length_cons, List.length_nil] at hl); (try simp only [List.length_append, List.length_cons, List.length_nil, lst_one]); (try simp only [txs_map]); first | omega | (simp [ByteArray.size] at hl ⊢; omega)) (HNK.out.below HWw0.out) (HSK.out.below HWw0.out)))
                  go_wp2_with fail
                  refine C1.out.mono ?_
                  rintro e w1 ⟨rfl, k1, k2, k3⟩
                  have HBUw1 := Lib.hid k1
                  have HWw1 : Hid (Below B w w1) := HWw0.out.trans k2
                  have HOw1 : Hid (Lib.OthersKept 5 (some b) w w1) := HOw0.out.trans k3
                  have HRw1 := Lib.hid (others_row k3 HRw0.out hgb (by decide))
                  obtain ⟨m0, m1, m2, m3, m4, _, _, _, _, _⟩ := row5 HRw1.out
                  have hzw1 : B ≤ w1.heap.size := Nat.le_trans hB HWw1.out.size
                  clear k1 k2 k3
                  clear C1
                  go_wp2_with fail
                  go_end0
                  exact ⟨rfl, (by have h := HBUw1.out; rw [HTX.out]; simpa [wtx, txs_map, lst_one, lst_two, lst_none, lst_app] using h), HWw1.out, HOw1.out⟩
                · by_cases h3 : zk = 3
                  · subst h3
                    have HTX : Hid (tx (.mk 3 zp zs zA zc zw zB zd zz) = tx1 3 (lst zs) (wtx zw) (txs zz)) := rfl
                    rw [tx1_3] at HTX
                    go_enter Try.func38, Try.ntmps38
                    go_wp2_with fail
                    have C1 := Lib.hid ((wlistW_any (f := fun x => lst x.s) (KK := fun _ _ => True) (fun _ _ => by kernel_rfl) zA zc zw (by omega) (fun z _ => writeName_any z _) (fun _ _ _ _ _ => trivial) ⟨#[123]⟩ ⟨#[125]⟩ _ _ _ _ HBUw0.out hzw0 (by rw [HTX.out] at hl; (try simp only [wtx] at hl); (try simp only [List.length_append, List.length_cons, List.length_nil] at hl); (try simp only [List.length_append, List.length_cons, List.length_nil, lst_one]); (try simp only [txs_map]); first | omega | (simp [ByteArray.size] at hl ⊢; omega)) trivial (HSW.out.below HWw0.out)))
                    go_wp2_with fail
                    refine C1.out.mono ?_
                    rintro e w1 ⟨rfl, k1, k2, k3⟩
                    have HBUw1 := Lib.hid k1
                    have HWw1 : Hid (Below B w w1) := HWw0.out.trans k2
                    have HOw1 : Hid (Lib.OthersKept 5 (some b) w w1) := HOw0.out.trans k3
                    have HRw1 := Lib.hid (others_row k3 HRw0.out hgb (by decide))
                    obtain ⟨m0, m1, m2, m3, m4, _, _, _, _, _⟩ := row5 HRw1.out
                    have hzw1 : B ≤ w1.heap.size := Nat.le_trans hB HWw1.out.size
                    clear k1 k2 k3
                    clear C1
                    go_wp2_with fail
                    go_end0
                    exact ⟨rfl, (by have h := HBUw1.out; rw [HTX.out]; simpa [wtx, txs_map, lst_one, lst_two, lst_none, lst_app] using h), HWw1.out, HOw1.out⟩
                  · by_cases h6 : zk = 6
                    · subst h6
                      have HTX : Hid (tx (.mk 6 zp zs zA zc zw zB zd zz) = tx1 6 (lst zs) (wtx zw) (txs zz)) := rfl
                      rw [tx1_6] at HTX
                      go_enter Try.func38, Try.ntmps38
                      go_wp2_with fail
                      have C1 := Lib.hid (wstr_any zs HBUw0.out hzw0 (by rw [HTX.out] at hl; (try simp only [wtx] at hl); (try simp only [List.length_append, List.length_cons, List.length_nil, lst_length] at hl); (try simp only [List.length_append, List.length_cons, List.length_nil, lst_length, lst_app, lst_one, lst_two, lst_none, ByteArray.size_append, bsz0, bsz1, bsz2]); (try simp only [txs_map]); first | omega | (simp [ByteArray.size] at hl ⊢; omega)))
                      go_wp2_with fail
                      refine C1.out.mono ?_
                      rintro e w1 ⟨rfl, k1, k2, k3⟩
                      have HBUw1 := Lib.hid k1
                      have HWw1 : Hid (Below B w w1) := HWw0.out.trans k2
                      have HOw1 : Hid (Lib.OthersKept 5 (some b) w w1) := HOw0.out.trans k3
                      have HRw1 := Lib.hid (others_row k3 HRw0.out hgb (by decide))
                      obtain ⟨m0, m1, m2, m3, m4, _, _, _, _, _⟩ := row5 HRw1.out
                      have hzw1 : B ≤ w1.heap.size := Nat.le_trans hB HWw1.out.size
                      clear k1 k2 k3
                      clear C1
                      have C2 := Lib.hid ((wlistW_any (f := fun x => lst x.s) (KK := fun _ _ => True) (fun _ _ => by kernel_rfl) zA zc zw (by omega) (fun z _ => writeName_any z _) (fun _ _ _ _ _ => trivial) ⟨#[58, 123]⟩ ⟨#[125]⟩ _ _ _ _ HBUw1.out hzw1 (by rw [HTX.out] at hl; (try simp only [wtx] at hl); (try simp only [List.length_append, List.length_cons, List.length_nil, lst_length] at hl); (try simp only [List.length_append, List.length_cons, List.length_nil, lst_length, lst_one, lst_two]); (try simp only [txs_map]); first | omega | (simp [ByteArray.size] at hl ⊢; omega)) trivial (HSW.out.below HWw1.out)))
                      go_wp2_with fail
                      refine C2.out.mono ?_
                      rintro e w2 ⟨rfl, k1, k2, k3⟩
                      have HBUw2 := Lib.hid k1
                      have HWw2 : Hid (Below B w w2) := HWw1.out.trans k2
                      have HOw2 : Hid (Lib.OthersKept 5 (some b) w w2) := HOw1.out.trans k3
                      have HRw2 := Lib.hid (others_row k3 HRw1.out hgb (by decide))
                      obtain ⟨m0, m1, m2, m3, m4, _, _, _, _, _⟩ := row5 HRw2.out
                      have hzw2 : B ≤ w2.heap.size := Nat.le_trans hB HWw2.out.size
                      clear k1 k2 k3
                      clear C2
                      go_wp2_with fail
                      go_end0
                      exact ⟨rfl, (by have h := HBUw2.out; rw [HTX.out]; simpa [wtx, txs_map, lst_one, lst_two, lst_none, lst_app] using h), HWw2.out, HOw2.out⟩
                    · by_cases h10 : zk = 10
                      · subst h10
                        have HTX : Hid (tx (.mk 10 zp zs zA zc zw zB zd zz) = tx1 10 (lst zs) (wtx zw) (txs zz)) := rfl
                        rw [tx1_10] at HTX
                        by_cases hw : zw = []
                        · subst hw
                          rw [if_pos (show wtx [] = [] from rfl)] at HTX
                          simp only [List.length_nil] at *
                          go_enter Try.func38, Try.ntmps38
                          go_wp2_with fail
                          have C1 := Lib.hid ((wlistN_any (fun _ _ => by kernel_rfl) zB zd zz (by omega) HKF.out (fun wa wb B h hb => h.below hb) ⟨#[91]⟩ ⟨#[]⟩ _ _ _ _ HBUw0.out hzw0 (by rw [HTX.out] at hl; (try simp only [txs_map] at hl); (try simp only [List.length_append, List.length_cons, List.length_nil] at hl); (try simp only [List.length_append, List.length_cons, List.length_nil, lst_one, lst_none]); (try simp only [txs_map]); first | omega | (simp [ByteArray.size] at hl ⊢; omega)) (HNK.out.below HWw0.out) (HSK.out.below HWw0.out)))
                          go_wp2_with fail
                          refine C1.out.mono ?_
                          rintro e w1 ⟨rfl, k1, k2, k3⟩
                          have HBUw1 := Lib.hid k1
                          have HWw1 : Hid (Below B w w1) := HWw0.out.trans k2
                          have HOw1 : Hid (Lib.OthersKept 5 (some b) w w1) := HOw0.out.trans k3
                          have HRw1 := Lib.hid (others_row k3 HRw0.out hgb (by decide))
                          obtain ⟨m0, m1, m2, m3, m4, _, _, _, _, _⟩ := row5 HRw1.out
                          have hzw1 : B ≤ w1.heap.size := Nat.le_trans hB HWw1.out.size
                          clear k1 k2 k3
                          clear C1
                          have C2 := Lib.hid (wbyte_any 93 HBUw1.out hzw1 (by rw [HTX.out] at hl; (try simp only [txs_map] at hl); (try simp only [List.length_append, List.length_cons, List.length_nil] at hl); (try simp only [List.length_append, List.length_cons, List.length_nil, lst_one, lst_none]); (try simp only [txs_map]); first | omega | (simp [ByteArray.size] at hl ⊢; omega)))
                          go_wp2_with fail
                          refine C2.out.mono ?_
                          rintro e w2 ⟨rfl, k1, k2, k3⟩
                          have HBUw2 := Lib.hid k1
                          have HWw2 : Hid (Below B w w2) := HWw1.out.trans k2
                          have HOw2 : Hid (Lib.OthersKept 5 (some b) w w2) := HOw1.out.trans k3
                          have HRw2 := Lib.hid (others_row k3 HRw1.out hgb (by decide))
                          obtain ⟨m0, m1, m2, m3, m4, _, _, _, _, _⟩ := row5 HRw2.out
                          have hzw2 : B ≤ w2.heap.size := Nat.le_trans hB HWw2.out.size
                          clear k1 k2 k3
                          clear C2
                          go_wp2_with fail
                          go_end0
                          exact ⟨rfl, (by have h := HBUw2.out; rw [HTX.out]; simpa [wtx, txs_map, lst_one, lst_none] using h), HWw2.out, HOw2.out⟩
                        · rw [if_neg (show ¬ wtx zw = [] from fun e => hw (List.map_eq_nil_iff.1 e))] at HTX
                          have hwl : 0 < zw.length := List.length_pos_iff.2 hw
                          go_enter Try.func38, Try.ntmps38
                          go_wp2_with fail
                          have C1 := Lib.hid ((wlistN_any (fun _ _ => by kernel_rfl) zB zd zz (by omega) HKF.out (fun wa wb B h hb => h.below hb) ⟨#[91]⟩ ⟨#[]⟩ _ _ _ _ HBUw0.out hzw0 (by rw [HTX.out] at hl; (try simp only [wtx, txs_map] at hl); (try simp only [List.length_append, List.length_cons, List.length_nil] at hl); (try simp only [List.length_append, List.length_cons, List.length_nil, lst_one, lst_none]); (try simp only [txs_map]); first | omega | (simp [ByteArray.size] at hl ⊢; omega)) (HNK.out.below HWw0.out) (HSK.out.below HWw0.out)))
                          go_wp2_with fail
                          refine C1.out.mono ?_
                          rintro e w1 ⟨rfl, k1, k2, k3⟩
                          have HBUw1 := Lib.hid k1
                          have HWw1 : Hid (Below B w w1) := HWw0.out.trans k2
                          have HOw1 : Hid (Lib.OthersKept 5 (some b) w w1) := HOw0.out.trans k3
                          have HRw1 := Lib.hid (others_row k3 HRw0.out hgb (by decide))
                          obtain ⟨m0, m1, m2, m3, m4, _, _, _, _, _⟩ := row5 HRw1.out
                          have hzw1 : B ≤ w1.heap.size := Nat.le_trans hB HWw1.out.size
                          clear k1 k2 k3
                          clear C1
                          have C2 := Lib.hid ((wlistW_any (f := fun x => lst x.s) (KK := fun _ _ => True) (fun _ _ => by kernel_rfl) zA zc zw (by omega) (fun z _ => writeName_any z _) (fun _ _ _ _ _ => trivial) ⟨#[124]⟩ ⟨#[]⟩ _ _ _ _ HBUw1.out hzw1 (by rw [HTX.out] at hl; (try simp only [wtx, txs_map] at hl); (try simp only [List.length_append, List.length_cons, List.length_nil] at hl); (try simp only [List.length_append, List.length_cons, List.length_nil, lst_one, lst_none]); (try simp only [txs_map]); first | omega | (simp [ByteArray.size] at hl ⊢; omega)) trivial (HSW.out.below HWw1.out)))
                          go_wp2_with fail
                          refine C2.out.mono ?_
                          rintro e w2 ⟨rfl, k1, k2, k3⟩
                          have HBUw2 := Lib.hid k1
                          have HWw2 : Hid (Below B w w2) := HWw1.out.trans k2
                          have HOw2 : Hid (Lib.OthersKept 5 (some b) w w2) := HOw1.out.trans k3
                          have HRw2 := Lib.hid (others_row k3 HRw1.out hgb (by decide))
                          obtain ⟨m0, m1, m2, m3, m4, _, _, _, _, _⟩ := row5 HRw2.out
                          have hzw2 : B ≤ w2.heap.size := Nat.le_trans hB HWw2.out.size
                          clear k1 k2 k3
                          clear C2
                          have C3 := Lib.hid (wbyte_any 93 HBUw2.out hzw2 (by rw [HTX.out] at hl; (try simp only [wtx, txs_map] at hl); (try simp only [List.length_append, List.length_cons, List.length_nil] at hl); (try simp only [List.length_append, List.length_cons, List.length_nil, lst_one, lst_none]); (try simp only [txs_map]); first | omega | (simp [ByteArray.size] at hl ⊢; omega)))
                          go_wp2_with fail
                          refine C3.out.mono ?_
                          rintro e w3 ⟨rfl, k1, k2, k3⟩
                          have HBUw3 := Lib.hid k1
                          have HWw3 : Hid (Below B w w3) := HWw2.out.trans k2
                          have HOw3 : Hid (Lib.OthersKept 5 (some b) w w3) := HOw2.out.trans k3
                          have HRw3 := Lib.hid (others_row k3 HRw2.out hgb (by decide))
                          obtain ⟨m0, m1, m2, m3, m4, _, _, _, _, _⟩ := row5 HRw3.out
                          have hzw3 : B ≤ w3.heap.size := Nat.le_trans hB HWw3.out.size
                          clear k1 k2 k3
                          clear C3
                          go_wp2_with fail
                          go_end0
                          exact ⟨rfl, (by have h := HBUw3.out; rw [HTX.out]; simpa [wtx, txs_map, lst_one, lst_none] using h), HWw3.out, HOw3.out⟩
                      · have q1 : (zk == 1) = false := by rw [beq_eq_false_iff_ne]; exact h1
                        have q2 : (zk == 2) = false := by rw [beq_eq_false_iff_ne]; exact h2
                        have q7 : (zk == 7) = false := by rw [beq_eq_false_iff_ne]; exact h7
                        have q11 : (zk == 11) = false := by rw [beq_eq_false_iff_ne]; exact h11
                        have q4 : (zk == 4) = false := by rw [beq_eq_false_iff_ne]; exact h4
                        have q8 : (zk == 8) = false := by rw [beq_eq_false_iff_ne]; exact h8
                        have q9 : (zk == 9) = false := by rw [beq_eq_false_iff_ne]; exact h9
                        have q5 : (zk == 5) = false := by rw [beq_eq_false_iff_ne]; exact h5
                        have q3 : (zk == 3) = false := by rw [beq_eq_false_iff_ne]; exact h3
                        have q6 : (zk == 6) = false := by rw [beq_eq_false_iff_ne]; exact h6
                        have q10 : (zk == 10) = false := by rw [beq_eq_false_iff_ne]; exact h10
                        have HTX : Hid (tx (.mk zk zp zs zA zc zw zB zd zz) = []) := tx1_else _ _ _ h1 h2 h7 h11 h4 h8 h9 h5 h3 h6 h10
                        go_enter Try.func38, Try.ntmps38
                        go_wp2_with fail
                        go_end0
                        exact ⟨rfl, (by rw [HTX.out, List.append_nil]; exact HBUw0.out), HWw0.out, HOw0.out⟩
theorem write_any : ∀ N, N ≤ 4294967296 → ∀ z, cnt [z] ≤ N → Writes 38 (.agg (nv z)) (tx z) (fun w B => Nods w B [z]) := by
  intro N
  induction N with
  | zero => intro _ z hz; rw [cnt_cons] at hz; omega
  | succ N ih => intro h z hz; exact write_step N (by omega) (ih (by omega)) z hz
theorem nods_nv {w : World} {B : Nat} {z : Nd} (h : Nods w B [z]) : Nods w B [z] := h
/-- The text of a node as a string. -/
def text10 (z : Nd) : ByteArray := ⟨(tx z).toArray⟩
set_option maxRecDepth 100000 in
set_option maxHeartbeats 1600000 in
theorem text_any (z : Nd) (w : World) (hz : cnt [z] ≤ 4294967296) (hl : (tx z).length ≤ 140737488355328) (h : Nods w w.heap.size [z]) :
    Calls Try.prog 13 #[.agg (nv z)] w fun e w' => e = .returned (.string (text10 z)) ∧ Below w.heap.size w w' := by
  have HB0 : Hid (Below w.heap.size w ((w.alloc (.cells (nv z) 32)).alloc (.cells #[.pointer none, .slice none 0 0] 74))) := ((Below.refl _ _).alloc (Nat.le_refl _) _).alloc (by simp) _
  have hbl : Bld ((w.alloc (.cells (nv z) 32)).alloc (.cells #[.pointer none, .slice none 0 0] 74)) (w.heap.size + 1) (w.heap.size + 1) [] := by
    have h1 := Lib.fresh_isBuilder 74 5 (w.alloc (.cells (nv z) 32))
    rw [show (w.alloc (.cells (nv z) 32)).heap.size = w.heap.size + 1 by simp] at h1
    exact h1
  have HC := Lib.hid (write_any _ (Nat.le_refl _) z hz _ _ _ _ hbl (by simp) (by simpa using hl) ((h.below HB0.out).mono (Nat.le_succ _)))
  have hn := (RowAt.new w 32 (nv z)).alloc (.cells #[.pointer none, .slice none 0 0] 74)
  rw [List.nil_append] at HC
  clear hbl h
  have HTX : Hid (text10 z = ⟨(tx z).toArray⟩) := rfl
  generalize tx z = t at *
  generalize text10 z = tt at *
  obtain ⟨zk, zp, zs, zA, zc, zw, zB, zd, zz⟩ := z
  unfold nv at HB0 HC hn ⊢
  simp only [Nd.k, Nd.p, Nd.s, Nd.A, Nd.c, Nd.ws, Nd.B, Nd.d, Nd.ks] at HB0 HC hn ⊢
  obtain ⟨m0, m1, m2, m3, m4, _, _, _, _, _⟩ := row5 hn
  clear hn
  go_enter Try.func13, Try.ntmps13
  go_wp2_with fail
  refine HC.out.mono ?_
  rintro e w1 ⟨rfl, k1, k2, _⟩
  have HBU := Lib.hid k1
  have HW := Lib.hid (HB0.out.trans (k2.mono (Nat.le_succ _)))
  have hsz : w.heap.size + 1 ≤ w1.heap.size := Nat.le_of_lt (bld_lt k1)
  clear k1 k2
  go_wp2_with fail
  refine (Try.Builder_String_any _ _ _ _ HBU.out hsz).mono ?_
  rintro e w2 ⟨rfl, hb⟩
  have HW1 := Lib.hid (HW.out.trans (hb.mono (Nat.le_succ _))); clear hb
  go_wp2
  go_ret
  exact ⟨ret_eq (by rw [HTX.out]; rfl), HW1.out⟩
end Go.Proofs.Ytapnefhmonpgdaa
