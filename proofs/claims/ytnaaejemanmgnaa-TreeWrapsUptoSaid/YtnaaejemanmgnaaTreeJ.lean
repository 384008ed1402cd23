/-
  The walk over trees, whatever is done at each token. Conditions: fewer than 2^30 trees.
-/
import Derived.Test.YtnaaejemanmgnaaTreeB
namespace Go.Proofs.Ytnaaejemanmgnaa
namespace TR
open LX
/-- A level of the walk: trees that are left, and the closing token of the bracket that they stand in. -/
structure Lv where
  A : Option Addr
  c : Nat
  l : List Tr
  e : Tk
def lcells (v : Lv) : List Value := [.slice v.A v.l.length v.c, .int .u8 (v.e.k : Int), .string v.e.s, .int .i64 v.e.p]
theorem lcells_length (v : Lv) : (lcells v).length = 4 := rfl
def lvs (vs : List Lv) : List Value := vs.flatMap lcells
theorem lvs_length (vs : List Lv) : (lvs vs).length = vs.length * 4 := fm_length lcells_length vs
theorem lvs_append (a b : List Lv) : lvs (a ++ b) = lvs a ++ lvs b := by simp [lvs]
theorem lvs_one (v : Lv) : lvs [v] = lcells v := by simp [lvs]
theorem lvs_top (ws : List Lv) (v : Lv) (j : Nat) : (lvs (ws ++ [v]))[ws.length * 4 + j]? = (lcells v)[j]? := by
  rw [lvs_append, lvs_one, List.getElem?_append_right (by rw [lvs_length]; omega), lvs_length, show ws.length * 4 + j - ws.length * 4 = j by omega]
theorem lvs_cut (ws : List Lv) (v : Lv) : (lvs (ws ++ [v])).take (ws.length * 4) = lvs ws := by
  rw [lvs_append]; exact List.take_left' (lvs_length ws)
theorem lvs_set (ws : List Lv) (v : Lv) (A : Option Addr) (c : Nat) (l : List Tr) : (lvs (ws ++ [v])).set (ws.length * 4) (.slice A l.length c) = lvs (ws ++ [⟨A, c, l, v.e⟩]) := by
  rw [lvs_append, lvs_append, lvs_one, lvs_one, List.set_append_right _ _ (by rw [lvs_length]; omega), lvs_length, Nat.sub_self]
  rfl
/-- What is still to be met: the innermost level first. -/
def rem : List Lv → List (Tk × Int)
  | [] => []
  | [v] => evs v.l
  | v :: u :: ws => evs v.l ++ (v.e, -1) :: rem (u :: ws)
def wt : List Lv → Nat
  | [] => 0
  | v :: ws => 2 * (nodes v.l).length + 1 + wt ws
theorem wt_append (a b : List Lv) : wt (a ++ b) = wt a + wt b := by
  induction a with
  | nil => simp [wt]
  | cons v a ih => simp only [List.cons_append, wt, ih]; omega
theorem wt_length (a : List Lv) : a.length ≤ wt a := by
  induction a with
  | nil => simp
  | cons v a ih => simp only [List.length_cons, wt]; omega
theorem evs_cons (x : Tr) (r : List Tr) : evs (x :: r) = if cl x.t.k = 0 then (x.t, 0) :: evs r else (x.t, 1) :: (evs x.ks ++ (⟨cl x.t.k, chr (cl x.t.k), x.e⟩, -1) :: evs r) := by
  cases x; rw [evs]; rfl
theorem evs_nil : evs [] = [] := by simp [evs]
theorem nodes_cons (x : Tr) (r : List Tr) : (nodes (x :: r)).length = 1 + (nodes x.ks).length + (nodes r).length := by
  cases x; simp [nodes, Tr.ks]; omega
theorem rem_cons (v : Lv) (ws : List Lv) : rem (v :: ws) = evs v.l ++ (if ws = [] then [] else (v.e, -1) :: rem ws) := by
  cases ws with
  | nil => simp [rem]
  | cons u ws => simp [rem]
end TR
open Go.RowKit LX TR

theorem chr_utf (k : Nat) (hk : k < 128) : Utf8.encode (k : Int) = chr k := by
  have h : ∀ k : Fin 128, Utf8.encode (k.val : Int) = chr k.val := by decide
  exact h ⟨k, hk⟩
theorem infoLevel : (Try.prog.info? 59).map (fun i => (i.zero, i.size, i.bytes)) = some (some (.agg #[.slice none 0 0, .int .u8 0, .string ⟨#[]⟩, .int .i64 0]), 4, 56) := by kernel_rfl
theorem own_blk {g n c b : Nat} (h : (Value.slice (some ⟨g, 0, none⟩) n c).ownBlock = some b) : b = g := by
  have e : g = b := by simpa [Value.ownBlock] using h
  exact e.symm
theorem own_like {w w' : World} {base size n : Nat} {e : TypeId} {v : Value} {cs : List Value} (h : w.ownsRow base e size v n cs) (hb : ∀ b, b < w.heap.size → v.ownBlock = some b → w'.heap[b]? = w.heap[b]?) : w'.ownsRow base e size v n cs := by
  refine ⟨h.1, ?_⟩
  rcases h.2 with hn | ⟨g, cap, cur, rfl, hg, hh, rest⟩
  · exact .inl hn
  · exact .inr ⟨g, cap, cur, rfl, hg, (hb g (Array.getElem?_eq_some_iff.1 hh).1 rfl).trans hh, rest⟩
/-- Changes outside of some blocks. -/
structure Out (V : Nat → Prop) (w w' : World) : Prop where
  size : w.heap.size ≤ w'.heap.size
  block : ∀ b, b < w.heap.size → V b → w'.heap[b]? = w.heap[b]?

set_option maxRecDepth 100000 in
set_option maxHeartbeats 8000000 in
theorem walk_any (A : Option Addr) (c : Nat) (l : List Tr) (F : FuncId) (cap : Array Value) (hf : ∀ args w, (callFunc F args).run Try.prog w = .ok (.enter F args) w) (B : Nat) (w : World) (hB : B ≤ w.heap.size) (hN : (nodes l).length ≤ 1073741824)
    (hA : Trs w B A l) (hc : l.length ≤ c)
    (Inv : List (Tk × Int) → (Nat → Prop) → World → Prop) (hst : ∀ acc V wa wb, Inv acc V wa → Out V wa wb → Inv acc V wb) (hV : ∀ acc V W, Inv acc V W → ∀ b, V b → B ≤ b ∧ b < W.heap.size)
    (V0 : Nat → Prop) (h0 : Inv [] V0 w)
    (H : ∀ acc t s V W, (∃ z, (acc ++ [(t, s)]) ++ z = evs l) → Inv acc V W → Calls Try.prog F (#[.agg (tv t), .int .i64 s] ++ cap) W fun e W' => e = .returned (.tuple #[]) ∧ ∃ V', Inv (acc ++ [(t, s)]) V' W' ∧ Below B W W' ∧ W.heap.size ≤ W'.heap.size ∧ (∀ b, b < W.heap.size → ¬ V b → W'.heap[b]? = W.heap[b]?) ∧ (∀ b, b < W.heap.size → V' b → V b)) :
    Calls Try.prog 26 #[.slice A l.length c, .func (.func F) #[] cap] w fun e w' => e = .returned (.tuple #[]) ∧ (∃ V, Inv (evs l) V w') ∧ Below B w w' := by
  have HI0 := Lib.hid h0; clear h0
  have HH := Lib.hid H; clear H
  unfold tv at HH
  have HST := Lib.hid hst; clear hst
  have HVB := Lib.hid hV; clear hV
  have HA := Lib.hid hA; clear hA
  have hV0 : ∀ b, w.heap.size ≤ b → ¬ V0 b := fun b hb h => by have := (HVB.out _ _ _ HI0.out b h).2; omega
  have HO0 : Hid ((w.alloc (.cells #[.slice A l.length c, .int .u8 0, .string ⟨#[]⟩, .int .i64 0] 59)).ownsRow w.heap.size 59 4 (.slice (some ⟨w.heap.size, 0, none⟩) ([⟨A, c, l, t0⟩] : List Lv).length 1) ([⟨A, c, l, t0⟩] : List Lv).length (lvs [⟨A, c, l, t0⟩])) :=
    ⟨rfl, .inr ⟨w.heap.size, 1, _, rfl, Nat.le_refl _, heap_alloc_new w _, Nat.le_refl _, by decide, rfl, rfl⟩⟩
  have HI1 : Hid (Inv [] V0 (w.alloc (.cells #[.slice A l.length c, .int .u8 0, .string ⟨#[]⟩, .int .i64 0] 59))) := HST.out _ _ _ _ HI0.out ⟨by simp, fun b hb _ => heap_alloc_old w _ hb⟩
  have HW1 : Hid (Below B w (w.alloc (.cells #[.slice A l.length c, .int .u8 0, .string ⟨#[]⟩, .int .i64 0] 59))) := (Below.refl _ _).alloc hB _
  have HT1 := Lib.hid (HA.out.below HW1.out)
  have HRM : Hid ([] ++ rem ([⟨A, c, l, t0⟩] : List Lv).reverse = evs l) := rfl
  have hwt : wt [⟨A, c, l, t0⟩] = 2 * (nodes l).length + 1 := rfl
  generalize hE : evs l = E at *
  generalize hln : l.length = n at *
  generalize hT : 2 * (nodes l).length + 1 = T at *
  have hTT : T ≤ 2147483649 := by omega
  have HLN := Lib.hid hln; clear hln hE hT HI0
  go_enter Try.func26, Try.ntmps26
  go_wp2
  go_loopg [4, 5, 6, 7, 8] T (fun mm ov _ _ _ _ wr => ∃ (vs : List Lv) (acc : List (Tk × Int)) (V : Nat → Prop) (X : Option Addr) (d : Nat), wt vs ≤ mm ∧ mm ≤ T ∧ ov = .slice X vs.length d ∧ Hid (wr.ownsRow w.heap.size 59 4 (.slice X vs.length d) vs.length (lvs vs)) ∧ Hid (∀ b, (Value.slice X vs.length d).ownBlock = some b → ¬ V b)
      ∧ Hid (∀ v ∈ vs, Trs wr B v.A v.l ∧ v.l.length ≤ v.c) ∧ Hid (Inv acc V wr) ∧ Hid (acc ++ rem vs.reverse = E) ∧ Hid (Below B w wr) ∧ Hid (w.heap.size ≤ wr.heap.size))
  case atStart =>
    refine ⟨[⟨A, c, l, t0⟩], [], V0, some ⟨w.heap.size, 0, none⟩, 1, by omega, Nat.le_refl _, rfl, HO0.out, fun b hb => ?_, fun v hv => ?_, HI1.out, HRM.out, HW1.out, by show _ ≤ _; simp⟩
    · have : w.heap.size = b := by simpa [Value.ownBlock] using hb
      exact hV0 b (by omega)
    · rw [List.mem_singleton] at hv
      subst hv
      exact ⟨HT1.out, by show l.length ≤ c; rw [HLN.out]; exact hc⟩
  case round =>
    obtain ⟨vs, acc, V, X, d, hwm, hmT, rfl, HO, HNV, HTV, HINV, HREM, HW, HSZ⟩ := hrel
    by_cases hvs : vs = []
    · subst hvs
      have hE : acc = E := by have h := HREM.out; rw [← h]; simp [rem]
      subst hE
      simp only [List.length_nil]
      go_wp2
      go_end0
      exact ⟨rfl, ⟨V, HINV.out⟩, HW.out⟩
    · obtain ⟨ws, v, rfl⟩ : ∃ ws v, vs = ws ++ [v] := ⟨vs.dropLast, vs.getLast hvs, (List.dropLast_concat_getLast _).symm⟩
      obtain ⟨g, rfl, hgw, hgs, hfz, hgc⟩ := own_at HO.out (by intro e; have := congrArg List.length e; rw [lvs_length] at this; simp at this)
      have k0 : wr.cell? ⟨g, ws.length * 4, none⟩ = some (.slice v.A v.l.length v.c) := hgc _ _ (by have := lvs_top ws v 0; rw [Nat.add_zero] at this; rw [this]; rfl)
      have k1 : wr.cell? ⟨g, ws.length * 4 + 1, none⟩ = some (.int .u8 (v.e.k : Int)) := hgc _ _ (by rw [lvs_top]; rfl)
      have k2 : wr.cell? ⟨g, ws.length * 4 + 2, none⟩ = some (.string v.e.s) := hgc _ _ (by rw [lvs_top]; rfl)
      have k3 : wr.cell? ⟨g, ws.length * 4 + 3, none⟩ = some (.int .i64 v.e.p) := hgc _ _ (by rw [lvs_top]; rfl)
      have HSET := Lib.hid (fun A c l => lvs_set ws v A c l)
      have HNG : Hid (¬ V g) := HNV.out g rfl
      have hmd := own_cap_le HO.out
      have hOC := own_cut HO.out ws.length (by simp) (by simp)
      rw [lvs_cut] at hOC
      have HOC := Lib.hid hOC
      have HWT : Hid (wt ws + (2 * (nodes v.l).length + 1) ≤ gk) := by
        have h := wt_append ws [v]
        show _ ≤ gk
        simp only [wt] at h
        omega
      have HWL := Lib.hid (wt_length ws)
      have HBVN : Hid (¬ V wr.heap.size) := fun h => by have := (HVB.out _ _ _ HINV.out _ h).2; omega
      rw [List.reverse_append, List.reverse_singleton] at HREM
      replace HREM : Hid (acc ++ rem (v :: ws.reverse) = E) := HREM
      obtain ⟨hTv, hcv⟩ := HTV.out v (by simp)
      clear hOC hgc HNV hwm
      rw [List.length_append, List.length_singleton] at HO hmd ⊢
      generalize hm : ws.length = m at *
      have HM := Lib.hid hm; clear hm
      have hz1 : IntKind.i64.wrap ((m : Int) + 1 - 1) = (m : Int) := by
        have h1 := HWT.out
        have h2 := HWL.out
        rw [IntKind.wrap_i64] <;> omega
      have hlm : (m : Int) < (m : Int) + 1 := by omega
      have hmb : m ≤ 2147483649 := by
        have h1 := HWT.out
        have h2 := HWL.out
        omega
      cases hl : v.l with
      | nil =>
        rw [hl] at k0
        simp only [List.length_nil] at k0
        by_cases hm0 : m = 0
        · subst hm0
          have hws : ws = [] := List.eq_nil_of_length_eq_zero HM.out
          subst hws
          have HRM : Hid (acc ++ rem [] = E) := by have h := HREM.out; rw [List.reverse_nil, rem_cons, hl, evs_nil] at h; exact Lib.hid (by simpa [rem] using h)
          rw [Nat.zero_mul] at k0
          go_wp2
          go_roundg (gk - 1)
          case measure => have h1 := HWT.out; omega
          case rel => exact ⟨[], acc, V, some ⟨g, 0, none⟩, d, Nat.zero_le _, by omega, rfl, HOC, fun b hb => (by rw [own_blk hb]; exact HNG.out), fun y hy => by simp at hy, HINV, HRM, HW, HSZ⟩
        · have hgt : 0 < m := by omega
          have hgd : decide (0 < m) = true := decide_eq_true hgt
          have hrv : ws.reverse ≠ [] := fun e => hm0 (by have h := HM.out; rw [List.reverse_eq_nil_iff.1 e] at h; exact h.symm)
          have HRM : Hid ((acc ++ [(v.e, -1)]) ++ rem ws.reverse = E) := by
            have h := HREM.out
            rw [rem_cons, hl, evs_nil, if_neg hrv] at h
            show _ = E
            rw [← h]
            simp
          have HINV3 := HINV
          clear hm0
          go_wp2_with fail
          refine (HH.out acc v.e (-1) V _ ⟨_, HRM.out⟩ HINV3.out).mono ?_
          rintro e w5 ⟨rfl, V5, hI5, hB5, hz5, hk5, hv5⟩
          have HO5 := Lib.hid (own_like HOC.out (fun b hb e => hk5 b hb (by rw [own_blk e]; exact HNG.out)))
          have HNG5 : Hid (¬ V5 g) := fun h => HNG.out (hv5 g hgs h)
          have HT5 : Hid (∀ y ∈ ws, Trs w5 B y.A y.l ∧ y.l.length ≤ y.c) := fun y hy => ⟨(HTV.out y (List.mem_append_left _ hy)).1.below hB5, (HTV.out y (List.mem_append_left _ hy)).2⟩
          have HI5 := Lib.hid hI5
          have HW5 := Lib.hid (HW.out.trans hB5)
          have HSZ5 : Hid (w.heap.size ≤ w5.heap.size) := Nat.le_trans HSZ.out hz5
          clear hI5 hB5 hz5 hk5 hv5
          go_wp2
          go_roundg (gk - 1)
          case measure => have h1 := HWT.out; omega
          case rel => exact ⟨ws, acc ++ [(v.e, -1)], V5, some ⟨g, 0, none⟩, d, by have h1 := HWT.out; omega, by omega, by rw [HM.out], by rw [HM.out]; exact HO5, fun b hb => (by rw [own_blk hb]; exact HNG5.out), HT5, HI5, HRM, HW5, HSZ5⟩
      | cons x r =>
        rw [hl] at hTv hcv k0
        have HND : Hid ((nodes v.l).length = 1 + (nodes x.ks).length + (nodes r).length) := by rw [hl]; exact nodes_cons x r
        have HTK := Lib.hid (hTv.kid (List.mem_cons_self (a := x) (l := r)))
        have HCK := Lib.hid (hTv.cap (List.mem_cons_self (a := x) (l := r)))
        obtain ⟨b, o, hvA, hbB, hxc⟩ := hTv.at (k := 0) (by simp)
        obtain ⟨x0, x1, x2, x3, x4⟩ := hxc 0 (by simp)
        rw [Nat.zero_mul, Nat.add_zero] at x0 x1 x2 x3 x4
        simp only [List.getD_cons_zero] at x0 x1 x2 x3 x4
        simp only [List.length_cons] at hcv k0
        rw [hvA] at hTv k0
        have hle : 1 ≤ r.length + 1 := by omega
        clear hxc
        by_cases hc1 : v.c = 1
        · have hr : r = [] := List.eq_nil_of_length_eq_zero (by omega)
          subst hr
          have HTR : Hid (Trs wr B (some ⟨b, o, none⟩) []) := Trs.nil _ _ _
          have HCR : Hid (([] : List Tr).length ≤ 0) := Nat.le_refl _
          rw [hc1] at k0
          simp only [List.length_nil, Nat.zero_add] at k0 hle
          clear hTv hcv hc1
          go_upto_region 10 with fail
          have hws : (wr.setCell ⟨g, m * 4, none⟩ (.slice (some ⟨b, o, none⟩) 0 (0))).heap.size = wr.heap.size := by simp [World.setCell]
          have hot : Out V wr ((wr.setCell ⟨g, m * 4, none⟩ (.slice (some ⟨b, o, none⟩) 0 (0))).alloc (.cells #[.int .u8 (x.t.k : Int), .string x.t.s, .int .i64 x.t.p, .slice x.A x.ks.length x.c, .int .i64 x.e] 38)) := ⟨by simp [World.setCell], fun bb hb hv => by
                have hne : g ≠ bb := fun e => by subst e; exact HNG.out hv
                refine (heap_alloc_old (wr.setCell ⟨g, m * 4, none⟩ (.slice (some ⟨b, o, none⟩) 0 (0))) _ (by rw [hws]; exact hb)).trans ?_
                simp only [World.setCell, Array.getElem?_modify, if_neg hne]⟩
          have HINV3 := Lib.hid (HST.out _ _ _ _ HINV.out hot)
          have HW3 : Hid (Below B w ((wr.setCell ⟨g, m * 4, none⟩ (.slice (some ⟨b, o, none⟩) 0 (0))).alloc (.cells #[.int .u8 (x.t.k : Int), .string x.t.s, .int .i64 x.t.p, .slice x.A x.ks.length x.c, .int .i64 x.e] 38))) := ((HW.out.setCell (p := ⟨g, m * 4, none⟩) (by show B ≤ g; omega) _).alloc (by rw [hws]; exact Nat.le_trans hB HSZ.out) _)
          have HBW3 : Hid (Below B wr ((wr.setCell ⟨g, m * 4, none⟩ (.slice (some ⟨b, o, none⟩) 0 (0))).alloc (.cells #[.int .u8 (x.t.k : Int), .string x.t.s, .int .i64 x.t.p, .slice x.A x.ks.length x.c, .int .i64 x.e] 38))) := ((Below.refl B wr).setCell (p := ⟨g, m * 4, none⟩) (by show B ≤ g; omega) _).alloc (by rw [hws]; exact Nat.le_trans hB HSZ.out) _
          have hown3 := own_below (own_set HO.out (m * 4) (.slice (some ⟨b, o, none⟩) 0 (0))) ((Below.refl _ _).alloc (Nat.le_refl _) (.cells #[.int .u8 (x.t.k : Int), .string x.t.s, .int .i64 x.t.p, .slice x.A x.ks.length x.c, .int .i64 x.e] 38)) (Nat.le_refl _)
          have hss : (lvs (ws ++ [v])).set (m * 4) (.slice (some ⟨b, o, none⟩) 0 (0)) = lvs (ws ++ [(⟨some ⟨b, o, none⟩, 0, ([] : List Tr), v.e⟩ : Lv)]) := HSET.out (some ⟨b, o, none⟩) (0) ([] : List Tr)
          rw [hss] at hown3
          clear hss
          have HO3 := Lib.hid hown3
          have hbx : RowAt ((wr.setCell ⟨g, m * 4, none⟩ (.slice (some ⟨b, o, none⟩) 0 (0))).alloc (.cells #[.int .u8 (x.t.k : Int), .string x.t.s, .int .i64 x.t.p, .slice x.A x.ks.length x.c, .int .i64 x.e] 38)) wr.heap.size 38 #[.int .u8 (x.t.k : Int), .string x.t.s, .int .i64 x.t.p, .slice x.A x.ks.length x.c, .int .i64 x.e] := by
            have h := RowAt.new (wr.setCell ⟨g, m * 4, none⟩ (.slice (some ⟨b, o, none⟩) 0 (0))) 38 #[.int .u8 (x.t.k : Int), .string x.t.s, .int .i64 x.t.p, .slice x.A x.ks.length x.c, .int .i64 x.e]
            rw [hws] at h
            exact h
          have HZ3 : Hid (wr.heap.size < ((wr.setCell ⟨g, m * 4, none⟩ (.slice (some ⟨b, o, none⟩) 0 (0))).alloc (.cells #[.int .u8 (x.t.k : Int), .string x.t.s, .int .i64 x.t.p, .slice x.A x.ks.length x.c, .int .i64 x.e] 38)).heap.size) := by show _ < _; simp [World.setCell]
          have HT3 : Hid (∀ y ∈ ws ++ [(⟨some ⟨b, o, none⟩, 0, ([] : List Tr), v.e⟩ : Lv)], Trs ((wr.setCell ⟨g, m * 4, none⟩ (.slice (some ⟨b, o, none⟩) 0 (0))).alloc (.cells #[.int .u8 (x.t.k : Int), .string x.t.s, .int .i64 x.t.p, .slice x.A x.ks.length x.c, .int .i64 x.e] 38)) B y.A y.l ∧ y.l.length ≤ y.c) := fun y hy => by
            rcases List.mem_append.1 hy with h | h
            · exact ⟨(HTV.out y (List.mem_append_left _ h)).1.below HBW3.out, (HTV.out y (List.mem_append_left _ h)).2⟩
            · rw [List.mem_singleton] at h
              subst h
              exact ⟨HTR.out.below HBW3.out, HCR.out⟩
          have HTK3 : Hid (Trs ((wr.setCell ⟨g, m * 4, none⟩ (.slice (some ⟨b, o, none⟩) 0 (0))).alloc (.cells #[.int .u8 (x.t.k : Int), .string x.t.s, .int .i64 x.t.p, .slice x.A x.ks.length x.c, .int .i64 x.e] 38)) B x.A x.ks) := HTK.out.below HBW3.out
          clear hot hown3 hws HINV HO HW HTV HBW3 HTR
          have HBX := Lib.hid hbx; clear hbx
          have HBV : Hid (¬ V wr.heap.size) := HBVN.out
          clear HBVN
          generalize ((wr.setCell ⟨g, m * 4, none⟩ (.slice (some ⟨b, o, none⟩) 0 (0))).alloc (.cells #[.int .u8 (x.t.k : Int), .string x.t.s, .int .i64 x.t.p, .slice x.A x.ks.length x.c, .int .i64 x.e] 38)) = w3 at *
          have HSZ3 : Hid (w.heap.size ≤ w3.heap.size) := by have h1 := HSZ.out; have h2 := HZ3.out; show _ ≤ _; omega
          clear HSZ k0 k1 k2 k3 x0 x1 x2 x3 x4 hfz
          generalize wr.heap.size = bx at *
          have b0 := (HBX.out.cell 0).trans rfl
          have b1 := (HBX.out.cell 1).trans rfl
          have b2 := (HBX.out.cell 2).trans rfl
          have hcl := closer_any x.t.k w3
          by_cases h0 : cl x.t.k = 0
          · have HRM3 : Hid ((acc ++ [(x.t, 0)]) ++ rem ((⟨some ⟨b, o, none⟩, 0, ([] : List Tr), v.e⟩ : Lv) :: ws.reverse) = E) := by
              have h := HREM.out
              rw [rem_cons, hl, evs_cons, if_pos h0] at h
              show _ = E
              rw [← h, rem_cons]
              simp
            rw [h0] at hcl
            have HCL := Lib.hid hcl
            clear hcl h0 HREM
            go_wp2_with fail
            refine HCL.out.mono ?_
            rintro e w' ⟨rfl, rfl⟩
            go_wp2_with fail
            refine (HH.out acc x.t 0 V _ ⟨_, HRM3.out⟩ HINV3.out).mono ?_
            rintro e w5 ⟨rfl, V5, hI5, hB5, hz5, hk5, hv5⟩
            have HO5 : Hid (w5.ownsRow w.heap.size 59 4 (.slice (some ⟨g, 0, none⟩) (m + 1) d) (m + 1) (lvs (ws ++ [(⟨some ⟨b, o, none⟩, 0, ([] : List Tr), v.e⟩ : Lv)]))) := own_like HO3.out (fun b hb e => hk5 b hb (by rw [own_blk e]; exact HNG.out))
            have HNG5 : Hid (¬ V5 g) := fun h => HNG.out (hv5 g (by have := HZ3.out; omega) h)
            have HT5 : Hid (∀ y ∈ ws ++ [(⟨some ⟨b, o, none⟩, 0, ([] : List Tr), v.e⟩ : Lv)], Trs w5 B y.A y.l ∧ y.l.length ≤ y.c) := fun y hy => ⟨(HT3.out y hy).1.below hB5, (HT3.out y hy).2⟩
            have HI5 := Lib.hid hI5
            have HW5 := Lib.hid (HW3.out.trans hB5)
            have HSZ5 : Hid (w.heap.size ≤ w5.heap.size) := Nat.le_trans HSZ3.out hz5
            have hwt5 : wt (ws ++ [(⟨some ⟨b, o, none⟩, 0, ([] : List Tr), v.e⟩ : Lv)]) ≤ gk - 1 := by
              rw [wt_append]
              show wt ws + (2 * (nodes ([] : List Tr)).length + 1 + 0) ≤ gk - 1
              have h1 := HWT.out
              have h2 := HND.out
              omega
            clear hI5 hB5 hz5 hk5 hv5
            go_wp2
            go_roundg (gk - 1)
            case measure => have h1 := HWT.out; have h2 := HND.out; omega
            case rel => exact ⟨ws ++ [(⟨some ⟨b, o, none⟩, 0, ([] : List Tr), v.e⟩ : Lv)], acc ++ [(x.t, 0)], V5, some ⟨g, 0, none⟩, d, hwt5, by omega, by rw [List.length_append, List.length_singleton, HM.out], by rw [List.length_append, List.length_singleton, HM.out]; exact HO5, fun b hb => (by rw [own_blk hb]; exact HNG5.out), HT5, HI5, by rw [List.reverse_append, List.reverse_singleton]; exact HRM3, HW5, HSZ5⟩
          · have HRM3 : Hid ((acc ++ [(x.t, 1)]) ++ rem (⟨x.A, x.c, x.ks, ⟨cl x.t.k, chr (cl x.t.k), x.e⟩⟩ :: (⟨some ⟨b, o, none⟩, 0, ([] : List Tr), v.e⟩ : Lv) :: ws.reverse) = E) := by
              have h := HREM.out
              rw [rem_cons, hl, evs_cons, if_neg h0] at h
              show _ = E
              rw [← h, rem, rem_cons]
              simp
            have hne : (((cl x.t.k : Nat) : Int) == 0) = false := by rw [beq_eq_false_iff_ne]; omega
            have hck : cl x.t.k < 128 := by have := cl_cases x.t.k; omega
            have hutf := chr_utf (cl x.t.k) hck
            have hw32 : IntKind.i32.wrap ((cl x.t.k : Nat) : Int) = ((cl x.t.k : Nat) : Int) := by rw [IntKind.wrap_i32] <;> omega
            have HCL := Lib.hid hcl
            clear hcl h0 HREM
            have HQ : Hid (∀ q, cl x.t.k = q → chr (cl x.t.k) = chr q) := fun q h => by rw [h]
            generalize hq : cl x.t.k = q at *
            go_wp2_with fail
            refine HCL.out.mono ?_
            rintro e w' ⟨rfl, rfl⟩
            go_wp2_with fail
            refine (HH.out acc x.t 1 V _ ⟨_, HRM3.out⟩ HINV3.out).mono ?_
            rintro e w5 ⟨rfl, V5, hI5, hB5, hz5, hk5, hv5⟩
            have hb5 : RowAt w5 bx 38 #[.int .u8 (x.t.k : Int), .string x.t.s, .int .i64 x.t.p, .slice x.A x.ks.length x.c, .int .i64 x.e] := (hk5 bx HBX.out.lt HBV.out).trans HBX.out
            have b0 := (hb5.cell 0).trans rfl
            have b3 := (hb5.cell 3).trans rfl
            have b4 := (hb5.cell 4).trans rfl
            have HO5 : Hid (w5.ownsRow w.heap.size 59 4 (.slice (some ⟨g, 0, none⟩) (m + 1) d) (m + 1) (lvs (ws ++ [(⟨some ⟨b, o, none⟩, 0, ([] : List Tr), v.e⟩ : Lv)]))) := own_like HO3.out (fun b hb e => hk5 b hb (by rw [own_blk e]; exact HNG.out))
            have HNG5 : Hid (¬ V5 g) := fun h => HNG.out (hv5 g (by have := HZ3.out; omega) h)
            have HT5 : Hid (∀ y ∈ ws ++ [(⟨some ⟨b, o, none⟩, 0, ([] : List Tr), v.e⟩ : Lv)], Trs w5 B y.A y.l ∧ y.l.length ≤ y.c) := fun y hy => ⟨(HT3.out y hy).1.below hB5, (HT3.out y hy).2⟩
            have HTK5 := Lib.hid (HTK3.out.below hB5)
            have HI5 := Lib.hid hI5
            have HW5 := Lib.hid (HW3.out.trans hB5)
            have HSZ5 : Hid (w.heap.size ≤ w5.heap.size) := Nat.le_trans HSZ3.out hz5
            have hgs5 : g < w5.heap.size := by have := HZ3.out; omega
            have hmw : m ≤ 4294967295 := by have h1 := HWL.out; omega
            clear hI5 hB5 hz5 hk5 hv5 hb5
            have HNW : Hid (Sl (w5.alloc (.cells #[.slice x.A x.ks.length x.c, .int .u8 (q : Int), .string (chr q), .int .i64 x.e] 59)) (w5.heap.size + 1) (some ⟨w5.heap.size, 0, none⟩) [.slice x.A x.ks.length x.c, .int .u8 (q : Int), .string (chr q), .int .i64 x.e]) := Sl.new _ _ _
            have HOA := Lib.hid (own_below HO5.out ((Below.refl _ _).alloc (Nat.le_refl _) (.cells #[.slice x.A x.ks.length x.c, .int .u8 (q : Int), .string (chr q), .int .i64 x.e] 59)) (Nat.le_refl _))
            go_wp2_with (first | (at_builtin; refine wpList_catAt rfl _ _ 60 rfl 59 (.agg #[.slice none 0 0, .int .u8 0, .string ⟨#[]⟩, .int .i64 0]) 4 56 Try.underlying60 infoLevel rfl (by decide) (by decide) w.heap.size (some ⟨g, 0, none⟩) (m + 1) d (lvs (ws ++ [(⟨some ⟨b, o, none⟩, 0, ([] : List Tr), v.e⟩ : Lv)])) rfl HOA.out _ (some ⟨w5.heap.size, 0, none⟩) 1 1 [.slice x.A x.ks.length x.c, .int .u8 (q : Int), .string (chr q), .int .i64 x.e] rfl rfl (by decide) HNW.out (by simp [Value.oneCell']) (by omega) (by rw [World.size_alloc]; have := HSZ5.out; omega) ?_))
            intro X6 d6 w6 hown6 hb6 hg6 hat6
            have HO6 : Hid (w6.ownsRow w.heap.size 59 4 (.slice X6 (m + 1 + 1) d6) (m + 1 + 1) (lvs ((ws ++ [(⟨some ⟨b, o, none⟩, 0, ([] : List Tr), v.e⟩ : Lv)]) ++ [⟨x.A, x.c, x.ks, ⟨q, chr q, x.e⟩⟩]))) := by
              rw [lvs_append, lvs_one]
              exact hown6
            have HOUT : Hid (Out V5 w5 w6) := ⟨Nat.le_trans (by simp) hg6.size, fun b hb hv => (hg6.block b (by rw [World.size_alloc]; omega) (fun e => by
                have e2 : b = g := by simpa [Value.ownBlock] using e
                subst e2; exact HNG5.out hv)).trans (heap_alloc_old w5 _ hb)⟩
            have HNG6 : Hid (∀ b, (Value.slice X6 (m + 1 + 1) d6).ownBlock = some b → ¬ V5 b) := fun b hb hv => by
              rcases hat6 with e | e
              · rw [hb] at e
                have e2 : b = g := by simpa [Value.ownBlock] using e
                subst e2; exact HNG5.out hv
              · rw [hb] at e
                injection e with e
                have h1 := (HVB.out _ _ _ HI5.out b hv).2
                omega
            have HB6 : Hid (Below B w5 w6) := ((Below.refl B w5).alloc (Nat.le_trans hB HSZ5.out) _).trans (hb6.mono hB)
            have HT6 : Hid (∀ y ∈ (ws ++ [(⟨some ⟨b, o, none⟩, 0, ([] : List Tr), v.e⟩ : Lv)]) ++ [(⟨x.A, x.c, x.ks, ⟨q, chr q, x.e⟩⟩ : Lv)], Trs w6 B y.A y.l ∧ y.l.length ≤ y.c) := fun y hy => by
              rcases List.mem_append.1 hy with h | h
              · exact ⟨(HT5.out y h).1.below HB6.out, (HT5.out y h).2⟩
              · rw [List.mem_singleton] at h
                subst h
                exact ⟨HTK5.out.below HB6.out, HCK.out⟩
            have HI6 := Lib.hid (HST.out _ _ _ _ HI5.out HOUT.out)
            have HW6 := Lib.hid (HW5.out.trans HB6.out)
            have HSZ6 : Hid (w.heap.size ≤ w6.heap.size) := Nat.le_trans HSZ5.out HOUT.out.size
            have hwt6 : wt ((ws ++ [(⟨some ⟨b, o, none⟩, 0, ([] : List Tr), v.e⟩ : Lv)]) ++ [(⟨x.A, x.c, x.ks, ⟨q, chr q, x.e⟩⟩ : Lv)]) ≤ gk - 1 := by
              rw [wt_append, wt_append]
              show wt ws + (2 * (nodes ([] : List Tr)).length + 1 + 0) + (2 * (nodes x.ks).length + 1 + 0) ≤ gk - 1
              have h1 := HWT.out
              have h2 := HND.out
              omega
            clear hown6 hb6 hg6 hat6 HO5 HOA HNW HT5 HI5 HW5 HSZ5 b0 b3 b4
            go_wp2
            go_roundg (gk - 1)
            case measure => have h1 := HWT.out; have h2 := HND.out; omega
            case rel => exact ⟨(ws ++ [(⟨some ⟨b, o, none⟩, 0, ([] : List Tr), v.e⟩ : Lv)]) ++ [⟨x.A, x.c, x.ks, ⟨q, chr q, x.e⟩⟩], acc ++ [(x.t, 1)], V5, X6, d6, hwt6, by omega, by rw [List.length_append, List.length_append, List.length_singleton, List.length_singleton, HM.out], by rw [List.length_append, List.length_append, List.length_singleton, List.length_singleton, HM.out]; exact HO6, by rw [List.length_append, List.length_append, List.length_singleton, List.length_singleton, HM.out]; exact HNG6, HT6, HI6, by rw [List.reverse_append, List.reverse_append, List.reverse_singleton, List.reverse_singleton]; exact HRM3, HW6, HSZ6⟩
        · have HTR : Hid (Trs wr B (some ⟨b, o + 5, none⟩) r) := hTv.tail
          have HCR : Hid (r.length ≤ v.c - 1) := by show _ ≤ _; omega
          have hc1' : ¬ (v.c = 1) := hc1
          clear hTv hcv
          generalize hvc : v.c = vc at *
          clear hvc
          go_upto_region 10 with fail
          have hws : (wr.setCell ⟨g, m * 4, none⟩ (.slice (some ⟨b, o + 5, none⟩) r.length (vc - 1))).heap.size = wr.heap.size := by simp [World.setCell]
          have hot : Out V wr ((wr.setCell ⟨g, m * 4, none⟩ (.slice (some ⟨b, o + 5, none⟩) r.length (vc - 1))).alloc (.cells #[.int .u8 (x.t.k : Int), .string x.t.s, .int .i64 x.t.p, .slice x.A x.ks.length x.c, .int .i64 x.e] 38)) := ⟨by simp [World.setCell], fun bb hb hv => by
                have hne : g ≠ bb := fun e => by subst e; exact HNG.out hv
                refine (heap_alloc_old (wr.setCell ⟨g, m * 4, none⟩ (.slice (some ⟨b, o + 5, none⟩) r.length (vc - 1))) _ (by rw [hws]; exact hb)).trans ?_
                simp only [World.setCell, Array.getElem?_modify, if_neg hne]⟩
          have HINV3 := Lib.hid (HST.out _ _ _ _ HINV.out hot)
          have HW3 : Hid (Below B w ((wr.setCell ⟨g, m * 4, none⟩ (.slice (some ⟨b, o + 5, none⟩) r.length (vc - 1))).alloc (.cells #[.int .u8 (x.t.k : Int), .string x.t.s, .int .i64 x.t.p, .slice x.A x.ks.length x.c, .int .i64 x.e] 38))) := ((HW.out.setCell (p := ⟨g, m * 4, none⟩) (by show B ≤ g; omega) _).alloc (by rw [hws]; exact Nat.le_trans hB HSZ.out) _)
          have HBW3 : Hid (Below B wr ((wr.setCell ⟨g, m * 4, none⟩ (.slice (some ⟨b, o + 5, none⟩) r.length (vc - 1))).alloc (.cells #[.int .u8 (x.t.k : Int), .string x.t.s, .int .i64 x.t.p, .slice x.A x.ks.length x.c, .int .i64 x.e] 38))) := ((Below.refl B wr).setCell (p := ⟨g, m * 4, none⟩) (by show B ≤ g; omega) _).alloc (by rw [hws]; exact Nat.le_trans hB HSZ.out) _
          have hown3 := own_below (own_set HO.out (m * 4) (.slice (some ⟨b, o + 5, none⟩) r.length (vc - 1))) ((Below.refl _ _).alloc (Nat.le_refl _) (.cells #[.int .u8 (x.t.k : Int), .string x.t.s, .int .i64 x.t.p, .slice x.A x.ks.length x.c, .int .i64 x.e] 38)) (Nat.le_refl _)
          have hss : (lvs (ws ++ [v])).set (m * 4) (.slice (some ⟨b, o + 5, none⟩) r.length (vc - 1)) = lvs (ws ++ [(⟨some ⟨b, o + 5, none⟩, vc - 1, r, v.e⟩ : Lv)]) := HSET.out (some ⟨b, o + 5, none⟩) (vc - 1) r
          rw [hss] at hown3
          clear hss
          have HO3 := Lib.hid hown3
          have hbx : RowAt ((wr.setCell ⟨g, m * 4, none⟩ (.slice (some ⟨b, o + 5, none⟩) r.length (vc - 1))).alloc (.cells #[.int .u8 (x.t.k : Int), .string x.t.s, .int .i64 x.t.p, .slice x.A x.ks.length x.c, .int .i64 x.e] 38)) wr.heap.size 38 #[.int .u8 (x.t.k : Int), .string x.t.s, .int .i64 x.t.p, .slice x.A x.ks.length x.c, .int .i64 x.e] := by
            have h := RowAt.new (wr.setCell ⟨g, m * 4, none⟩ (.slice (some ⟨b, o + 5, none⟩) r.length (vc - 1))) 38 #[.int .u8 (x.t.k : Int), .string x.t.s, .int .i64 x.t.p, .slice x.A x.ks.length x.c, .int .i64 x.e]
            rw [hws] at h
            exact h
          have HZ3 : Hid (wr.heap.size < ((wr.setCell ⟨g, m * 4, none⟩ (.slice (some ⟨b, o + 5, none⟩) r.length (vc - 1))).alloc (.cells #[.int .u8 (x.t.k : Int), .string x.t.s, .int .i64 x.t.p, .slice x.A x.ks.length x.c, .int .i64 x.e] 38)).heap.size) := by show _ < _; simp [World.setCell]
          have HT3 : Hid (∀ y ∈ ws ++ [(⟨some ⟨b, o + 5, none⟩, vc - 1, r, v.e⟩ : Lv)], Trs ((wr.setCell ⟨g, m * 4, none⟩ (.slice (some ⟨b, o + 5, none⟩) r.length (vc - 1))).alloc (.cells #[.int .u8 (x.t.k : Int), .string x.t.s, .int .i64 x.t.p, .slice x.A x.ks.length x.c, .int .i64 x.e] 38)) B y.A y.l ∧ y.l.length ≤ y.c) := fun y hy => by
            rcases List.mem_append.1 hy with h | h
            · exact ⟨(HTV.out y (List.mem_append_left _ h)).1.below HBW3.out, (HTV.out y (List.mem_append_left _ h)).2⟩
            · rw [List.mem_singleton] at h
              subst h
              exact ⟨HTR.out.below HBW3.out, HCR.out⟩
          have HTK3 : Hid (Trs ((wr.setCell ⟨g, m * 4, none⟩ (.slice (some ⟨b, o + 5, none⟩) r.length (vc - 1))).alloc (.cells #[.int .u8 (x.t.k : Int), .string x.t.s, .int .i64 x.t.p, .slice x.A x.ks.length x.c, .int .i64 x.e] 38)) B x.A x.ks) := HTK.out.below HBW3.out
          clear hot hown3 hws HINV HO HW HTV HBW3 HTR
          have HBX := Lib.hid hbx; clear hbx
          have HBV : Hid (¬ V wr.heap.size) := HBVN.out
          clear HBVN
          generalize ((wr.setCell ⟨g, m * 4, none⟩ (.slice (some ⟨b, o + 5, none⟩) r.length (vc - 1))).alloc (.cells #[.int .u8 (x.t.k : Int), .string x.t.s, .int .i64 x.t.p, .slice x.A x.ks.length x.c, .int .i64 x.e] 38)) = w3 at *
          have HSZ3 : Hid (w.heap.size ≤ w3.heap.size) := by have h1 := HSZ.out; have h2 := HZ3.out; show _ ≤ _; omega
          clear HSZ k0 k1 k2 k3 x0 x1 x2 x3 x4 hfz
          generalize wr.heap.size = bx at *
          have b0 := (HBX.out.cell 0).trans rfl
          have b1 := (HBX.out.cell 1).trans rfl
          have b2 := (HBX.out.cell 2).trans rfl
          have hcl := closer_any x.t.k w3
          by_cases h0 : cl x.t.k = 0
          · have HRM3 : Hid ((acc ++ [(x.t, 0)]) ++ rem ((⟨some ⟨b, o + 5, none⟩, vc - 1, r, v.e⟩ : Lv) :: ws.reverse) = E) := by
              have h := HREM.out
              rw [rem_cons, hl, evs_cons, if_pos h0] at h
              show _ = E
              rw [← h, rem_cons]
              simp
            rw [h0] at hcl
            have HCL := Lib.hid hcl
            clear hcl h0 HREM
            go_wp2_with fail
            refine HCL.out.mono ?_
            rintro e w' ⟨rfl, rfl⟩
            go_wp2_with fail
            refine (HH.out acc x.t 0 V _ ⟨_, HRM3.out⟩ HINV3.out).mono ?_
            rintro e w5 ⟨rfl, V5, hI5, hB5, hz5, hk5, hv5⟩
            have HO5 : Hid (w5.ownsRow w.heap.size 59 4 (.slice (some ⟨g, 0, none⟩) (m + 1) d) (m + 1) (lvs (ws ++ [(⟨some ⟨b, o + 5, none⟩, vc - 1, r, v.e⟩ : Lv)]))) := own_like HO3.out (fun b hb e => hk5 b hb (by rw [own_blk e]; exact HNG.out))
            have HNG5 : Hid (¬ V5 g) := fun h => HNG.out (hv5 g (by have := HZ3.out; omega) h)
            have HT5 : Hid (∀ y ∈ ws ++ [(⟨some ⟨b, o + 5, none⟩, vc - 1, r, v.e⟩ : Lv)], Trs w5 B y.A y.l ∧ y.l.length ≤ y.c) := fun y hy => ⟨(HT3.out y hy).1.below hB5, (HT3.out y hy).2⟩
            have HI5 := Lib.hid hI5
            have HW5 := Lib.hid (HW3.out.trans hB5)
            have HSZ5 : Hid (w.heap.size ≤ w5.heap.size) := Nat.le_trans HSZ3.out hz5
            have hwt5 : wt (ws ++ [(⟨some ⟨b, o + 5, none⟩, vc - 1, r, v.e⟩ : Lv)]) ≤ gk - 1 := by
              rw [wt_append]
              show wt ws + (2 * (nodes r).length + 1 + 0) ≤ gk - 1
              have h1 := HWT.out
              have h2 := HND.out
              omega
            clear hI5 hB5 hz5 hk5 hv5
            go_wp2
            go_roundg (gk - 1)
            case measure => have h1 := HWT.out; have h2 := HND.out; omega
            case rel => exact ⟨ws ++ [(⟨some ⟨b, o + 5, none⟩, vc - 1, r, v.e⟩ : Lv)], acc ++ [(x.t, 0)], V5, some ⟨g, 0, none⟩, d, hwt5, by omega, by rw [List.length_append, List.length_singleton, HM.out], by rw [List.length_append, List.length_singleton, HM.out]; exact HO5, fun b hb => (by rw [own_blk hb]; exact HNG5.out), HT5, HI5, by rw [List.reverse_append, List.reverse_singleton]; exact HRM3, HW5, HSZ5⟩
          · have HRM3 : Hid ((acc ++ [(x.t, 1)]) ++ rem (⟨x.A, x.c, x.ks, ⟨cl x.t.k, chr (cl x.t.k), x.e⟩⟩ :: (⟨some ⟨b, o + 5, none⟩, vc - 1, r, v.e⟩ : Lv) :: ws.reverse) = E) := by
              have h := HREM.out
              rw [rem_cons, hl, evs_cons, if_neg h0] at h
              show _ = E
              rw [← h, rem, rem_cons]
              simp
            have hne : (((cl x.t.k : Nat) : Int) == 0) = false := by rw [beq_eq_false_iff_ne]; omega
            have hck : cl x.t.k < 128 := by have := cl_cases x.t.k; omega
            have hutf := chr_utf (cl x.t.k) hck
            have hw32 : IntKind.i32.wrap ((cl x.t.k : Nat) : Int) = ((cl x.t.k : Nat) : Int) := by rw [IntKind.wrap_i32] <;> omega
            have HCL := Lib.hid hcl
            clear hcl h0 HREM
            have HQ : Hid (∀ q, cl x.t.k = q → chr (cl x.t.k) = chr q) := fun q h => by rw [h]
            generalize hq : cl x.t.k = q at *
            go_wp2_with fail
            refine HCL.out.mono ?_
            rintro e w' ⟨rfl, rfl⟩
            go_wp2_with fail
            refine (HH.out acc x.t 1 V _ ⟨_, HRM3.out⟩ HINV3.out).mono ?_
            rintro e w5 ⟨rfl, V5, hI5, hB5, hz5, hk5, hv5⟩
            have hb5 : RowAt w5 bx 38 #[.int .u8 (x.t.k : Int), .string x.t.s, .int .i64 x.t.p, .slice x.A x.ks.length x.c, .int .i64 x.e] := (hk5 bx HBX.out.lt HBV.out).trans HBX.out
            have b0 := (hb5.cell 0).trans rfl
            have b3 := (hb5.cell 3).trans rfl
            have b4 := (hb5.cell 4).trans rfl
            have HO5 : Hid (w5.ownsRow w.heap.size 59 4 (.slice (some ⟨g, 0, none⟩) (m + 1) d) (m + 1) (lvs (ws ++ [(⟨some ⟨b, o + 5, none⟩, vc - 1, r, v.e⟩ : Lv)]))) := own_like HO3.out (fun b hb e => hk5 b hb (by rw [own_blk e]; exact HNG.out))
            have HNG5 : Hid (¬ V5 g) := fun h => HNG.out (hv5 g (by have := HZ3.out; omega) h)
            have HT5 : Hid (∀ y ∈ ws ++ [(⟨some ⟨b, o + 5, none⟩, vc - 1, r, v.e⟩ : Lv)], Trs w5 B y.A y.l ∧ y.l.length ≤ y.c) := fun y hy => ⟨(HT3.out y hy).1.below hB5, (HT3.out y hy).2⟩
            have HTK5 := Lib.hid (HTK3.out.below hB5)
            have HI5 := Lib.hid hI5
            have HW5 := Lib.hid (HW3.out.trans hB5)
            have HSZ5 : Hid (w.heap.size ≤ w5.heap.size) := Nat.le_trans HSZ3.out hz5
            have hgs5 : g < w5.heap.size := by have := HZ3.out; omega
            have hmw : m ≤ 4294967295 := by have h1 := HWL.out; omega
            clear hI5 hB5 hz5 hk5 hv5 hb5
            have HNW : Hid (Sl (w5.alloc (.cells #[.slice x.A x.ks.length x.c, .int .u8 (q : Int), .string (chr q), .int .i64 x.e] 59)) (w5.heap.size + 1) (some ⟨w5.heap.size, 0, none⟩) [.slice x.A x.ks.length x.c, .int .u8 (q : Int), .string (chr q), .int .i64 x.e]) := Sl.new _ _ _
            have HOA := Lib.hid (own_below HO5.out ((Below.refl _ _).alloc (Nat.le_refl _) (.cells #[.slice x.A x.ks.length x.c, .int .u8 (q : Int), .string (chr q), .int .i64 x.e] 59)) (Nat.le_refl _))
            go_wp2_with (first | (at_builtin; refine wpList_catAt rfl _ _ 60 rfl 59 (.agg #[.slice none 0 0, .int .u8 0, .string ⟨#[]⟩, .int .i64 0]) 4 56 Try.underlying60 infoLevel rfl (by decide) (by decide) w.heap.size (some ⟨g, 0, none⟩) (m + 1) d (lvs (ws ++ [(⟨some ⟨b, o + 5, none⟩, vc - 1, r, v.e⟩ : Lv)])) rfl HOA.out _ (some ⟨w5.heap.size, 0, none⟩) 1 1 [.slice x.A x.ks.length x.c, .int .u8 (q : Int), .string (chr q), .int .i64 x.e] rfl rfl (by decide) HNW.out (by simp [Value.oneCell']) (by omega) (by rw [World.size_alloc]; have := HSZ5.out; omega) ?_))
            intro X6 d6 w6 hown6 hb6 hg6 hat6
            have HO6 : Hid (w6.ownsRow w.heap.size 59 4 (.slice X6 (m + 1 + 1) d6) (m + 1 + 1) (lvs ((ws ++ [(⟨some ⟨b, o + 5, none⟩, vc - 1, r, v.e⟩ : Lv)]) ++ [⟨x.A, x.c, x.ks, ⟨q, chr q, x.e⟩⟩]))) := by
              rw [lvs_append, lvs_one]
              exact hown6
            have HOUT : Hid (Out V5 w5 w6) := ⟨Nat.le_trans (by simp) hg6.size, fun b hb hv => (hg6.block b (by rw [World.size_alloc]; omega) (fun e => by
                have e2 : b = g := by simpa [Value.ownBlock] using e
                subst e2; exact HNG5.out hv)).trans (heap_alloc_old w5 _ hb)⟩
            have HNG6 : Hid (∀ b, (Value.slice X6 (m + 1 + 1) d6).ownBlock = some b → ¬ V5 b) := fun b hb hv => by
              rcases hat6 with e | e
              · rw [hb] at e
                have e2 : b = g := by simpa [Value.ownBlock] using e
                subst e2; exact HNG5.out hv
              · rw [hb] at e
                injection e with e
                have h1 := (HVB.out _ _ _ HI5.out b hv).2
                omega
            have HB6 : Hid (Below B w5 w6) := ((Below.refl B w5).alloc (Nat.le_trans hB HSZ5.out) _).trans (hb6.mono hB)
            have HT6 : Hid (∀ y ∈ (ws ++ [(⟨some ⟨b, o + 5, none⟩, vc - 1, r, v.e⟩ : Lv)]) ++ [(⟨x.A, x.c, x.ks, ⟨q, chr q, x.e⟩⟩ : Lv)], Trs w6 B y.A y.l ∧ y.l.length ≤ y.c) := fun y hy => by
              rcases List.mem_append.1 hy with h | h
              · exact ⟨(HT5.out y h).1.below HB6.out, (HT5.out y h).2⟩
              · rw [List.mem_singleton] at h
                subst h
                exact ⟨HTK5.out.below HB6.out, HCK.out⟩
            have HI6 := Lib.hid (HST.out _ _ _ _ HI5.out HOUT.out)
            have HW6 := Lib.hid (HW5.out.trans HB6.out)
            have HSZ6 : Hid (w.heap.size ≤ w6.heap.size) := Nat.le_trans HSZ5.out HOUT.out.size
            have hwt6 : wt ((ws ++ [(⟨some ⟨b, o + 5, none⟩, vc - 1, r, v.e⟩ : Lv)]) ++ [(⟨x.A, x.c, x.ks, ⟨q, chr q, x.e⟩⟩ : Lv)]) ≤ gk - 1 := by
              rw [wt_append, wt_append]
              show wt ws + (2 * (nodes r).length + 1 + 0) + (2 * (nodes x.ks).length + 1 + 0) ≤ gk - 1
              have h1 := HWT.out
              have h2 := HND.out
              omega
            clear hown6 hb6 hg6 hat6 HO5 HOA HNW HT5 HI5 HW5 HSZ5 b0 b3 b4
            go_wp2
            go_roundg (gk - 1)
            case measure => have h1 := HWT.out; have h2 := HND.out; omega
            case rel => exact ⟨(ws ++ [(⟨some ⟨b, o + 5, none⟩, vc - 1, r, v.e⟩ : Lv)]) ++ [⟨x.A, x.c, x.ks, ⟨q, chr q, x.e⟩⟩], acc ++ [(x.t, 1)], V5, X6, d6, hwt6, by omega, by rw [List.length_append, List.length_append, List.length_singleton, List.length_singleton, HM.out], by rw [List.length_append, List.length_append, List.length_singleton, List.length_singleton, HM.out]; exact HO6, by rw [List.length_append, List.length_append, List.length_singleton, List.length_singleton, HM.out]; exact HNG6, HT6, HI6, by rw [List.reverse_append, List.reverse_append, List.reverse_singleton, List.reverse_singleton]; exact HRM3, HW6, HSZ6⟩
end Go.Proofs.Ytnaaejemanmgnaa
