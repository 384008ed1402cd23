/-
  The document's names in braces. Conditions: lists of at most 2^31 trees.
-/
import Derived.Test.YtapnefhmonpgdaaTermR
namespace Go.Proofs.Ytapnefhmonpgdaa
open Go.RowKit LX TR TM

theorem got_info (a b c d e f g h : Value) : (Try.prog.info? 34).map (·.size) = some (#[a, b, c, d, e, f, g, h] : Array Value).size := by kernel_rfl
/-- What the document's functions say of one thing read, and of a fault. -/
def gok (s : ByteArray) (p n : Int) : Value := .agg #[.int .i64 0, .int .i64 p, .string s, .slice none 0 0, .slice none 0 0, .int .i64 n, .bool false, .int .i64 0]
def gbad (p : Int) : Value := .agg #[.int .i64 0, .int .i64 0, .string ⟨#[]⟩, .slice none 0 0, .slice none 0 0, .int .i64 0, .bool true, .int .i64 p]
theorem kind_at {l : List Tr} {i : Int} : kindOf (rest l i) none = if 0 ≤ i ∧ i < l.length then (l.getD i.toNat r0).t.k else 0 := by
  by_cases h : 0 ≤ i ∧ i < l.length
  · rw [if_pos h, rest_cons h.1 h.2]; rfl
  · rw [if_neg h, rest_nil.2 (by omega)]; rfl
set_option maxHeartbeats 800000 in
theorem is_any (A : Option Addr) (c : Nat) (l : List Tr) (i : Int) (k : Nat) (hk : 0 < k) (w : World) (hT : Trs w w.heap.size A l) :
    Calls Try.prog 33 #[.slice A l.length c, .int .i64 i, .int .u8 (k : Int)] w fun e w' => e = .returned (.bool (decide (kindOf (rest l i) none = k))) ∧ w' = w := by
  by_cases h0 : 0 ≤ i
  · by_cases h1 : i < l.length
    · have hkk := kind_at (l := l) (i := i)
      rw [if_pos ⟨h0, h1⟩] at hkk
      obtain ⟨j, rfl⟩ := Int.eq_ofNat_of_zero_le h0
      rw [Int.toNat_natCast] at hkk
      have hj : j < l.length := by omega
      obtain ⟨bb, o, rfl, _, hc⟩ := hT.at hj
      obtain ⟨q0, _, _, _, _⟩ := hc j hj
      rw [hkk]
      have e0 : decide ((j : Int) < (l.length : Int)) = true := decide_eq_true h1
      have hq := int_beq (l.getD j r0).t.k k
      clear hc hT hkk h0
      generalize (l.getD j r0).t.k = q at *
      generalize l.length = n at *
      generalize hd : decide (q = k) = d at *
      have HD := Lib.hid hd; clear hd
      go_enter Try.func33, Try.ntmps33
      go_wp2_with fail
      go_ret
      exact ⟨rfl, rfl⟩
    · have hkk := kind_at (l := l) (i := i)
      rw [if_neg (by omega)] at hkk
      rw [hkk, decide_eq_false (by omega)]
      have e0 : decide (0 ≤ i) = true := decide_eq_true h0
      have e1 : decide (i < (l.length : Int)) = false := decide_eq_false h1
      clear hT hkk
      generalize l.length = n at *
      go_enter Try.func33, Try.ntmps33
      go_wp2_with fail
      go_ret
      exact ⟨rfl, rfl⟩
  · have hkk := kind_at (l := l) (i := i)
    rw [if_neg (by omega)] at hkk
    rw [hkk, decide_eq_false (by omega)]
    have e0 : decide (0 ≤ i) = false := decide_eq_false h0
    clear hT hkk
    generalize l.length = n at *
    go_enter Try.func33, Try.ntmps33
    go_wp2_with fail
    go_ret
    exact ⟨rfl, rfl⟩
set_option maxHeartbeats 1600000 in
theorem wrong_any (A : Option Addr) (c : Nat) (l : List Tr) (i e : Int) (w : World) (hT : Trs w w.heap.size A l) :
    Calls Try.prog 34 #[.slice A l.length c, .int .i64 i, .int .i64 e] w fun e' w' => e' = .returned (gbad (offOf (rest l i) e)) ∧ Below w.heap.size w w' := by
  have HG := Lib.hid (RowAt.new w 34 #[.int .i64 0, .int .i64 0, .string ⟨#[]⟩, .slice none 0 0, .slice none 0 0, .int .i64 0, .bool false, .int .i64 0])
  have HB : Hid (Below w.heap.size w (w.alloc (.cells #[.int .i64 0, .int .i64 0, .string ⟨#[]⟩, .slice none 0 0, .slice none 0 0, .int .i64 0, .bool false, .int .i64 0] 34))) := (Below.refl _ _).alloc (Nat.le_refl _) _
  refine calls_hid fun Q' hQ => ?_
  have HQ := Lib.hid hQ; clear hQ
  by_cases h0 : 0 ≤ i
  · by_cases h1 : i < l.length
    · have hr := rest_cons h0 h1
      obtain ⟨j, rfl⟩ := Int.eq_ofNat_of_zero_le h0
      rw [Int.toNat_natCast] at hr
      have hj : j < l.length := by omega
      obtain ⟨bb, o, rfl, hbb, hc⟩ := (hT.below HB.out).at hj
      obtain ⟨_, _, q2, _, _⟩ := hc j hj
      rw [hr] at HQ
      have HOF : Hid (offOf (l.getD j r0 :: rest l ((j : Int) + 1)) e = (l.getD j r0).t.p) := rfl
      rw [HOF.out] at HQ
      have e0 : decide ((j : Int) < (l.length : Int)) = true := decide_eq_true h1
      have hne : bb ≠ w.heap.size := by omega
      clear hc hT hr h0 HOF
      generalize (l.getD j r0).t.p = q at *
      generalize l.length = n at *
      go_enter Try.func34, Try.ntmps34
      go_wp2_with fail
      exact bodyPost_ret (ret_cell rfl _ _ w.heap.size _ _ (0, 0) _ rfl (RowAt.new w 34 #[.int .i64 0, .int .i64 0, .string ⟨#[]⟩, .slice none 0 0, .slice none 0 0, .int .i64 0, .bool true, .int .i64 q]) Try.underlying34 rfl (got_info _ _ _ _ _ _ _ _)) rfl (HQ.out _ _ ⟨rfl, (Below.refl _ _).alloc (Nat.le_refl _) _⟩)
    · have e0 : decide (0 ≤ i) = true := decide_eq_true h0
      rw [rest_nil.2 (by omega)] at HQ
      have e1 : decide (i < (l.length : Int)) = false := decide_eq_false h1
      clear hT
      generalize l.length = n at *
      go_enter Try.func34, Try.ntmps34
      go_wp2_with fail
      exact bodyPost_ret (ret_cell rfl _ _ w.heap.size _ _ (0, 0) _ rfl (RowAt.new w 34 #[.int .i64 0, .int .i64 0, .string ⟨#[]⟩, .slice none 0 0, .slice none 0 0, .int .i64 0, .bool true, .int .i64 e]) Try.underlying34 rfl (got_info _ _ _ _ _ _ _ _)) rfl (HQ.out _ _ ⟨rfl, (Below.refl _ _).alloc (Nat.le_refl _) _⟩)
  · have e0 : decide (0 ≤ i) = false := decide_eq_false h0
    rw [rest_nil.2 (by omega)] at HQ
    clear hT
    generalize l.length = n at *
    go_enter Try.func34, Try.ntmps34
    go_wp2_with fail
    exact bodyPost_ret (ret_cell rfl _ _ w.heap.size _ _ (0, 0) _ rfl (RowAt.new w 34 #[.int .i64 0, .int .i64 0, .string ⟨#[]⟩, .slice none 0 0, .slice none 0 0, .int .i64 0, .bool true, .int .i64 e]) Try.underlying34 rfl (got_info _ _ _ _ _ _ _ _)) rfl (HQ.out _ _ ⟨rfl, (Below.refl _ _).alloc (Nat.le_refl _) _⟩)
/-- Eight cells written. -/
def set8 (w : World) (g : Nat) (a b c d e f x y : Value) : World := (((set5 w g a b c d e).setCell ⟨g, 5, none⟩ f).setCell ⟨g, 6, none⟩ x).setCell ⟨g, 7, none⟩ y
section
variable {w : World} {B g : Nat} {a b c d e f x y u0 u1 u2 u3 u4 u5 u6 u7 : Value} {t : TypeId}
theorem put2 (h : RowAt w g t #[u0, u1, u2, u3, u4, u5, u6, u7]) : RowAt ((w.setCell ⟨g, 0, none⟩ a).setCell ⟨g, 1, none⟩ b) g t #[a, b, u2, u3, u4, u5, u6, u7] := (h.put 0 a).put 1 b
theorem put4 (h : RowAt w g t #[u0, u1, u2, u3, u4, u5, u6, u7]) : RowAt ((w.setCell ⟨g, 2, none⟩ c).setCell ⟨g, 3, none⟩ d) g t #[u0, u1, c, d, u4, u5, u6, u7] := (h.put 2 c).put 3 d
theorem put6 (h : RowAt w g t #[u0, u1, u2, u3, u4, u5, u6, u7]) : RowAt ((w.setCell ⟨g, 4, none⟩ e).setCell ⟨g, 5, none⟩ f) g t #[u0, u1, u2, u3, e, f, u6, u7] := (h.put 4 e).put 5 f
theorem put8 (h : RowAt w g t #[u0, u1, u2, u3, u4, u5, u6, u7]) : RowAt ((w.setCell ⟨g, 6, none⟩ x).setCell ⟨g, 7, none⟩ y) g t #[u0, u1, u2, u3, u4, u5, x, y] := (h.put 6 x).put 7 y
theorem set8_row (h : RowAt w g t #[u0, u1, u2, u3, u4, u5, u6, u7]) : RowAt (set8 w g a b c d e f x y) g t #[a, b, c, d, e, f, x, y] := put8 (put6 (put4 (put2 h)))
theorem set8_below (h : B ≤ g) : Below B w (set8 w g a b c d e f x y) :=
  (((set5_below h).setCell (p := ⟨g, 5, none⟩) h _).setCell (p := ⟨g, 6, none⟩) h _).setCell (p := ⟨g, 7, none⟩) h _
theorem set8_other {k : Nat} (hk : k ≠ g) : (set8 w g a b c d e f x y).heap[k]? = w.heap[k]? :=
  (World.setCell_other9 (p := ⟨g, 7, none⟩) (Ne.symm hk)).trans ((World.setCell_other9 (p := ⟨g, 6, none⟩) (Ne.symm hk)).trans ((World.setCell_other9 (p := ⟨g, 5, none⟩) (Ne.symm hk)).trans (set5_other hk)))
theorem set8_size : (set8 w g a b c d e f x y).heap.size = w.heap.size := by simp [set8, set5, World.setCell]
theorem row8 (h : RowAt w g t #[u0, u1, u2, u3, u4, u5, u6, u7]) : (w.cell? ⟨g, 0, none⟩ = some u0 ∧ w.cell? ⟨g, 1, none⟩ = some u1 ∧ w.cell? ⟨g, 2, none⟩ = some u2 ∧ w.cell? ⟨g, 3, none⟩ = some u3 ∧ w.cell? ⟨g, 4, none⟩ = some u4 ∧ w.cell? ⟨g, 5, none⟩ = some u5 ∧ w.cell? ⟨g, 6, none⟩ = some u6 ∧ w.cell? ⟨g, 7, none⟩ = some u7) ∧ ∀ o, w.frozen? ⟨g, o, none⟩ = false :=
  ⟨⟨(h.cell 0).trans rfl, (h.cell 1).trans rfl, (h.cell 2).trans rfl, (h.cell 3).trans rfl, (h.cell 4).trans rfl, (h.cell 5).trans rfl, (h.cell 6).trans rfl, (h.cell 7).trans rfl⟩, h.free⟩
end
theorem one6_step {l : List Tr} {j : Nat} {e : Int} (hj : j < l.length) (h : (l.getD j r0).t.k = 97) : Step nameR l j e none ⟨(l.getD j r0).t.s, (l.getD j r0).t.p⟩ ((j : Int) + 1) none := by
  have hr := rest_cons (l := l) (i := (j : Int)) (by omega) (by omega)
  rw [Int.toNat_natCast] at hr
  refine Step.ok ⟨1, rfl, by rw [hr]; simp⟩ ?_
  rw [hr]
  unfold nameR
  rw [takeR_hit h]; rfl
set_option maxRecDepth 100000 in
set_option maxHeartbeats 3200000 in
theorem one6_any (A : Option Addr) (c : Nat) (l : List Tr) (i e : Int) (w : World) (hT : Trs w w.heap.size A l) (hl : l.length ≤ 2147483648) :
    Calls Try.prog 99 #[.int .i64 6, .slice A l.length c, .int .i64 i, .int .i64 e] w fun e' w' =>
      ((∃ x, e' = .returned (gok x.s x.p (i + 1)) ∧ Step nameR l i e none x (i + 1) none) ∨ (∃ p, e' = .returned (gbad p) ∧ Step nameR l i e none w0 i (some p))) ∧ Below w.heap.size w w' := by
  have HG := Lib.hid (RowAt.new w 34 #[.int .i64 0, .int .i64 0, .string ⟨#[]⟩, .slice none 0 0, .slice none 0 0, .int .i64 0, .bool false, .int .i64 0])
  have hB : Below w.heap.size w (w.alloc (.cells #[.int .i64 0, .int .i64 0, .string ⟨#[]⟩, .slice none 0 0, .slice none 0 0, .int .i64 0, .bool false, .int .i64 0] 34)) := (Below.refl _ _).alloc (Nat.le_refl _) _
  have HB := Lib.hid hB
  have hT1 := (hT.below hB).mono hB.size
  have HI := Lib.hid (is_any A c l i 97 (by decide) _ hT1)
  have HW := Lib.hid (wrong_any A c l i e _ hT1)
  refine calls_hid fun Q' hQ => ?_
  have HQ := Lib.hid hQ; clear hQ
  by_cases hk : kindOf (rest l i) none = 97
  · rw [decide_eq_true hk] at HI
    have h9 := kind_at (l := l) (i := i)
    by_cases hin : 0 ≤ i ∧ i < l.length
    · rw [if_pos hin, hk] at h9
      obtain ⟨j, rfl⟩ := Int.eq_ofNat_of_zero_le hin.1
      rw [Int.toNat_natCast] at h9
      have hj : j < l.length := by omega
      obtain ⟨bb, o, rfl, hbb, hc⟩ := hT1.at hj
      obtain ⟨_, q1, q2, _, _⟩ := hc j hj
      have HST := Lib.hid (one6_step (e := e) hj h9.symm)
      have hjn : (j : Int) < (l.length : Int) := by omega
      clear hT hT1 hc h9 hk HW
      generalize (l.getD j r0).t.p = p at *
      generalize (l.getD j r0).t.s = s at *
      generalize l.length = n at *
      go_enter Try.func99, Try.ntmps99
      go_wp2_with fail
      refine HI.out.mono ?_
      rintro e' w' ⟨rfl, rfl⟩
      obtain ⟨⟨h0, h1, h2, h3, h4, h5, h6, h7⟩, ff⟩ := row8 HG.out
      go_wp2_with fail
      go_region
      go_wp2_with fail
      exact bodyPost_ret (ret_cell rfl _ _ w.heap.size _ _ (0, 0) _ rfl ((RowAt.new w 34 #[.int .i64 0, .int .i64 p, .string s, .slice none 0 0, .slice none 0 0, .int .i64 ((j : Int) + 1), .bool false, .int .i64 0]).drew) Try.underlying34 rfl (got_info _ _ _ _ _ _ _ _)) rfl (HQ.out _ _ ⟨.inl ⟨⟨s, p⟩, rfl, HST.out⟩, ((Below.refl _ _).alloc (Nat.le_refl _) _).drew⟩)
    · rw [if_neg hin, hk] at h9; omega
  · rw [decide_eq_false hk] at HI
    have HST : Hid (Step nameR l i e none w0 i (some (offOf (rest l i) e))) := Step.fault (Adv.refl _ _) (by unfold nameR; rw [takeR_miss hk]; rfl)
    clear hT hT1 hk
    generalize offOf (rest l i) e = p at *
    generalize l.length = n at *
    go_enter Try.func99, Try.ntmps99
    go_wp2_with fail
    refine HI.out.mono ?_
    rintro e' w' ⟨rfl, rfl⟩
    go_wp2_with fail
    refine HW.out.mono ?_
    rintro e' w1 ⟨rfl, hb1⟩
    have HG1 := Lib.hid (HG.out.below hb1 HG.out.lt)
    have HB1 := Lib.hid (HB.out.trans (hb1.mono HB.out.size))
    obtain ⟨⟨h0, h1, h2, h3, h4, h5, h6, h7⟩, ff⟩ := row8 HG1.out
    clear hb1
    unfold gbad
    go_wp2_with fail
    change bodyPost _ _ _ _ _ (set8 w1 w.heap.size (.int .i64 0) (.int .i64 0) (.string ⟨#[]⟩) (.slice none 0 0) (.slice none 0 0) (.int .i64 0) (.bool true) (.int .i64 p))
    exact bodyPost_ret (ret_cell rfl _ _ w.heap.size _ _ (0, 0) _ rfl (set8_row HG1.out) Try.underlying34 rfl (got_info _ _ _ _ _ _ _ _)) rfl (HQ.out _ _ ⟨.inr ⟨p, rfl, HST.out⟩, HB1.out.trans (set8_below (Nat.le_refl _))⟩)
theorem own_ne_row {w : World} {base size n g : Nat} {e t : TypeId} {x : Value} {cs : List Value} {ds : Array Value} (h : w.ownsRow base e size x n cs) (hr : RowAt w g t ds) (he : e ≠ t) : x.ownBlock ≠ some g := by
  rcases h.2 with ⟨rfl, _⟩ | ⟨g', cap, cur, rfl, _, hh, _⟩
  · simp [Value.ownBlock]
  · intro hx
    have hx' : g' = g := by simpa [Value.ownBlock] using hx
    subst hx'
    have hb' : w.heap[g']? = some (.cells ds t (0, 0)) := hr
    rw [hh] at hb'
    simp only [Option.some.injEq, Obj.cells.injEq] at hb'
    exact he hb'.2.1
/-- A word as a node. -/
def wnd (x : Wd) : Nd := nd 0 x.p x.s [] []
/-- Where the document's list stands ahead of an element. -/
def Hd (l : List Tr) (e : Int) (acc : List Wd) (a : Int) : Prop := (acc = [] ∧ a = 0) ∨ ∃ i2, LSt nameR l 0 e none acc i2 none ∧ kindOf (rest l i2) none = 44 ∧ a = i2 + 1 ∧ 0 ≤ i2 ∧ i2 < l.length
theorem Hd.more {l : List Tr} {e : Int} {acc : List Wd} {a : Int} {x : Wd} {i3 : Int} {f3 : Option Int} (h : Hd l e acc a) (h2 : Step nameR l a e none x i3 f3) : LSt nameR l 0 e none (acc ++ [x]) i3 f3 := by
  rcases h with ⟨rfl, rfl⟩ | ⟨i2, hL, hk, rfl, h0, h1⟩
  · exact LSt.start h2
  · have hr := rest_cons h0 h1
    have h9 : (l.getD i2.toNat r0).t.k = 44 := by rw [hr] at hk; exact hk
    have ht : Step (takeR 44) l i2 e none (l.getD i2.toNat r0).t (i2 + 1) none := Step.ok ⟨1, rfl, by rw [hr]; simp⟩ (by rw [hr]; exact takeR_hit h9)
    exact (hL.next hk ht h2).1
theorem Hd.le {l : List Tr} {e : Int} {acc : List Wd} {a : Int} (h : Hd l e acc a) : 0 ≤ a ∧ a ≤ l.length ∧ (acc.length : Int) ≤ a := by
  rcases h with ⟨rfl, rfl⟩ | ⟨i2, hL, hk, rfl, h0, h1⟩
  · exact ⟨by omega, by omega, by simp⟩
  · refine ⟨by omega, by omega, ?_⟩
    rcases hL.few with h | h
    · omega
    · exact absurd rfl h
set_option maxRecDepth 100000 in
set_option maxHeartbeats 1200000 in
theorem some6_any (A : Option Addr) (c : Nat) (l : List Tr) (e : Int) (w : World) (hT : Trs w w.heap.size A l) (hl : l.length ≤ 1048576) :
    Calls Try.prog 67 #[.int .i64 6, .slice A l.length c, .int .i64 0, .int .i64 e] w fun e' w' =>
      ((∃ ws i2 X d s9 p9, e' = .returned (.tuple #[.slice X ws.length d, gok s9 p9 i2]) ∧ Step (someR nameR) l 0 e none ws i2 none ∧ ws.length ≤ d ∧ SlC w' (fun k => w.heap.size + 1 ≤ k) X (ncs (ws.map wnd))) ∨ (∃ p, e' = .returned (.tuple #[.slice none 0 0, gbad p]) ∧ someR nameR l e = .error p)) ∧ Below w.heap.size w w' := by
  have HG := Lib.hid (RowAt.new w 34 #[.int .i64 0, .int .i64 0, .string ⟨#[]⟩, .slice none 0 0, .slice none 0 0, .int .i64 0, .bool false, .int .i64 0])
  have hB : Below w.heap.size w (w.alloc (.cells #[.int .i64 0, .int .i64 0, .string ⟨#[]⟩, .slice none 0 0, .slice none 0 0, .int .i64 0, .bool false, .int .i64 0] 34)) := (Below.refl _ _).alloc (Nat.le_refl _) _
  have HB := Lib.hid hB
  have HT := Lib.hid hT
  clear hT hB
  refine calls_hid fun Q' hQ => ?_
  have HQ := Lib.hid hQ; clear hQ
  generalize hn : l.length = n at *
  have HN := Lib.hid hn; clear hn
  go_enter Try.func67, Try.ntmps67
  go_wp2_with fail
  go_loopw [10, 2] (fun ov av wr => ∃ (acc : List Wd) (X : Option Addr) (d : Nat) (a : Int), ov = .slice X acc.length d ∧ av = .int .i64 a ∧ Hid (Hd l e acc a) ∧ Hid (wr.ownsRow (w.heap.size + 1) 32 5 (.slice X acc.length d) acc.length (ncs (acc.map wnd))) ∧ Hid (RowAt wr w.heap.size 34 #[.int .i64 0, .int .i64 0, .string ⟨#[]⟩, .slice none 0 0, .slice none 0 0, .int .i64 0, .bool false, .int .i64 0]) ∧ Hid (Below w.heap.size w wr) ∧ Hid (w.heap.size < wr.heap.size)) (fun _ av _ => n + 1 - (intOf av).toNat)
  case atStart => exact ⟨[], none, 0, 0, rfl, rfl, .inl ⟨rfl, rfl⟩, World.ownsRow_nil _ _ _ _, HG.out, HB.out, HG.out.lt⟩
  case round =>
    obtain ⟨acc, X, d, a, rfl, rfl, HH, HO, HR, HW, HSZ⟩ := hrel
    have hszr := HSZ.out
    obtain ⟨ha0, ha1, ha2⟩ := HH.out.le
    rw [HN.out] at ha1
    have hT1 := (HT.out.below HW.out).mono HW.out.size
    have hone := one6_any A c l a e wr hT1 (by rw [HN.out]; omega)
    rw [HN.out] at hone
    have HONE := Lib.hid hone; clear hone hT1
    go_wp2_with fail
    refine HONE.out.mono ?_
    rintro e' w1 ⟨⟨⟨s9, p9⟩, rfl, hst⟩ | ⟨p, rfl, hst⟩, hb1⟩
    · have hb2 : Below w1.heap.size w1 (w1.alloc (.cells #[.int .i64 0, .int .i64 p9, .string s9, .slice none 0 0, .slice none 0 0, .int .i64 (a + 1), .bool false, .int .i64 0] 34)) := (Below.refl _ _).alloc (Nat.le_refl _) _
      have HW2 := Lib.hid ((HW.out.trans (hb1.mono HW.out.size)).trans (hb2.mono (Nat.le_trans HW.out.size hb1.size)))
      have HO2 := Lib.hid (own_below (own_below HO.out hb1 (Nat.le_refl _)) hb2 (Nat.le_refl _))
      have HR2 := Lib.hid ((HR.out.below hb1 hszr).below hb2 (Nat.lt_of_lt_of_le hszr hb1.size))
      have HG2 := Lib.hid (RowAt.new w1 34 #[.int .i64 0, .int .i64 p9, .string s9, .slice none 0 0, .slice none 0 0, .int .i64 (a + 1), .bool false, .int .i64 0])
      have HLS := Lib.hid (HH.out.more hst)
      have hz1 : wr.heap.size ≤ w1.heap.size := hb1.size
      clear hb1 hb2 hst HH HO HR HW
      unfold gok
      go_upto_region 3 with fail
      generalize w1.alloc (.cells #[.int .i64 0, .int .i64 p9, .string s9, .slice none 0 0, .slice none 0 0, .int .i64 (a + 1), .bool false, .int .i64 0] 34) = w2 at *
      have hz2 : w1.heap.size < w2.heap.size := HG2.out.lt
      obtain ⟨⟨h0, h1, h2, h3, h4, h5, h6, h7⟩, ff⟩ := row8 HG2.out
      have hbase : w.heap.size + 1 ≤ w2.heap.size := by omega
      generalize hm : acc.length = m at *
      have HM := Lib.hid hm; clear hm
      have hms : m ≤ 1048576 := by omega
      go_wp2_with (at_builtin; refine wpList_moreB _ rfl _ _ 30 rfl 32 (.agg #[.int .i64 0, .int .i64 0, .string ⟨#[]⟩, .slice none 0 0, .slice none 0 0]) 5 80 Try.underlying30 infoNode rfl (by decide) (w.heap.size + 1) X m d (ncs (acc.map wnd)) rfl ?c1 w2.heap.size (ncells (wnd ⟨s9, p9⟩)) rfl rfl ?c2 (nc_one _) ?c3 ?c4 ?c5 ?_)
      case c1 => exact own_below HO2.out ((Below.refl _ _).alloc (Nat.le_refl _) _) (Nat.le_refl _)
      case c2 => intro j u hu; have h := (RowAt.new w2 32 (ncells (wnd ⟨s9, p9⟩)).toArray).cell j; exact h.trans (by simpa using hu)
      case c3 => simp only [maxLen]; omega
      case c4 => omega
      case c5 => simp; omega
      intro X3 d3 w3 hown3 hb3 hg3 hat3
      have hb23 : Below (w.heap.size + 1) w2 w3 := ((Below.refl _ w2).alloc hbase _).trans hb3
      have HW3 := Lib.hid (HW2.out.trans (hb23.mono (Nat.le_succ _)))
      have HR3 := Lib.hid (HR2.out.below hb23 (Nat.lt_succ_self _))
      have hz3 : w2.heap.size < w3.heap.size := by have h := hg3.size; simp at h; omega
      have HG3 : Hid (RowAt w3 w1.heap.size 34 #[.int .i64 0, .int .i64 p9, .string s9, .slice none 0 0, .slice none 0 0, .int .i64 (a + 1), .bool false, .int .i64 0]) := by
        have hne := own_ne_row HO2.out HG2.out (by decide)
        exact Lib.hid ((HG2.out.alloc _).grown hg3 hne)
      have HO3 : Hid (w3.ownsRow (w.heap.size + 1) 32 5 (.slice X3 (acc ++ [(⟨s9, p9⟩ : Wd)]).length d3) (acc ++ [(⟨s9, p9⟩ : Wd)]).length (ncs ((acc ++ [(⟨s9, p9⟩ : Wd)]).map wnd))) := by
        rw [List.length_append, List.length_singleton, HM.out, List.map_append, ncs_append, List.map_singleton, ncs_one]; exact Lib.hid hown3
      clear hown3 hb3 hg3 hat3 h0 h1 h2 h3 h4 h5 h6 h7 ff HG2 HO2 HW2 HR2 hb23
      have hI := is_any A c l (a + 1) 44 (by decide) w3 ((HT.out.below HW3.out).mono HW3.out.size)
      rw [HN.out] at hI
      have HI := Lib.hid hI; clear hI
      obtain ⟨⟨h0, h1, h2, h3, h4, h5, h6, h7⟩, ff⟩ := row8 HG3.out
      go_upto_region 6 with fail
      by_cases hk : kindOf (rest l (a + 1)) none = 44
      · rw [decide_eq_true hk] at HI
        have HKK := Lib.hid hk; clear hk
        go_wp2_with fail
        refine HI.out.mono ?_
        rintro e' w' ⟨rfl, rfl⟩
        have hin : a + 1 < l.length := by
          have h := HKK.out
          rw [kind_at] at h
          by_cases hi : 0 ≤ a + 1 ∧ a + 1 < l.length
          · exact hi.2
          · rw [if_neg hi] at h; cases h
        have hinn := hin
        rw [HN.out] at hinn
        have HHN : Hid (Hd l e (acc ++ [(⟨s9, p9⟩ : Wd)]) (a + 1 + 1)) := .inr ⟨a + 1, HLS.out, HKK.out, rfl, by omega, hin⟩
        clear hin
        go_wp2_with fail
        go_roundw
        case rel => exact ⟨acc ++ [(⟨s9, p9⟩ : Wd)], X3, d3, a + 1 + 1, by rw [List.length_append, List.length_singleton, HM.out], by go_num, HHN, HO3, HR3, HW3, Nat.lt_of_lt_of_le hszr (Nat.le_of_lt (by omega))⟩
        case measure => simp [intOf]; omega
      · rw [decide_eq_false hk] at HI
        have HST := Lib.hid (HLS.out.stop hk)
        clear hk
        go_wp2_with fail
        refine HI.out.mono ?_
        rintro e' w' ⟨rfl, rfl⟩
        obtain ⟨⟨k0, k1, k2, k3, k4, k5, k6, k7⟩, fk⟩ := row8 HR3.out
        go_wp2_with fail
        go_region
        go_wp2_with fail
        change bodyPost _ _ _ _ _ ((set8 w' w.heap.size (.int .i64 0) (.int .i64 p9) (.string s9) (.slice none 0 0) (.slice none 0 0) (.int .i64 (a + 1)) (.bool false) (.int .i64 0)).drew)
        have e1 : RowAt (set8 w' w.heap.size (.int .i64 0) (.int .i64 p9) (.string s9) (.slice none 0 0) (.slice none 0 0) (.int .i64 (a + 1)) (.bool false) (.int .i64 0)) w.heap.size 34 #[.int .i64 0, .int .i64 p9, .string s9, .slice none 0 0, .slice none 0 0, .int .i64 (a + 1), .bool false, .int .i64 0] := set8_row HR3.out
        have e2 : Below w.heap.size w (set8 w' w.heap.size (.int .i64 0) (.int .i64 p9) (.string s9) (.slice none 0 0) (.slice none 0 0) (.int .i64 (a + 1)) (.bool false) (.int .i64 0)) := HW3.out.trans (set8_below (Nat.le_refl _))
        have e3 : (set8 w' w.heap.size (.int .i64 0) (.int .i64 p9) (.string s9) (.slice none 0 0) (.slice none 0 0) (.int .i64 (a + 1)) (.bool false) (.int .i64 0)).ownsRow (w.heap.size + 1) 32 5 (.slice X3 (acc ++ [(⟨s9, p9⟩ : Wd)]).length d3) (acc ++ [(⟨s9, p9⟩ : Wd)]).length (ncs ((acc ++ [(⟨s9, p9⟩ : Wd)]).map wnd)) := own_like9 HO3.out (fun k hk h => set8_other (by have h9 := HO3.out.lt k h; omega))
        generalize set8 w' w.heap.size (.int .i64 0) (.int .i64 p9) (.string s9) (.slice none 0 0) (.slice none 0 0) (.int .i64 (a + 1)) (.bool false) (.int .i64 0) = w8 at *
        have e4 := own_cap_le e3
        have e5 : SlC w8.drew (fun k => w.heap.size + 1 ≤ k) X3 (ncs ((acc ++ [(⟨s9, p9⟩ : Wd)]).map wnd)) := (SlC.of_own e3 fun k h _ => h).keep9 fun _ _ _ => rfl
        exact bodyPost_ret (ret_slot_cell rfl _ _ (.slice X3 (m + 1) d3) w.heap.size _ _ (0, 0) _ rfl rfl e1.drew Try.underlying34 rfl (got_info _ _ _ _ _ _ _ _)) rfl (HQ.out _ _ ⟨.inl ⟨acc ++ [(⟨s9, p9⟩ : Wd)], a + 1, X3, d3, s9, p9, by rw [List.length_append, List.length_singleton, HM.out]; rfl, HST.out, e4, e5⟩, e2.drew⟩)
    · have HE : Hid (someR nameR l e = .error p) := by
        have h := HH.out.more hst
        rcases h.good rfl with ⟨q, h1, h2⟩ | ⟨h1, _⟩
        · obtain rfl := Option.some.inj h1
          rw [rest_zero] at h2; exact Lib.hid h2
        · cases h1
      have hb2 : Below w1.heap.size w1 (w1.alloc (.cells #[.int .i64 0, .int .i64 0, .string ⟨#[]⟩, .slice none 0 0, .slice none 0 0, .int .i64 0, .bool true, .int .i64 p] 34)) := (Below.refl _ _).alloc (Nat.le_refl _) _
      have HW2 := Lib.hid ((HW.out.trans (hb1.mono HW.out.size)).trans (hb2.mono (Nat.le_trans HW.out.size hb1.size)))
      have HR2 := Lib.hid ((HR.out.below hb1 hszr).below hb2 (Nat.lt_of_lt_of_le hszr hb1.size))
      have HG2 := Lib.hid (RowAt.new w1 34 #[.int .i64 0, .int .i64 0, .string ⟨#[]⟩, .slice none 0 0, .slice none 0 0, .int .i64 0, .bool true, .int .i64 p])
      have hz1 : wr.heap.size ≤ w1.heap.size := hb1.size
      clear hb1 hb2 hst HH HO HR HW
      unfold gbad
      go_upto_region 3 with fail
      generalize w1.alloc (.cells #[.int .i64 0, .int .i64 0, .string ⟨#[]⟩, .slice none 0 0, .slice none 0 0, .int .i64 0, .bool true, .int .i64 p] 34) = w2 at *
      have hz2 : w1.heap.size < w2.heap.size := HG2.out.lt
      obtain ⟨⟨h0, h1, h2, h3, h4, h5, h6, h7⟩, ff⟩ := row8 HG2.out
      obtain ⟨⟨k0, k1, k2, k3, k4, k5, k6, k7⟩, fk⟩ := row8 HR2.out
      go_wp2_with fail
      go_region
      go_wp2_with fail
      change bodyPost _ _ _ _ _ ((set8 w2 w.heap.size (.int .i64 0) (.int .i64 0) (.string ⟨#[]⟩) (.slice none 0 0) (.slice none 0 0) (.int .i64 0) (.bool true) (.int .i64 p)).drew)
      have e1 : RowAt (set8 w2 w.heap.size (.int .i64 0) (.int .i64 0) (.string ⟨#[]⟩) (.slice none 0 0) (.slice none 0 0) (.int .i64 0) (.bool true) (.int .i64 p)) w.heap.size 34 #[.int .i64 0, .int .i64 0, .string ⟨#[]⟩, .slice none 0 0, .slice none 0 0, .int .i64 0, .bool true, .int .i64 p] := set8_row HR2.out
      have e2 : Below w.heap.size w (set8 w2 w.heap.size (.int .i64 0) (.int .i64 0) (.string ⟨#[]⟩) (.slice none 0 0) (.slice none 0 0) (.int .i64 0) (.bool true) (.int .i64 p)) := HW2.out.trans (set8_below (Nat.le_refl _))
      generalize set8 w2 w.heap.size (.int .i64 0) (.int .i64 0) (.string ⟨#[]⟩) (.slice none 0 0) (.slice none 0 0) (.int .i64 0) (.bool true) (.int .i64 p) = w8 at *
      exact bodyPost_ret (ret_slot_cell rfl _ _ (.slice none 0 0) w.heap.size _ _ (0, 0) _ rfl rfl e1.drew Try.underlying34 rfl (got_info _ _ _ _ _ _ _ _)) rfl (HQ.out _ _ ⟨.inr ⟨p, rfl, HE.out⟩, e2.drew⟩)
end Go.Proofs.Ytapnefhmonpgdaa
