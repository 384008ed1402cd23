/-
  The reader of layer 10 in memory, and its smallest functions. Conditions: lists of trees of at most 2^41.
-/
import Derived.Test.YtapnefhmonpgdaaTermMath
import Derived.Deep.MidRow
namespace Go.Proofs.Ytapnefhmonpgdaa
open Go.RowKit LX TR TM

/-- One old block may be another, and new ones are there. -/
structure Mv (b : Nat) (w w' : World) : Prop where
  low : Below b w w'
  block : ∀ k, k < w.heap.size → k ≠ b → w'.heap[k]? = w.heap[k]?
section
variable {b B : Nat} {w w' w2 : World}
theorem Mv.size (h : Mv b w w') : w.heap.size ≤ w'.heap.size := h.low.size
theorem Mv.refl (b : Nat) (w : World) : Mv b w w := ⟨Below.refl _ _, fun _ _ _ => rfl⟩
theorem Mv.trans (h : Mv b w w') (h2 : Mv b w' w2) : Mv b w w2 := ⟨h.low.trans h2.low, fun k hk hne => (h2.block k (Nat.lt_of_lt_of_le hk h.size) hne).trans (h.block k hk hne)⟩
theorem Mv.below (hb : b < w.heap.size) (h : Below w.heap.size w w') : Mv b w w' := ⟨h.mono (by omega), fun k hk _ => h.block k hk⟩
/-- New blocks may be changed, as well as that one. -/
theorem Mv.on (h : Mv b w w') (hb : Below b w' w2) (hc : ∀ k, k < w.heap.size → k ≠ b → w2.heap[k]? = w'.heap[k]?) : Mv b w w2 := ⟨h.low.trans hb, fun k hk hne => (hc k hk hne).trans (h.block k hk hne)⟩
theorem Mv.onBelow (h : Mv b w w') (hbw : b < w.heap.size) (hb : Below B w' w2) (hB : w.heap.size ≤ B) : Mv b w w2 := h.on (hb.mono (by omega)) fun k hk _ => hb.block k (by omega)
theorem Mv.alloc (h : Mv b w w') (hbw : b < w.heap.size) (o : Obj) : Mv b w (w'.alloc o) := h.onBelow hbw ((Below.refl w'.heap.size _).alloc (Nat.le_refl _) o) h.size
theorem Mv.drewN (h : Mv b w w') (n : Nat) : Mv b w (w'.drewN n) := ⟨bdrewN h.low n, h.block⟩
theorem Mv.drew (h : Mv b w w') : Mv b w w'.drew := ⟨h.low.drew, h.block⟩
theorem Mv.setCell (h : Mv b w w') {p : Addr} (hp : p.block = b ∨ w.heap.size ≤ p.block) (hbw : b < w.heap.size) (u : Value) : Mv b w (w'.setCell p u) :=
  h.on ((Below.refl b w').setCell (by rcases hp with hp | hp <;> omega) u) fun k hk hne => by
    simp only [World.setCell, Array.getElem?_modify]
    rw [if_neg]
    rcases hp with hp | hp <;> omega
theorem Mv.setRow (h : Mv b w w') {g : Nat} (hp : g = b ∨ w.heap.size ≤ g) (hbw : b < w.heap.size) (ds : Array Value) : Mv b w (w'.setRow g ds) :=
  h.on (below_setRow (by rcases hp with hp | hp <;> omega) ds) fun k hk hne => setRow_other w' g k ds (by rcases hp with hp | hp <;> omega)
end
theorem RowAt.mv {b q : Nat} {w w' : World} {t : TypeId} {cs : Array Value} (h : RowAt w q t cs) (hm : Mv b w w') (hq : q ≠ b) : RowAt w' q t cs := (hm.block q h.lt hq).trans h
theorem row2 {w : World} {g : Nat} {t : TypeId} {a b : Value} (h : RowAt w g t #[a, b]) : w.cell? ⟨g, 0, none⟩ = some a ∧ w.cell? ⟨g, 1, none⟩ = some b ∧ w.frozen? ⟨g, 0, none⟩ = false ∧ w.frozen? ⟨g, 1, none⟩ = false :=
  ⟨(h.cell 0).trans rfl, (h.cell 1).trans rfl, h.free 0, h.free 1⟩
theorem row3 {w : World} {g : Nat} {t : TypeId} {a b c : Value} (h : RowAt w g t #[a, b, c]) : w.cell? ⟨g, 0, none⟩ = some a ∧ w.cell? ⟨g, 1, none⟩ = some b ∧ w.cell? ⟨g, 2, none⟩ = some c ∧ w.frozen? ⟨g, 0, none⟩ = false ∧ w.frozen? ⟨g, 1, none⟩ = false ∧ w.frozen? ⟨g, 2, none⟩ = false :=
  ⟨(h.cell 0).trans rfl, (h.cell 1).trans rfl, (h.cell 2).trans rfl, h.free 0, h.free 1, h.free 2⟩
theorem row5 {w : World} {g : Nat} {t : TypeId} {a b c d e : Value} (h : RowAt w g t #[a, b, c, d, e]) : w.cell? ⟨g, 0, none⟩ = some a ∧ w.cell? ⟨g, 1, none⟩ = some b ∧ w.cell? ⟨g, 2, none⟩ = some c ∧ w.cell? ⟨g, 3, none⟩ = some d ∧ w.cell? ⟨g, 4, none⟩ = some e
    ∧ w.frozen? ⟨g, 0, none⟩ = false ∧ w.frozen? ⟨g, 1, none⟩ = false ∧ w.frozen? ⟨g, 2, none⟩ = false ∧ w.frozen? ⟨g, 3, none⟩ = false ∧ w.frozen? ⟨g, 4, none⟩ = false :=
  ⟨(h.cell 0).trans rfl, (h.cell 1).trans rfl, (h.cell 2).trans rfl, (h.cell 3).trans rfl, (h.cell 4).trans rfl, h.free 0, h.free 1, h.free 2, h.free 3, h.free 4⟩
/-- The cells of a reader. -/
def rdc (A : Option Addr) (n c : Nat) (i e x y : Int) : Array Value := #[.slice A n c, .int .i64 i, .int .i64 e, .int .i64 x, .int .i64 y]
abbrev RdAt (w : World) (b : Nat) (A : Option Addr) (n c : Nat) (i e x y : Int) : Prop := RowAt w b 95 (rdc A n c i e x y)
section
variable {w : World} {b : Nat} {A : Option Addr} {n c : Nat} {i e x y : Int}
theorem rd_cells (h : RdAt w b A n c i e x y) : w.cell? ⟨b, 0, none⟩ = some (.slice A n c) ∧ w.cell? ⟨b, 1, none⟩ = some (.int .i64 i) ∧ w.cell? ⟨b, 2, none⟩ = some (.int .i64 e) ∧ w.cell? ⟨b, 3, none⟩ = some (.int .i64 x) ∧ w.cell? ⟨b, 4, none⟩ = some (.int .i64 y) :=
  ⟨(h.cell 0).trans rfl, (h.cell 1).trans rfl, (h.cell 2).trans rfl, (h.cell 3).trans rfl, (h.cell 4).trans rfl⟩
end

set_option maxHeartbeats 400000 in
theorem ended_any (b : Nat) (A : Option Addr) (n c : Nat) (i e x y : Int) (w : World) (h : RdAt w b A n c i e x y) :
    Calls Try.prog 98 #[.pointer (some ⟨b, 0, none⟩)] w fun e' w' => e' = .returned (.bool (decide (i < 0 ∨ (n : Int) ≤ i))) ∧ Dr w w' := by
  obtain ⟨c0, c1, c2, c3, c4⟩ := rd_cells h
  clear h
  by_cases h0 : i < 0
  · have e0 : decide (i < 0) = true := decide_eq_true h0
    rw [show decide (i < 0 ∨ (n : Int) ≤ i) = true from decide_eq_true (.inl h0)]
    go_enter Try.func98, Try.ntmps98
    go_wp2_with fail
    go_quiet (fail)
    go_wp2
    go_ret
    exact ⟨rfl, (Dr.refl _).more _⟩
  · by_cases h1 : (n : Int) ≤ i
    · have e0 : decide (i < 0) = false := decide_eq_false h0
      have e1 : decide ((n : Int) ≤ i) = true := decide_eq_true h1
      rw [show decide (i < 0 ∨ (n : Int) ≤ i) = true from decide_eq_true (.inr h1)]
      go_enter Try.func98, Try.ntmps98
      go_wp2_with fail
      go_quiet (fail)
      go_wp2
      go_ret
      exact ⟨rfl, (Dr.refl _).more _⟩
    · have e0 : decide (i < 0) = false := decide_eq_false h0
      have e1 : decide ((n : Int) ≤ i) = false := decide_eq_false h1
      rw [show decide (i < 0 ∨ (n : Int) ≤ i) = false from decide_eq_false (by omega)]
      go_enter Try.func98, Try.ntmps98
      go_wp2_with fail
      go_quiet (fail)
      go_wp2
      go_ret
      exact ⟨rfl, (Dr.refl _).more _⟩

/-- A reader's state: the list that it reads, and what it has reached. -/
structure Rs (w : World) (b : Nat) (A : Option Addr) (c : Nat) (l : List Tr) (i e : Int) (f : Option Int) : Prop where
  at_ : RdAt w b A l.length c i e (fc f) (fa f)
  trs : Trs w b A l
  len : l.length ≤ 2199023255552 ∧ ∀ x ∈ nodes l, x.ks.length ≤ 2199023255552
theorem Rs.lt {w : World} {b : Nat} {A : Option Addr} {c : Nat} {l : List Tr} {i e : Int} {f : Option Int} (h : Rs w b A c l i e f) : b < w.heap.size := h.at_.lt
theorem Rs.below {w w' : World} {b : Nat} {A : Option Addr} {c : Nat} {l : List Tr} {i e : Int} {f : Option Int} (h : Rs w b A c l i e f) (hb : Below w.heap.size w w') : Rs w' b A c l i e f := ⟨h.at_.below hb h.lt, h.trs.below (hb.mono (Nat.le_of_lt h.lt)), h.len⟩
theorem Rs.mv {w w' : World} {b : Nat} {A : Option Addr} {c : Nat} {l : List Tr} {i e i' e' : Int} {f f' : Option Int} (h : Rs w b A c l i e f) (hm : Mv b w w') (h' : RdAt w' b A l.length c i' e' (fc f') (fa f')) : Rs w' b A c l i' e' f' := ⟨h', h.trs.below hm.low, h.len⟩

theorem Rs.far {w : World} {b g j : Nat} {A : Option Addr} {c : Nat} {l : List Tr} {i e : Int} {f : Option Int} (h : Rs w b A c l i e f) (hg : b < g) {u : Value} : Rs (w.setCell ⟨g, j, none⟩ u) b A c l i e f :=
  ⟨h.at_.far (p := ⟨g, j, none⟩) (Nat.ne_of_gt hg) u, h.trs.below ((Below.refl b w).setCell (p := ⟨g, j, none⟩) (Nat.le_of_lt hg) u), h.len⟩
theorem Rs.low {w w' : World} {b B : Nat} {A : Option Addr} {c : Nat} {l : List Tr} {i e : Int} {f : Option Int} (h : Rs w b A c l i e f) (hb : Below B w w') (hB : b < B) : Rs w' b A c l i e f := ⟨h.at_.below hb hB, h.trs.below (hb.mono (Nat.le_of_lt hB)), h.len⟩
theorem Rs.alloc {w : World} {b : Nat} {A : Option Addr} {c : Nat} {l : List Tr} {i e : Int} {f : Option Int} (h : Rs w b A c l i e f) (o : Obj) : Rs (w.alloc o) b A c l i e f := h.below ((Below.refl _ _).alloc (Nat.le_refl _) o)
theorem Rs.drewN {w : World} {b : Nat} {A : Option Addr} {c : Nat} {l : List Tr} {i e : Int} {f : Option Int} (h : Rs w b A c l i e f) (m : Nat) : Rs (w.drewN m) b A c l i e f := h.below (bdrewN (Below.refl _ _) m)
theorem Rs.dr {w w' : World} {b : Nat} {A : Option Addr} {c : Nat} {l : List Tr} {i e : Int} {f : Option Int} (h : Rs w b A c l i e f) (hd : Dr w w') : Rs w' b A c l i e f := h.below hd.below
theorem Mv.dr {b : Nat} {w w' w2 : World} (h : Mv b w w') (hbw : b < w.heap.size) (hd : Dr w' w2) : Mv b w w2 := h.onBelow hbw hd.below h.size
set_option maxHeartbeats 800000 in
theorem kind_any {w : World} {b : Nat} {A : Option Addr} {c : Nat} {l : List Tr} {i e : Int} {f : Option Int} (h : Rs w b A c l i e f) :
    Calls Try.prog 84 #[.pointer (some ⟨b, 0, none⟩)] w fun e' w' => e' = .returned (.int .u8 ((kindOf (rest l i) f : Nat) : Int)) ∧ Dr w w' := by
  obtain ⟨c0, c1, c2, c3, c4⟩ := rd_cells h.at_
  have HE := Lib.hid (fun q => ended_any b A l.length c i e (fc f) (fa f) (w.drewN q) (h.at_.drewN q))
  have HE0 := Lib.hid (ended_any b A l.length c i e (fc f) (fa f) w h.at_)
  cases f with
  | some p =>
    have hx : kindOf (rest l i) (some p) = 0 := by cases rest l i <;> rfl
    rw [hx]
    clear h hx HE HE0
    simp only [fc, Option.isSome_some, if_true] at c3
    go_enter Try.func84, Try.ntmps84
    go_wp2_with fail
    go_ret
    exact ⟨rfl, Dr.refl _⟩
  | none =>
    simp only [fc, Option.isSome_none, Bool.false_eq_true, if_false] at c3
    by_cases hend : i < 0 ∨ (l.length : Int) ≤ i
    · rw [decide_eq_true hend] at HE0 HE
      rw [rest_nil.2 hend]
      show Calls _ _ _ _ fun e' w' => e' = .returned (.int .u8 ((0 : Nat) : Int)) ∧ _
      clear h hend
      generalize l.length = n at *
      go_enter Try.func84, Try.ntmps84
      go_wp2_with fail
      refine HE0.out.mono ?_
      rintro e' w' ⟨rfl, hd⟩
      have HD := Lib.hid hd; clear hd
      go_wp2
      go_ret
      exact ⟨rfl, HD.out⟩
    · rw [decide_eq_false hend] at HE0 HE
      obtain ⟨j, rfl⟩ : ∃ j : Nat, i = j := Int.eq_ofNat_of_zero_le (by omega)
      have hj : j < l.length := by omega
      rw [rest_cons (by omega) (by omega), Int.toNat_natCast]
      show Calls _ _ _ _ fun e' w' => e' = .returned (.int .u8 (((l.getD j r0).t.k : Nat) : Int)) ∧ _
      obtain ⟨bb, o, rfl, hbl, hc⟩ := h.trs.at hj
      obtain ⟨k0, k1, k2, k3, k4⟩ := hc j hj
      have hbw := h.lt
      clear h hend hc
      generalize (l.getD j r0).t.k = q at *
      clear k1 k2 k3 k4
      generalize l.length = n at *
      go_enter Try.func84, Try.ntmps84
      go_wp2_with fail
      refine HE0.out.mono ?_
      rintro e' w' ⟨rfl, m, rfl⟩
      go_wp2_with fail
      go_quiet (fail)
      go_wp2
      go_ret
      exact ⟨rfl, ((Dr.refl _).more _).more _⟩
set_option maxHeartbeats 800000 in
theorem offset_any {w : World} {b : Nat} {A : Option Addr} {c : Nat} {l : List Tr} {i e : Int} {f : Option Int} (h : Rs w b A c l i e f) :
    Calls Try.prog 83 #[.pointer (some ⟨b, 0, none⟩)] w fun e' w' => e' = .returned (.int .i64 (offOf (rest l i) e)) ∧ Dr w w' := by
  obtain ⟨c0, c1, c2, c3, c4⟩ := rd_cells h.at_
  have HE0 := Lib.hid (ended_any b A l.length c i e (fc f) (fa f) w h.at_)
  by_cases hend : i < 0 ∨ (l.length : Int) ≤ i
  · rw [decide_eq_true hend] at HE0
    rw [rest_nil.2 hend]
    show Calls _ _ _ _ fun e' w' => e' = .returned (.int .i64 e) ∧ _
    clear h hend
    generalize l.length = n at *
    go_enter Try.func83, Try.ntmps83
    go_wp2_with fail
    refine HE0.out.mono ?_
    rintro e' w' ⟨rfl, m, rfl⟩
    go_wp2
    go_ret
    exact ⟨rfl, (Dr.refl _).more _⟩
  · rw [decide_eq_false hend] at HE0
    obtain ⟨j, rfl⟩ : ∃ j : Nat, i = j := Int.eq_ofNat_of_zero_le (by omega)
    have hj : j < l.length := by omega
    rw [rest_cons (by omega) (by omega), Int.toNat_natCast]
    show Calls _ _ _ _ fun e' w' => e' = .returned (.int .i64 (l.getD j r0).t.p) ∧ _
    obtain ⟨bb, o, rfl, hbl, hc⟩ := h.trs.at hj
    obtain ⟨k0, k1, k2, k3, k4⟩ := hc j hj
    have hbw := h.lt
    clear h hend hc
    generalize (l.getD j r0).t.p = q at *
    clear k0 k1 k3 k4
    generalize l.length = n at *
    go_enter Try.func83, Try.ntmps83
    go_wp2_with fail
    refine HE0.out.mono ?_
    rintro e' w' ⟨rfl, m, rfl⟩
    go_wp2_with fail
    go_quiet (fail)
    go_wp2
    go_ret
    exact ⟨rfl, ((Dr.refl _).more _).more _⟩
end Go.Proofs.Ytapnefhmonpgdaa
