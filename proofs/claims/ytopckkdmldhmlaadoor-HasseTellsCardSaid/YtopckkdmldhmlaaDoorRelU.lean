/-
  RelateOf holds. Conditions: the pairs in memory; the table of math/bits in memory.
-/
import Derived.Test.YtopckkdmldhmlaaDoorRelT
import Derived.Test.YtopckkdmldhmlaaDoorOrdT
namespace Go.Proofs.YtopckkdmldhmlaaDoor
open Go.RowKit RM

/-- Pairs appended to a row of the call's own, as one operation. -/
theorem app_pairs0 {w : World} {o : Oper} {a : Act} {K : Act → World → Prop} {Q : Exit → Act → World → Prop} (s x : Operand) (ho : o.op = .call { callee := .builtin .append, args := #[s, x], argTypes := #[68, 68] })
    (base : Nat) (v : Value) (xs ys : List (Int × Int)) (hs : a.eval s = v) (hown : w.ownsRow base 27 2 v xs.length (pcells xs)) (A : Option Addr) (c : Nat) (hx : a.eval x = .slice A ys.length c) (hnil : A = none → ys = [] ∧ c = 0)
    (hA : Prs w A ys) (hb1 : xs.length ≤ 65536) (hb2 : ys.length ≤ 65536) (hbase : base ≤ w.heap.size)
    (h : ∀ v' w', w'.ownsRow base 27 2 v' (xs.length + ys.length) (pcells (xs ++ ys)) → w.grownBy w' v.ownBlock → K (a.put o.dst v') w') : o.wp Tryd.prog a w K Q := by
  obtain ⟨i, hi, hz, hi1, hi2⟩ := info_parts infoPair
  cases A with
  | none =>
    obtain ⟨rfl, rfl⟩ := hnil rfl
    have hrun := run_append_owned_none (P := Tryd.prog) (w := w) base 68 o.type 27 i 2 Tryd.underlying68 hi v xs.length (pcells xs) hown
    unfold Oper.wp
    simp [execOp, ho, resolve, invoke, builtin, hs, hx, hrun, Result.andThen]
    exact h v w (by simpa using hown) ⟨rfl, rfl, rfl, Nat.le_refl _, fun _ _ _ => rfl⟩
  | some ad =>
    refine wp_append_own w s x _ ho base 27 i _ 2 16 Tryd.underlying68 hi hz hi1 hi2 rfl (by decide) v xs.length (pcells xs) hs hown ad ys.length c (pcells ys) hx (by rw [pcells_length]; omega) ?_ ?_ (by simp only [maxLen]; omega) (by omega) hbase ?_
    · intro j u hu
      have hne : pcells ys ≠ [] := by intro e; rw [e] at hu; simp at hu
      obtain ⟨b, off, e, _, hc⟩ := hA hne
      injection e with e
      subst e
      rw [Addr.add_lit]
      exact hc j u hu
    · intro u hu
      have : ∀ (l : List (Int × Int)), ∀ u ∈ pcells l, u.oneCell' = true := by
        intro l
        induction l with
        | nil => intro u hu; cases hu
        | cons q l ih =>
          intro u hu
          simp only [pcells, List.mem_cons] at hu
          rcases hu with rfl | rfl | hu
          · rfl
          · rfl
          · exact ih u hu
      exact this ys u hu
    · intro v' w' h2 h3 _
      rw [← pcells_append] at h2
      exact h v' w' h2 h3
theorem app_pairs {w : World} {o : Oper} {a : Act} {K : Act → World → Prop} {Q : Exit → Act → World → Prop} (s x : Operand) (ho : o.op = .call { callee := .builtin .append, args := #[s, x], argTypes := #[68, 68] })
    (base : Nat) (v : Value) (xs ys : List (Int × Int)) (n m : Nat) (hn : xs.length = n) (hm : ys.length = m) (hs : a.eval s = v) (hown : w.ownsRow base 27 2 v n (pcells xs)) (A : Option Addr) (c : Nat) (hx : a.eval x = .slice A m c) (hnil : A = none → ys = [] ∧ c = 0)
    (hA : Prs w A ys) (hb1 : n ≤ 65536) (hb2 : m ≤ 65536) (hbase : base ≤ w.heap.size)
    (h : ∀ v' w', w'.ownsRow base 27 2 v' (n + m) (pcells (xs ++ ys)) → w.grownBy w' v.ownBlock → K (a.put o.dst v') w') : o.wp Tryd.prog a w K Q := by
  subst hn; subst hm
  exact app_pairs0 s x ho base v xs ys hs hown A c hx hnil hA hb1 hb2 hbase h
theorem PairAt.grown {w w' : World} {g : Nat} {lo hi : Int} {row : Option Nat} (h : PairAt w g lo hi) (hb : w.grownBy w' row) (hg : row ≠ some g) : PairAt w' g lo hi := (hb.block g h.lt (fun e => hg e.symm)).trans h
theorem PairAt.prs {w : World} {g : Nat} {lo hi : Int} (h : PairAt w g lo hi) : Prs w (some ⟨g, 0, none⟩) [(lo, hi)] := fun _ =>
  ⟨g, 0, rfl, h.lt, fun j u hu => by
    rw [Nat.zero_add, cell_of_row _ g j _ 27 (0, 0) h]
    simpa [pcells] using hu⟩
theorem grown_below {w w' : World} {row : Option Nat} {B : Nat} (h : w.grownBy w' row) (hr : ∀ k, row = some k → B ≤ k) (hB : B ≤ w.heap.size) : Below B w w' :=
  ⟨h.os, h.tape, h.output, h.size, fun k hk => h.block k (by omega) (fun e => by have := hr k e.symm; omega)⟩
theorem own_ge {w : World} {base size n k : Nat} {e : TypeId} {v : Value} {cs : List Value} (h : w.ownsRow base e size v n cs) (hk : v.ownBlock = some k) : base ≤ k := by
  rcases h.2 with ⟨rfl, _⟩ | ⟨g, cap, cur, rfl, hg, _⟩
  · simp [Value.ownBlock] at hk
  · have : g = k := by simpa [Value.ownBlock] using hk
    omega
theorem pany_take {f : Int × Int → Bool} (xs : List (Int × Int)) (k : Nat) (h : k < xs.length) : (xs.take (k + 1)).any f = ((xs.take k).any f || f (xs.getD k (0, 0))) := by
  rw [List.take_succ_eq_append_getElem h, List.any_append, List.getD_eq_getElem?_getD, List.getElem?_eq_getElem h]; simp
theorem ex_gen2 (W : World) : ∃ S : World → Prop, Hid (S W.drew) ∧ (∀ w', S w' → Below W.heap.size W w') ∧ (∀ wa wb, S wa → Below wa.heap.size wa wb → S wb) ∧ Hid (∀ w', Below W.heap.size W w' → S w') :=
  ⟨fun w' => Below W.heap.size W w', (Below.refl _ _).drew, fun _ h => h, fun _ _ h hb => h.trans (hb.mono h.size), fun _ h => h⟩
section
variable {o : Oper} {a : Act} {S : World → Prop}
theorem take_neqSame (x y : Operand) (t : TypeId) (ho : o.op = .binOp .neq 25 x y t) (n : Int) (l : List Nat) (hx : a.eval x = .agg (rv n l)) (hy : a.eval y = .agg (rv n l)) (hl : RW l) :
    ∀ w, S w → (execOp a.eval o).run Tryd.prog w = .ok (.value (.bool false)) w := fun w h => by
  have := take_neqRel (S := S) x y t ho n n l l hx hy hl hl w h
  rw [eqRel_true rfl rfl] at this; exact this
theorem take_eqSame (x y : Operand) (t : TypeId) (ho : o.op = .binOp .eql 25 x y t) (n : Int) (l : List Nat) (hx : a.eval x = .agg (rv n l)) (hy : a.eval y = .agg (rv n l)) (hl : RW l) :
    ∀ w, S w → (execOp a.eval o).run Tryd.prog w = .ok (.value (.bool true)) w := fun w h => by
  have := take_eqRel (S := S) x y t ho n n l l hx hy hl hl w h
  rw [eqRel_true rfl rfl] at this; exact this
end
end Go.Proofs.YtopckkdmldhmlaaDoor
