/-
  Text of nodes, in plain words; a Builder of the call's own in other calls' hands. Conditions: none.
-/
import Derived.Test.YtapnefhmonpgdaaTermM
import Derived.Test.YtapnefhmonpgdaaStrB
import Derived.Lib.BufferKept
namespace Go.Proofs.Ytapnefhmonpgdaa
namespace TM
open LX TR
/-- What is joined behind the first: each with a comma ahead. -/
def jt : List (List UInt8) → List UInt8
  | [] => []
  | x :: r => 44 :: (x ++ jt r)
def jc : List (List UInt8) → List UInt8
  | [] => []
  | x :: r => x ++ jt r
theorem jt_append (a b : List (List UInt8)) : jt (a ++ b) = jt a ++ jt b := by
  induction a with
  | nil => rfl
  | cons x a ih => simp [jt, ih]
theorem jc_take {l : List (List UInt8)} {i : Nat} (h : i < l.length) : jc (l.take (i + 1)) = jc (l.take i) ++ (if 0 < i then 44 :: l.getD i [] else l.getD i []) := by
  cases l with
  | nil => simp at h
  | cons x r =>
    cases i with
    | zero => simp [jc, jt]
    | succ i =>
      have hi : i < r.length := by simpa using h
      rw [if_pos (Nat.succ_pos i), List.take_succ_cons, List.take_succ_cons, jc, jc]
      have h2 : r.take (i + 1) = r.take i ++ [r.getD i []] := by
        rw [List.getD_eq_getElem?_getD, List.getElem?_eq_getElem hi, Option.getD_some]
        exact List.take_succ_eq_append_getElem hi
      rw [h2, jt_append]
      simp [jt]
theorem jc_le (l : List (List UInt8)) (i : Nat) : (jc (l.take i)).length ≤ (jc l).length := by
  have ht : ∀ (r : List (List UInt8)) (i : Nat), (jt (r.take i)).length ≤ (jt r).length := fun r i => by
    have h := congrArg List.length (jt_append (r.take i) (r.drop i))
    rw [List.take_append_drop, List.length_append] at h
    omega
  cases l with
  | nil => simp [jc]
  | cons x r =>
    cases i with
    | zero => simp [jc]
    | succ i =>
      rw [List.take_succ_cons, jc, jc, List.length_append, List.length_append]
      have := ht r i
      omega
def tx1 (k : Int) (s : List UInt8) (ws ks : List (List UInt8)) : List UInt8 :=
  if k = 1 ∨ k = 2 then s
  else if k = 7 then 35 :: ks.headD []
  else if k = 11 then s ++ 61 :: ks.headD []
  else if k = 4 then 40 :: (jc ks ++ [41])
  else if k = 8 then 43 :: 40 :: (jc ks ++ [41])
  else if k = 9 then 38 :: 40 :: (jc ks ++ [41])
  else if k = 5 then 91 :: (jc ks ++ [93])
  else if k = 3 then 123 :: (jc ws ++ [125])
  else if k = 6 then s ++ 58 :: 123 :: (jc ws ++ [125])
  else if k = 10 then 91 :: (jc ks ++ (if ws = [] then [93] else 124 :: (jc ws ++ [93])))
  else []
def wtx (ws : List Wd) : List (List UInt8) := ws.map fun x => lst x.s
/-- The text of nodes. -/
def txs : List Nd → List (List UInt8)
  | [] => []
  | .mk k _ s _ _ ws _ _ ks :: r => tx1 k (lst s) (wtx ws) (txs ks) :: txs r
def tx (x : Nd) : List UInt8 := tx1 x.k (lst x.s) (wtx x.ws) (txs x.ks)
theorem txs_cons (x : Nd) (r : List Nd) : txs (x :: r) = tx x :: txs r := by cases x; rw [txs]; rfl
theorem txs_map (l : List Nd) : txs l = l.map tx := by
  induction l with
  | nil => simp [txs]
  | cons x r ih => rw [txs_cons, ih]; rfl
theorem txs_length (l : List Nd) : (txs l).length = l.length := by rw [txs_map, List.length_map]
/-- How many nodes and words there are. -/
def cnt : List Nd → Nat
  | [] => 0
  | .mk _ _ _ _ _ ws _ _ ks :: r => 1 + ws.length + cnt ks + cnt r
theorem cnt_cons (x : Nd) (r : List Nd) : cnt (x :: r) = 1 + x.ws.length + cnt x.ks + cnt r := by cases x; rw [cnt]; rfl
theorem cnt_append (a b : List Nd) : cnt (a ++ b) = cnt a + cnt b := by
  induction a with
  | nil => simp [cnt]
  | cons x a ih => rw [List.cons_append, cnt_cons, cnt_cons, ih]; omega
theorem cnt_mem {l : List Nd} {x : Nd} (h : x ∈ l) : 1 + x.ws.length + cnt x.ks ≤ cnt l := by
  induction l with
  | nil => cases h
  | cons y l ih =>
    rw [cnt_cons]
    rcases List.mem_cons.1 h with rfl | h
    · omega
    · have := ih h; omega
theorem length_cnt (l : List Nd) : l.length ≤ cnt l := by
  induction l with
  | nil => simp
  | cons x l ih => rw [cnt_cons, List.length_cons]; omega
theorem er1_k (x : Nd) : (er1 x).k = x.k ∧ (er1 x).p = x.p ∧ (er1 x).s = x.s ∧ (er1 x).ws = x.ws ∧ (er1 x).ks = TM.er x.ks := by cases x; exact ⟨rfl, rfl, rfl, rfl, rfl⟩
theorem txs_er : ∀ l, txs (TM.er l) = txs l := by
  refine ind (by simp [TM.er]) fun k p s A c ws B d ks r h1 h2 => ?_
  rw [TM.er_cons, txs_cons, txs_cons, h2]
  congr 1
  show tx1 k (lst s) (wtx ws) (txs (TM.er ks)) = tx1 k (lst s) (wtx ws) (txs ks)
  rw [h1]
theorem tx_er (x : Nd) : tx (er1 x) = tx x := by
  have h := txs_er [x]
  rw [er_one, txs_cons, txs_cons] at h
  exact (List.cons.inj h).1
theorem cnt_er : ∀ l, cnt (TM.er l) = cnt l := by
  refine ind (by simp [TM.er]) fun k p s A c ws B d ks r h1 h2 => ?_
  rw [TM.er_cons, cnt_cons, cnt_cons, h2]
  show 1 + ws.length + cnt (TM.er ks) + _ = _
  rw [h1]; rfl
end TM
open Go.RowKit LX TR TM
theorem bld_below {T e : TypeId} {B b : Nat} {bs : List Value} {w w' : World} (h : Lib.IsBuilder T e B b bs w) (hb : Below w.heap.size w w') : Lib.IsBuilder T e B b bs w' := by
  have go : ∀ p, Lib.BuilderAt T e B b p bs w → Lib.BuilderAt T e B b p bs w' := fun p h => by
    have hlt := h.lt
    obtain ⟨hB, v, hbk, hown, hne⟩ := h
    exact ⟨hB, v, (hb.block b hlt).trans hbk, own_below hown hb (Nat.le_refl _), hne⟩
  exact h.elim (fun h => .inl (go _ h)) fun h => .inr (go _ h)
theorem bld_lt {T e : TypeId} {B b : Nat} {bs : List Value} {w : World} (h : Lib.IsBuilder T e B b bs w) : b < w.heap.size := h.elim (fun h => h.lt) fun h => h.lt
theorem others_row {w w' : World} {e t : TypeId} {b g : Nat} {cs : Array Value} (h : Lib.OthersKept e (some b) w w') (hr : RowAt w g t cs) (hg : g ≠ b) (ht : t ≠ e) : RowAt w' g t cs :=
  h g _ hr (fun e => hg (by injection e)) fun c fz e => by
    injection e with _ e2 _
    exact ht e2
/-- A Builder of the call's own that holds this text. -/
abbrev Bld (w : World) (B b : Nat) (t : List UInt8) : Prop := Lib.IsBuilder 74 5 B b (Lib.byteCells t) w
/-- What a writing function does: it puts a text behind. -/
def Writes (F : FuncId) (v : Value) (t : List UInt8) (K : World → Nat → Prop) : Prop :=
  ∀ (w : World) (B b : Nat) (acc : List UInt8), Bld w B b acc → B ≤ w.heap.size → acc.length + t.length ≤ 140737488355328 → K w B →
    Calls Try.prog F #[.pointer (some ⟨b, 0, none⟩), v] w fun e w' => e = .returned (.tuple #[]) ∧ Bld w' B b (acc ++ t) ∧ Below B w w' ∧ Lib.OthersKept 5 (some b) w w'
theorem wstr_any {w : World} {B b : Nat} {acc : List UInt8} (s : ByteArray) (h : Bld w B b acc) (hB : B ≤ w.heap.size) (hl : acc.length + s.size ≤ 140737488355328) :
    Calls Try.prog 68 #[.pointer (some ⟨b, 0, none⟩), .string s] w fun e w' => e = .returned (.tuple #[.int .i64 s.size, .nilIface]) ∧ Bld w' B b (acc ++ lst s) ∧ Below B w w' ∧ Lib.OthersKept 5 (some b) w w' :=
  (writeString_any B b _ s w h (by rw [Lib.byteCells_length]; exact hl) hB).mono fun e w' ⟨h1, h2, h3, h4⟩ => ⟨h1, by show Lib.IsBuilder _ _ _ _ (Lib.byteCells (acc ++ lst s)) _; rw [← str_cells]; exact .inr h2, h3, h4⟩
theorem wbyte_any {w : World} {B b : Nat} {acc : List UInt8} (c : UInt8) (h : Bld w B b acc) (hB : B ≤ w.heap.size) (hl : acc.length + 1 ≤ 140737488355328) :
    Calls Try.prog 69 #[.pointer (some ⟨b, 0, none⟩), .int .u8 (c.toNat : Int)] w fun e w' => e = .returned .nilIface ∧ Bld w' B b (acc ++ [c]) ∧ Below B w w' ∧ Lib.OthersKept 5 (some b) w w' :=
  (writeByte_any B b _ _ w h (by rw [Lib.byteCells_length]; exact hl) hB).mono fun e w' ⟨h1, h2, h3, h4⟩ => ⟨h1, by show Lib.IsBuilder _ _ _ _ (Lib.byteCells (acc ++ [c])) _; rw [← byte_cells]; exact .inr h2, h3, h4⟩

set_option maxHeartbeats 800000 in
theorem writeName_any (x : Wd) (K : World → Nat → Prop) : Writes 73 (.agg (wv x)) (lst x.s) K := by
  intro w B b acc h hB hl _
  have hb := bld_lt h
  have HB1 := Lib.hid (bld_below h ((Below.refl _ _).alloc (Nat.le_refl _) (.cells (wv x) 69)))
  have HL : Hid (acc.length + x.s.size ≤ 140737488355328) := by rw [← lst_length]; exact Lib.hid hl
  have hn := RowAt.new w 69 #[.string x.s, .int .i64 x.p]
  obtain ⟨m0, m1, _, _⟩ := row2 hn
  clear h hn
  unfold wv at HB1 ⊢
  go_enter Try.func73, Try.ntmps73
  go_wp2_with fail
  refine (wstr_any x.s HB1.out (by simp; omega) HL.out).mono ?_
  rintro e w1 ⟨rfl, h1, h2, h3⟩
  have H1 := Lib.hid h1
  have H2 : Hid (Below B w w1) := ((Below.refl B w).alloc hB _).trans h2
  have H3 : Hid (Lib.OthersKept 5 (some b) w w1) := ((Lib.OthersKept.refl _ _ w).alloc _).trans h3
  clear h1 h2 h3
  go_wp2_with fail
  go_end0
  exact ⟨rfl, H1.out, H2.out, H3.out⟩
end Go.Proofs.Ytapnefhmonpgdaa
