/-
  Slices of elements in memory. Conditions: eight words below 2^64 each.
-/
import Derived.Test.YtpgkcddhpeoiiaaDoorShapeKit
namespace Go.Proofs.YtpgkcddhpeoiiaaDoor
open Go.RowKit RM

def escells (es : List (List Nat)) : List Value := es.flatMap ucells
theorem uv_list (e : List Nat) : (ucells e).toArray = uv e := rfl
theorem escells_at : ∀ (es : List (List Nat)), (∀ e ∈ es, EW e) → ∀ (i j : Nat), i < es.length → j < 8 → (escells es)[i * 8 + j]? = (ucells (es.getD i []))[j]?
  | [], _, i, j, hi, _ => by simp at hi
  | e :: es, h, 0, j, _, hj => by
    have h1 : (ucells e).length = 8 := by rw [ucells_length]; exact (h e (by simp)).1
    unfold escells
    rw [List.flatMap_cons, List.getElem?_append_left (by rw [h1]; omega)]
    simp
  | e :: es, h, i + 1, j, hi, hj => by
    have h1 : (ucells e).length = 8 := by rw [ucells_length]; exact (h e (by simp)).1
    have ih := escells_at es (fun f hf => h f (by simp [hf])) i j (by simpa using hi) hj
    unfold escells at ih ⊢
    rw [List.flatMap_cons, List.getElem?_append_right (by rw [h1]; omega), h1, show (i + 1) * 8 + j - 8 = i * 8 + j by omega]
    exact ih
theorem eget_mem {es : List (List Nat)} {i : Nat} (hi : i < es.length) : es.getD i [] ∈ es := by
  rw [List.getD_eq_getElem?_getD, List.getElem?_eq_getElem hi]
  exact List.getElem_mem hi
theorem els_at {w : World} {B : Nat} {A : Option Addr} {es : List (List Nat)} (h : Sl w B A (escells es)) (hE : ∀ e ∈ es, EW e) {k : Nat} (hk : k < es.length) :
    ∃ b o, A = some ⟨b, o, none⟩ ∧ ∀ i, i < es.length → w.rangeAt b (o + i * 8) (ucells (es.getD i [])) := by
  have h0 := escells_at es hE k 0 hk (by omega)
  have hl : (ucells (es.getD k [])).length = 8 := by rw [ucells_length]; exact (hE _ (eget_mem hk)).1
  have h1 : (ucells (es.getD k []))[0]? ≠ none := by
    rw [List.getElem?_eq_getElem (show 0 < (ucells (es.getD k [])).length by rw [hl]; omega)]
    simp
  obtain ⟨b, o, hA, _, hc⟩ := h (fun e => by
    rw [e] at h0
    exact h1 (h0.symm.trans (by simp)))
  refine ⟨b, o, hA, fun i hi j u hu => ?_⟩
  have hj : j < 8 := by
    have := (List.getElem?_eq_some_iff.1 hu).1
    rw [ucells_length, (hE _ (eget_mem hi)).1] at this
    exact this
  rw [Nat.add_assoc]
  exact hc _ _ ((escells_at es hE i j hi hj).trans hu)
theorem els_rng {w : World} {B b o : Nat} {es : List (List Nat)} (h : Sl w B (some ⟨b, o, none⟩) (escells es)) (hE : ∀ e ∈ es, EW e) {k : Nat} (hk : k < es.length) : w.rangeAt b (o + k * 8) (ucells (es.getD k [])) := by
  obtain ⟨b2, o2, e, hr⟩ := els_at h hE hk
  injection e with e
  injection e with e1 e2
  subst e1 e2
  exact hr k hk
section
variable {ops : Array Oper} {rest : List Oper} {o : Oper} {a : Act} {w : World} {Q : Exit → Act → World → Prop} {S : World → Prop}
theorem einfo2 {e : List Nat} (h : EW e) : (Tryd.prog.info? 40).map (·.size) = some (ucells e).length := by rw [ucells_length, h.1]; kernel_rfl
theorem take_loadElemIn (x : Operand) (ho : o.op = .load 40 x) (b k : Nat) (hx : a.eval x = .pointer (some ⟨b, k, none⟩)) (e : List Nat) (hl : EW e) (hS : ∀ w, S w → w.rangeAt b k (ucells e)) :
    ∀ w, S w → (execOp a.eval o).run Tryd.prog w = .ok (.value (.agg (uv e))) w := by
  intro w h
  unfold execOp
  simp only [ho, hx, Sem.run_bind, Sem.run_pure, Result.andThen_ok, run_loadAt_mid w b k _ _ _ (hS w h) Tryd.underlying40 rfl (einfo2 hl)]
  rfl
theorem wpList_loadElemIn (hgd : Region.wanted o (yielded ops a.tmps) = true) (x : Operand) (ho : o.op = .load 40 x) (b k : Nat) (hx : a.eval x = .pointer (some ⟨b, k, none⟩))
    (e : List Nat) (hl : EW e) (hg : w.rangeAt b k (ucells e)) (h : wpList Tryd.prog ops Q rest (a.put o.dst (.agg (uv e))) w) : wpList Tryd.prog ops Q (o :: rest) a w :=
  wpList_wanted hgd fun _ hK => wp_load_mid _ x ho b k hx (ucells e) _ hg Tryd.underlying40 rfl (einfo2 hl) (hK _ _ h)
end
end Go.Proofs.YtpgkcddhpeoiiaaDoor
