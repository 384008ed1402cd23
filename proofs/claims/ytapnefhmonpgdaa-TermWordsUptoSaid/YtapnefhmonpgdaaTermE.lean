/-
  The program's reader: lists that may be empty, sets, names in braces. Conditions: lists of trees of at most 2^41.
-/
import Derived.Test.YtapnefhmonpgdaaTermD
namespace Go.Proofs.Ytapnefhmonpgdaa
open Go.RowKit LX TR TM

theorem SlC.weak {w : World} {ok ok' : Nat → Prop} {A : Option Addr} {cs : List Value} (h : SlC w ok A cs) (hok : ∀ b, b < w.heap.size → ok b → ok' b) : SlC w ok' A cs := h.keep (Nat.le_refl _) (fun _ _ _ => rfl) hok
theorem DeepN.weak {w : World} {ok ok' : Nat → Prop} {l : List Nd} (h : DeepN w ok l) (hok : ∀ b, b < w.heap.size → ok b → ok' b) : DeepN w ok' l := h.keep (Nat.le_refl _) (fun _ _ _ => rfl) hok
theorem WordsV.mono {w : World} {s s' : Nat} {x : List Wd} {v : Value} (h : WordsV w s x v) (hs : s' ≤ s) : WordsV w s' x v := by
  obtain ⟨A, c, h1, h2, h3⟩ := h
  exact ⟨A, c, h1, h2, h3.weak fun _ _ h => Nat.le_trans hs h⟩
theorem NodesV.mono {w : World} {s s' : Nat} {x : List Nd} {v : Value} (h : NodesV w s x v) (hs : s' ≤ s) : NodesV w s' x v := by
  obtain ⟨A, c, zs, h1, h2, h3, h4, h5⟩ := h
  exact ⟨A, c, zs, h1, h2, h3, h4.weak fun _ _ h => Nat.le_trans hs h, h5.weak fun _ _ h => Nat.le_trans hs h⟩
theorem NodeV.mono {w : World} {s s' : Nat} {x : Nd} {v : Value} (h : NodeV w s x v) (hs : s' ≤ s) : NodeV w s' x v := by
  obtain ⟨z, h1, h2, h3⟩ := h
  exact ⟨z, h1, h2, h3.weak fun _ _ h => Nat.le_trans hs h⟩
theorem opt_none {α : Type} {rd : Rdr α} {l : List Tr} {i e : Int} {f : Option Int} (h : rest l i = [] ∨ kindOf (rest l i) f = 124) : Step (optR rd) l i e f [] i f := by
  cases f with
  | some p => exact Step.bad (Adv.refl _ _)
  | none =>
    refine Step.ok (Adv.refl _ _) ?_
    cases hr : rest l i with
    | nil => rfl
    | cons x r =>
      rw [hr] at h
      have hx : x.t.k = 124 := by
        rcases h with h | h
        · cases h
        · exact h
      simp only [optR]
      rw [if_pos hx]
theorem opt_some {α : Type} {rd : Rdr α} {l : List Tr} {i e : Int} {f : Option Int} {x : List α} {i2 : Int} {f2 : Option Int} (h1 : rest l i ≠ []) (h2 : kindOf (rest l i) f ≠ 124) (h : Step (someR rd) l i e f x i2 f2) : Step (optR rd) l i e f x i2 f2 := by
  cases f with
  | some p =>
    obtain rfl := h.2.1 p rfl
    exact Step.bad h.1
  | none =>
    refine h.of_eq ?_
    cases hr : rest l i with
    | nil => exact absurd hr h1
    | cons y r =>
      rw [hr] at h2
      have hx : ¬ y.t.k = 124 := h2
      simp only [optR]
      rw [if_neg hx]

set_option maxRecDepth 100000 in
set_option maxHeartbeats 1600000 in
theorem optW_any {rd : Rdr Wd} {F : FuncId} {N : Nat} (hf : ∀ args w, (callFunc F args).run Try.prog w = .ok (.enter F args) w) (HF : Reads F WordV rd N)
    {w : World} {b : Nat} {A : Option Addr} {c : Nat} {l : List Tr} {i e : Int} {f : Option Int} (h : Rs w b A c l i e f) (hN : (nodes (rest l i)).length ≤ N) (hbig : True) :
    Calls Try.prog 108 #[.pointer (some ⟨b, 0, none⟩), .func (.func F) #[] #[]] w fun e' w' => ∃ v x i2 f2, e' = .returned v ∧ WordsV w' w.heap.size x v ∧ Rs w' b A c l i2 e f2 ∧ Mv b w w' ∧ Step (optR rd) l i e f x i2 f2 := by
  have hbw := h.lt
  have HE := Lib.hid (ended_rs h)
  have HRS := Lib.hid h; clear h
  by_cases hend : rest l i = []
  · rw [decide_eq_true hend] at HE
    have HST : Hid (Step (optR rd) l i e f [] i f) := opt_none (.inl hend)
    clear hend
    go_enter Try.func108, Try.ntmps108
    go_wp2_with fail
    refine HE.out.mono ?_
    rintro e' w1 ⟨rfl, hd⟩
    have HS1 := Lib.hid (HRS.out.dr hd)
    have HM1 := Lib.hid ((Mv.refl b w).dr hbw hd)
    clear hd
    go_wp2_with fail
    go_ret
    exact ⟨_, [], i, f, rfl, ⟨none, 0, rfl, Nat.le_refl _, SlC.nil _ _ _⟩, HS1.out, HM1.out, HST.out⟩
  · rw [decide_eq_false hend] at HE
    by_cases hk : kindOf (rest l i) f = 124
    · have HST : Hid (Step (optR rd) l i e f [] i f) := opt_none (.inr hk)
      go_enter Try.func108, Try.ntmps108
      go_wp2_with fail
      refine HE.out.mono ?_
      rintro e' w1 ⟨rfl, hd⟩
      have hs1 := HRS.out.dr hd
      have HK1 := Lib.hid (kind_any hs1)
      rw [hk] at HK1
      have HM1 := Lib.hid ((Mv.refl b w).dr hbw hd)
      have HS1 := Lib.hid hs1
      clear hd hs1 hk hend
      go_wp2_with fail
      refine HK1.out.mono ?_
      rintro e' w2 ⟨rfl, hd⟩
      have HM2 := Lib.hid (HM1.out.dr hbw hd)
      have HS2 := Lib.hid (HS1.out.dr hd)
      clear hd
      go_wp2_with fail
      go_ret
      exact ⟨_, [], i, f, rfl, ⟨none, 0, rfl, Nat.le_refl _, SlC.nil _ _ _⟩, HS2.out, HM2.out, HST.out⟩
    · have hne : ((kindOf (rest l i) f : Int) == 124) = false := by rw [beq_eq_false_iff_ne]; omega
      have HST : Hid (∀ x i2 f2, Step (someR rd) l i e f x i2 f2 → Step (optR rd) l i e f x i2 f2) := fun x i2 f2 h => opt_some hend hk h
      go_enter Try.func108, Try.ntmps108
      go_wp2_with fail
      refine HE.out.mono ?_
      rintro e' w1 ⟨rfl, hd⟩
      have HS1 := Lib.hid (HRS.out.dr hd)
      have HK1 := Lib.hid (kind_any HS1.out)
      have HM1 := Lib.hid ((Mv.refl b w).dr hbw hd)
      clear hd hk hend
      generalize kindOf (rest l i) f = q at *
      go_wp2_with fail
      refine HK1.out.mono ?_
      rintro e' w2 ⟨rfl, hd⟩
      have HM2 := Lib.hid (HM1.out.dr hbw hd)
      have HC2 := Lib.hid (listW_any hf HF (HS1.out.dr hd) hN hbig)
      have HZ2 := Lib.hid HM2.out.size
      clear hd
      go_wp2_with fail
      refine HC2.out.mono ?_
      rintro e' w3 ⟨v, x, i2, f2, rfl, hv, hs3, hm3, hst⟩
      have HV3 := Lib.hid (WordsV.mono hv HZ2.out)
      have HS3 := Lib.hid hs3
      have HM3 := Lib.hid (HM2.out.trans hm3)
      have HST3 := Lib.hid (HST.out _ _ _ hst)
      clear hv hs3 hm3 hst
      go_wp2_with fail
      go_ret
      exact ⟨v, x, i2, f2, rfl, HV3.out, HS3.out, HM3.out, HST3.out⟩

set_option maxRecDepth 100000 in
set_option maxHeartbeats 1600000 in
theorem optN_any {rd : Rdr Nd} {F : FuncId} {N : Nat} (hf : ∀ args w, (callFunc F args).run Try.prog w = .ok (.enter F args) w) (HF : Reads F NodeV rd N)
    {w : World} {b : Nat} {A : Option Addr} {c : Nat} {l : List Tr} {i e : Int} {f : Option Int} (h : Rs w b A c l i e f) (hN : (nodes (rest l i)).length ≤ N) (hbig : l.length ≤ 4294967296) :
    Calls Try.prog 89 #[.pointer (some ⟨b, 0, none⟩), .func (.func F) #[] #[]] w fun e' w' => ∃ v x i2 f2, e' = .returned v ∧ NodesV w' w.heap.size x v ∧ Rs w' b A c l i2 e f2 ∧ Mv b w w' ∧ Step (optR rd) l i e f x i2 f2 := by
  have hbw := h.lt
  have HE := Lib.hid (ended_rs h)
  have HRS := Lib.hid h; clear h
  by_cases hend : rest l i = []
  · rw [decide_eq_true hend] at HE
    have HST : Hid (Step (optR rd) l i e f [] i f) := opt_none (.inl hend)
    clear hend
    go_enter Try.func89, Try.ntmps89
    go_wp2_with fail
    refine HE.out.mono ?_
    rintro e' w1 ⟨rfl, hd⟩
    have HS1 := Lib.hid (HRS.out.dr hd)
    have HM1 := Lib.hid ((Mv.refl b w).dr hbw hd)
    clear hd
    go_wp2_with fail
    go_ret
    exact ⟨_, [], i, f, rfl, ⟨none, 0, [], rfl, Nat.le_refl _, by simp [TM.er], SlC.nil _ _ _, DeepN.nil _ _⟩, HS1.out, HM1.out, HST.out⟩
  · rw [decide_eq_false hend] at HE
    by_cases hk : kindOf (rest l i) f = 124
    · have HST : Hid (Step (optR rd) l i e f [] i f) := opt_none (.inr hk)
      go_enter Try.func89, Try.ntmps89
      go_wp2_with fail
      refine HE.out.mono ?_
      rintro e' w1 ⟨rfl, hd⟩
      have hs1 := HRS.out.dr hd
      have HK1 := Lib.hid (kind_any hs1)
      rw [hk] at HK1
      have HM1 := Lib.hid ((Mv.refl b w).dr hbw hd)
      have HS1 := Lib.hid hs1
      clear hd hs1 hk hend
      go_wp2_with fail
      refine HK1.out.mono ?_
      rintro e' w2 ⟨rfl, hd⟩
      have HM2 := Lib.hid (HM1.out.dr hbw hd)
      have HS2 := Lib.hid (HS1.out.dr hd)
      clear hd
      go_wp2_with fail
      go_ret
      exact ⟨_, [], i, f, rfl, ⟨none, 0, [], rfl, Nat.le_refl _, by simp [TM.er], SlC.nil _ _ _, DeepN.nil _ _⟩, HS2.out, HM2.out, HST.out⟩
    · have hne : ((kindOf (rest l i) f : Int) == 124) = false := by rw [beq_eq_false_iff_ne]; omega
      have HST : Hid (∀ x i2 f2, Step (someR rd) l i e f x i2 f2 → Step (optR rd) l i e f x i2 f2) := fun x i2 f2 h => opt_some hend hk h
      go_enter Try.func89, Try.ntmps89
      go_wp2_with fail
      refine HE.out.mono ?_
      rintro e' w1 ⟨rfl, hd⟩
      have HS1 := Lib.hid (HRS.out.dr hd)
      have HK1 := Lib.hid (kind_any HS1.out)
      have HM1 := Lib.hid ((Mv.refl b w).dr hbw hd)
      clear hd hk hend
      generalize kindOf (rest l i) f = q at *
      go_wp2_with fail
      refine HK1.out.mono ?_
      rintro e' w2 ⟨rfl, hd⟩
      have HM2 := Lib.hid (HM1.out.dr hbw hd)
      have HC2 := Lib.hid (listN_any hf HF (HS1.out.dr hd) hN hbig)
      have HZ2 := Lib.hid HM2.out.size
      clear hd
      go_wp2_with fail
      refine HC2.out.mono ?_
      rintro e' w3 ⟨v, x, i2, f2, rfl, hv, hs3, hm3, hst⟩
      have HV3 := Lib.hid (NodesV.mono hv HZ2.out)
      have HS3 := Lib.hid hs3
      have HM3 := Lib.hid (HM2.out.trans hm3)
      have HST3 := Lib.hid (HST.out _ _ _ hst)
      clear hv hs3 hm3 hst
      go_wp2_with fail
      go_ret
      exact ⟨v, x, i2, f2, rfl, HV3.out, HS3.out, HM3.out, HST3.out⟩
end Go.Proofs.Ytapnefhmonpgdaa
