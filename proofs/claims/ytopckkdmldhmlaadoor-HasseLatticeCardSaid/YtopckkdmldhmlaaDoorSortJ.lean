/-
  Sorting rows of words: what pdqsort's rounds keep, in plain Lean. Conditions: none.
-/
import Derived.Test.YtopckkdmldhmlaaDoorSortI
namespace Go.Proofs.YtopckkdmldhmlaaDoor
open Go.RowKit RM
open Go.Sort hiding Below ahead

/-- Ascending. -/
def SI (a b : Nat) (d : Array Nat) : Prop := ∀ i j, a ≤ i → i < j → j < b → d[i]! ≤ d[j]!
/-- What lies to the left is not greater. -/
def Bel (a b : Nat) (d : Array Nat) : Prop := 0 < a → ∀ i, a ≤ i → i < b → d[a - 1]! ≤ d[i]!
theorem si_iff {a b : Nat} {d : Array Nat} : SortedIn ltN a b d ↔ SI a b d :=
  ⟨fun h i j h1 h2 h3 => by have := h i j h1 h2 h3; simp [ltN] at this; exact this, fun h i j h1 h2 h3 => by have := h i j h1 h2 h3; simp [ltN]; exact this⟩
theorem bel_iff {a b : Nat} {d : Array Nat} : Go.Sort.Below ltN a b d ↔ Bel a b d := by
  constructor
  · intro h h0 i h1 h2
    rcases h with h | h
    · omega
    · have := h i h1 h2
      simp [ltN] at this
      exact this
  · intro h
    by_cases h0 : a = 0
    · exact .inl h0
    · exact .inr fun i h1 h2 => by have := h (by omega) i h1 h2; simp [ltN]; exact this
theorem lt_f {x y : Nat} : ltN x y = false ↔ y ≤ x := by simp [ltN]
theorem lt_t {x y : Nat} : ltN x y = true ↔ x < y := by simp [ltN]
/-- A round's state: the part [a', b') of d' is still to sort; who sorts it sorts the whole. -/
structure Co (a b : Nat) (d : Array Nat) (a' b' : Nat) (d' : Array Nat) : Prop where
  ra : a ≤ a'
  rb : a' ≤ b'
  rc : b' ≤ b
  size : d'.size = d.size
  bel : Bel a' b' d'
  fin : ∀ f, PermIn a' b' d' f → SI a' b' f → PermIn a b d f ∧ SI a b f
section
variable {a b a' b' : Nat} {d d1 d2 : Array Nat}
theorem Co.refl (h : Bel a b d) (hab : a ≤ b) : Co a b d a b d := ⟨Nat.le_refl _, hab, Nat.le_refl _, rfl, h, fun _ h1 h2 => ⟨h1, h2⟩⟩
theorem bel_perm (h : Bel a b d) (hp : PermIn a b d d1) (hb : b ≤ d.size) : Bel a b d1 := by
  intro h0 i h1 h2
  rw [hp.2.1 (a - 1) (.inl (by omega))]
  exact permIn_all d d1 a b (fun x => d[a - 1]! ≤ x) hb hp (fun i h1 h2 => h h0 i h1 h2) i h1 h2
theorem Co.perm (h : Co a b d a' b' d1) (hp : PermIn a' b' d1 d2) (hb : b ≤ d.size) : Co a b d a' b' d2 := by
  have hb' : b' ≤ d1.size := by rw [h.size]; exact Nat.le_trans h.rc hb
  exact ⟨h.ra, h.rb, h.rc, hp.1.trans h.size, bel_perm h.bel hp hb', fun f h1 h2 => h.fin f (permIn_trans _ _ _ _ _ hp h1) h2⟩
theorem Co.eq (h : Co a b d a' b' d1) (hb : b ≤ d.size) (p : Nat) (h1 : a' ≤ p) (h2 : p < b') (h0 : 0 < a') (hle : d1[p]! ≤ d1[a' - 1]!) :
    a' < (partitionEqual ltN d1 a' b' p).1 ∧ (partitionEqual ltN d1 a' b' p).1 ≤ b' ∧ Co a b d (partitionEqual ltN d1 a' b' p).1 b' (partitionEqual ltN d1 a' b' p).2 := by
  have hb' : b' ≤ d1.size := by rw [h.size]; exact Nat.le_trans h.rc hb
  have hall : ∀ i, a' ≤ i → i < b' → d1[p]! ≤ d1[i]! := fun i h3 h4 => Nat.le_trans hle (h.bel h0 i h3 h4)
  obtain ⟨q1, q2, q3, q4, q5⟩ := partitionEqual_holds ltN swo_ltN d1 a' b' p h1 h2 hb' (fun i h3 h4 => lt_f.2 (hall i h3 h4))
  generalize (partitionEqual ltN d1 a' b' p).1 = m at *
  generalize (partitionEqual ltN d1 a' b' p).2 = e at *
  have hge := permIn_all d1 e a' b' (fun x => d1[p]! ≤ x) hb' q3 hall
  have hes : e.size = d1.size := q3.1
  refine ⟨q1, q2, by have := h.ra; omega, q2, h.rc, hes.trans h.size, ?_, ?_⟩
  · intro _ i h3 h4
    have h5 := lt_f.1 (q4 (m - 1) (by omega) (by omega))
    have h6 := lt_t.1 (q5 i h3 h4)
    omega
  · intro f hf hs
    refine h.fin f (permIn_trans _ _ _ _ _ q3 (permIn_mono _ _ _ _ _ _ (Nat.le_of_lt q1) (Nat.le_refl _) (by omega) hf)) ?_
    have hgt := permIn_all e f m b' (fun x => d1[p]! < x) (by omega) hf (fun i h3 h4 => lt_t.1 (q5 i h3 h4))
    intro i j h3 h4 h5
    by_cases hjm : j < m
    · rw [hf.2.1 i (.inl (by omega)), hf.2.1 j (.inl hjm)]
      have h6 := lt_f.1 (q4 i h3 (by omega))
      have h7 := hge j (by omega) (by omega)
      omega
    · by_cases him : i < m
      · rw [hf.2.1 i (.inl him)]
        have h6 := lt_f.1 (q4 i h3 him)
        have h7 := hgt j (by omega) h5
        omega
      · exact hs i j (by omega) h4 h5
theorem Co.part (h : Co a b d a' b' d1) (hb : b ≤ d.size) (p : Nat) (h1 : a' ≤ p) (h2 : p < b') :
    a' ≤ (partition ltN d1 a' b' p).1 ∧ (partition ltN d1 a' b' p).1 < b' ∧ (partition ltN d1 a' b' p).2.2.size = d.size ∧
    Bel a' (partition ltN d1 a' b' p).1 (partition ltN d1 a' b' p).2.2 ∧
    (∀ d5, PermIn a' (partition ltN d1 a' b' p).1 (partition ltN d1 a' b' p).2.2 d5 → SI a' (partition ltN d1 a' b' p).1 d5 → Co a b d ((partition ltN d1 a' b' p).1 + 1) b' d5) ∧
    Bel ((partition ltN d1 a' b' p).1 + 1) b' (partition ltN d1 a' b' p).2.2 ∧
    (∀ d5, PermIn ((partition ltN d1 a' b' p).1 + 1) b' (partition ltN d1 a' b' p).2.2 d5 → SI ((partition ltN d1 a' b' p).1 + 1) b' d5 → Co a b d a' (partition ltN d1 a' b' p).1 d5) := by
  have hb' : b' ≤ d1.size := by rw [h.size]; exact Nat.le_trans h.rc hb
  obtain ⟨q1, q2, q3, q4, q5⟩ := partition_holds ltN swo_ltN d1 a' b' p h1 h2 hb'
  generalize (partition ltN d1 a' b' p).1 = m at *
  generalize (partition ltN d1 a' b' p).2.2 = e at *
  have hes : e.size = d1.size := q3.1
  have hbe : Bel a' b' e := bel_perm h.bel q3 hb'
  have q4' : ∀ i, a' ≤ i → i < m → e[i]! < e[m]! := fun i h3 h4 => lt_t.1 (q4 i h3 h4)
  have q5' : ∀ i, m + 1 ≤ i → i < b' → e[m]! ≤ e[i]! := fun i h3 h4 => lt_f.1 (q5 i h3 h4)
  have hra := h.ra
  have hrc := h.rc
  refine ⟨q1, q2, hes.trans h.size, fun h0 i h3 h4 => hbe h0 i h3 (by omega), ?_, fun _ i h3 h4 => ?_, ?_⟩
  · intro d5 hp hs
    have hl := permIn_all e d5 a' m (fun x => x < e[m]!) (by omega) hp q4'
    have h5s : d5.size = e.size := hp.1
    refine ⟨by omega, by omega, hrc, h5s.trans (hes.trans h.size), fun _ i h3 h4 => ?_, ?_⟩
    · rw [Nat.add_sub_cancel, hp.2.1 i (.inr (by omega)), hp.2.1 m (.inr (Nat.le_refl _))]
      exact q5' i h3 h4
    · intro f hf hs2
      have hr := permIn_all d5 f (m + 1) b' (fun x => e[m]! ≤ x) (by omega) hf (fun i h3 h4 => by rw [hp.2.1 i (.inr (by omega))]; exact q5' i h3 h4)
      have hfm : f[m]! = e[m]! := by rw [hf.2.1 m (.inl (by omega)), hp.2.1 m (.inr (Nat.le_refl _))]
      refine h.fin f (permIn_trans _ _ _ _ _ (permIn_trans _ _ _ _ _ q3 (permIn_mono _ _ _ _ _ _ (Nat.le_refl _) (Nat.le_of_lt q2) (by omega) hp)) (permIn_mono _ _ _ _ _ _ (by omega) (Nat.le_refl _) (by omega) hf)) ?_
      intro i j h3 h4 h5
      by_cases him : m < i
      · exact hs2 i j him h4 h5
      · by_cases hie : i = m
        · subst hie
          rw [hfm]
          exact hr j (by omega) h5
        · have hil : f[i]! < e[m]! := by rw [hf.2.1 i (.inl (by omega))]; exact hl i h3 (by omega)
          by_cases hjm : j < m
          · rw [hf.2.1 i (.inl (by omega)), hf.2.1 j (.inl (by omega))]
            exact hs i j h3 h4 hjm
          · by_cases hje : j = m
            · subst hje
              rw [hfm]; omega
            · have := hr j (by omega) h5
              omega
  · rw [Nat.add_sub_cancel]
    exact q5' i h3 h4
  · intro d5 hp hs
    have hr := permIn_all e d5 (m + 1) b' (fun x => e[m]! ≤ x) (by omega) hp q5'
    have h5s : d5.size = e.size := hp.1
    refine ⟨hra, q1, by omega, h5s.trans (hes.trans h.size), fun h0 i h3 h4 => ?_, ?_⟩
    · rw [hp.2.1 i (.inl (by omega)), hp.2.1 (a' - 1) (.inl (by omega))]
      exact hbe h0 i h3 (by omega)
    · intro f hf hs2
      have hl := permIn_all d5 f a' m (fun x => x < e[m]!) (by omega) hf (fun i h3 h4 => by rw [hp.2.1 i (.inl (by omega))]; exact q4' i h3 h4)
      have hfm : f[m]! = e[m]! := by rw [hf.2.1 m (.inr (Nat.le_refl _)), hp.2.1 m (.inl (by omega))]
      refine h.fin f (permIn_trans _ _ _ _ _ (permIn_trans _ _ _ _ _ q3 (permIn_mono _ _ _ _ _ _ (by omega) (Nat.le_refl _) (by omega) hp)) (permIn_mono _ _ _ _ _ _ (Nat.le_refl _) (Nat.le_of_lt q2) (by omega) hf)) ?_
      intro i j h3 h4 h5
      by_cases him : m < i
      · rw [hf.2.1 i (.inr (by omega)), hf.2.1 j (.inr (by omega))]
        exact hs i j him h4 h5
      · have hjr : m < j → e[m]! ≤ f[j]! := fun hmj => by rw [hf.2.1 j (.inr (by omega))]; exact hr j hmj h5
        by_cases hie : i = m
        · subst hie
          rw [hfm]
          exact hjr h4
        · have hil := hl i h3 (by omega)
          by_cases hjm : j < m
          · exact hs2 i j h3 h4 hjm
          · by_cases hje : j = m
            · subst hje
              rw [hfm]; omega
            · have := hjr (by omega)
              omega
end
end Go.Proofs.YtopckkdmldhmlaaDoor
