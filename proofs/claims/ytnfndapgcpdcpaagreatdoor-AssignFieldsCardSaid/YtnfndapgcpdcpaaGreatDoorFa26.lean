/- Texts that all the claims need. Conditions: those that each states. -/

import Derived.Test.YtnfndapgcpdcpaaGreatDoorFa24
set_option linter.unusedSimpArgs false
set_option linter.unusedVariables false
set_option maxRecDepth 100000
set_option maxHeartbeats 40000000
namespace Go.Proofs.YtnfndapgcpdcpaaGreatDoor
section
namespace SP
open TM
def ptK (f : Fac) (v : Nat) : Int := if f.kind = 4 then (((ptO f.n f.l v).getD 0 : Nat) : Int) else RG.lv f.names.length v
def rulTo (names : List ByteArray) (n : Int) (l : List Nat) (v i : Nat) : List Nd := ((List.range i).filter fun j : Nat => MM.hasN (gOwners n l v) (j : Int)).map fun j => nd 6 0 (names.getD j ⟨#[]⟩) (nmd names (gReaders n l v (j : Int))) []
def conN (f : Fac) (v : Nat) : Nd :=
 if f.kind = 2 then nd 3 0 ⟨#[]⟩ (nmd f.names v) []
 else if f.kind = 3 then nd 5 0 ⟨#[]⟩ [] (rulTo f.names f.n f.l v f.names.length)
 else nd 2 0 (f.names.getD (ptK f v).toNat ⟨#[]⟩) [] []
end SP
open Go.RowKit LX TR TM SP RM
end
section
open Go.RowKit
theorem wp_moreB {P : Program} {w : World} {o : Oper} {a : Act} {K : Act → World → Prop} {Q : Exit → Act → World → Prop} (s x : Operand) (t : TypeId)
 (ho : o.op = .call { callee := .builtin .append, args := #[s, x], argTypes := #[t, t] })
 (e : TypeId) (z : Value) (size bytes : Nat) (ht : P.underlying t = some (.slice e))
 (hinf : (P.info? e).map (fun i => (i.zero, i.size, i.bytes)) = some (some z, size, bytes)) (hzs : z.cells.size = size) (hsz : 0 < size)
 (base : Nat) (A : Option Addr) (n c : Nat) (cs : List Value) (hs : a.eval s = .slice A n c) (hown : w.ownsRow base e size (.slice A n c) n cs)
 (g : Nat) (news : List Value) (hx : a.eval x = .slice (some ⟨g, 0, none⟩) 1 1) (hl : news.length = size)
 (hnews : ∀ j u, news[j]? = some u → w.cell? ⟨g, j, none⟩ = some u) (h1 : ∀ u ∈ news, u.oneCell' = true)
 (hn : n + 1 ≤ maxLen) (hb2 : (n + 1) * bytes ≤ 140737488355328) (hbase : base ≤ w.heap.size)
 (h : ∀ A' c' w', w'.ownsRow base e size (.slice A' (n + 1) c') (n + 1) (cs ++ news) → Below base w w' → w.grownBy w' (Value.slice A n c).ownBlock → ((Value.slice A' (n + 1) c').ownBlock = (Value.slice A n c).ownBlock ∨ (Value.slice A' (n + 1) c').ownBlock = some w.heap.size) → K (a.put o.dst (.slice A' (n + 1) c')) w') :
 o.wp P a w K Q := by
 obtain ⟨i, hi, hz, hi1, hi2⟩ := info_parts hinf
 have hadd : ∀ j, (⟨g, 0, none⟩ : Addr).add j = ⟨g, j, none⟩ := fun j => by unfold Addr.add; split <;> simp_all
 obtain ⟨v', w', hr, hown', hg, _, hat⟩ := run_append_own_at (P := P) w base t o.type e i z size bytes ht hi hz hi1 hi2 hzs hsz (.slice A n c) n cs hown ⟨g, 0, none⟩ 1 1 news (by rw [hl, Nat.one_mul])
  (fun j u hu => by rw [hadd]; exact hnews j u hu) h1 hn hb2 hbase
 obtain ⟨A', c', rfl, _, _⟩ := own_form hown'
 unfold Oper.wp execOp
 simp only [ho, resolve, invoke, builtin, Sem.run_bind, Sem.run_pure, Result.andThen_ok, List.map_toArray, List.map_cons, List.map_nil, hs, hx, hr]
 exact h A' c' w' hown' ((zB base w).grown hg hbase (fun k hk => (hown.lt k hk).1)) hg hat
end
section
namespace SP
open TM
theorem pt_fits {f : Fac} {v : Nat} (hf : facB f = true) (hw : wordB f v = true) (h2 : f.kind ≠ 2) (h3 : f.kind ≠ 3) : ∃ k : Nat, ptK f v = (k : Int) ∧ k < f.names.length := by
 have hl := facB_len hf
 have hr : relB f.kind f.n f.l f.names.length = true := by
  unfold facB at hf
  exact (Bool.and_eq_true_iff.1 hf).2
 unfold wordB at hw
 unfold ptK
 rcases facB_kind hf with h | h | h | h
 ·rw [if_pos h] at hw
  rw [if_neg (by omega), RG.lv_in hw]
  unfold RG.lvB at hw
  have h5 := RG.ok_iff.1 (Bool.and_eq_true_iff.1 hw).1
  exact ⟨_, rfl, by omega⟩
 ·exact absurd h h2
 ·exact absurd h.1 h3
 ·rw [if_neg (by omega), if_neg h2, if_neg h3] at hw
  rw [if_pos h.1]
  obtain ⟨k, hk⟩ := Option.isSome_iff_exists.1 hw
  rw [hk]
  rw [h.1, relB_4] at hr
  have h5 := of_decide_eq_true (Bool.and_eq_true_iff.1 hr).1
  have h6 := (fnd_some hk).1
  exact ⟨k, rfl, by omega⟩
def nodeE (t : Bool) (fs : List Fac) (e : List Nat) : Nd :=
 if fitsE t fs e = true then (if t = true then nd 4 0 ⟨#[]⟩ [] ((List.range fs.length).map fun i => conN (fs.getD i f0) (e.getD i 0)) else conN (fs.getD 0 f0) (e.getD 0 0)) else n0
end SP
open Go.RowKit LX TR TM SP RM
end
section
namespace SP
open TM
theorem fits_slot {t : Bool} {fs : List Fac} {e : List Nat} (h : fitsE t fs e = true) : (1 ≤ fs.length ∧ fs.length ≤ 8) ∧ ∀ j, j < fs.length → facB (fs.getD j f0) = true ∧ wordB (fs.getD j f0) (e.getD j 0) = true := by
 unfold fitsE at h
 obtain ⟨h1, h2⟩ := Bool.and_eq_true_iff.1 h
 unfold rightS at h1
 simp only [Bool.and_eq_true, decide_eq_true_eq, List.all_eq_true] at h1
 obtain ⟨⟨⟨h3, h4⟩, _⟩, h5⟩ := h1
 refine ⟨⟨h3, h4⟩, fun j hj => ⟨h5 _ (getD_memF hj), ?_⟩⟩
 have h6 := List.all_eq_true.1 h2 j (List.mem_range.2 (by omega))
 unfold slotB at h6
 rw [if_pos hj] at h6
 exact h6
end SP
open Go.RowKit LX TR TM SP RM
end
end Go.Proofs.YtnfndapgcpdcpaaGreatDoor
