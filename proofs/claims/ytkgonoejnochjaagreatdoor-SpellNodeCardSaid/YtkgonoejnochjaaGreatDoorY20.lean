/- Texts that all the claims need. Conditions: those that each states. -/
import Derived.Great.BuildSlice
import Derived.Test.YtkgonoejnochjaaGreatDoorY17
import Derived.Test.YtkgonoejnochjaaGreatDoorY18
set_option linter.unusedSimpArgs false
set_option linter.unusedVariables false
set_option maxRecDepth 8000
namespace Go.Proofs.YtkgonoejnochjaaGreatDoor
namespace SP
open TM
def okW (x : Except Int Nat) : Nat := match x with
 | .ok w => w
 | .error _ => 0
def erW (x : Except Int Nat) : Option Int := match x with
 | .ok _ => none
 | .error p => some p
def elw (fs : List Fac) (xs : List Nd) : Except Int (List Nat) := match (List.range xs.length).find? fun j => (erW (wordC (fs.getD j f0) (xs.getD j n0))).isSome with
 | some j => .error ((erW (wordC (fs.getD j f0) (xs.getD j n0))).getD 0)
 | none => .ok (sdTo (fun j => okW (wordC (fs.getD j f0) (xs.getD j n0))) 8 xs.length)
def elemR (t : Bool) (fs : List Fac) (x : Nd) : Except Int (List Nat) :=
 if (rightS t fs && (fl x).c) = true then
    if t = true then (if x.k ≠ 4 ∨ x.ks.length ≠ fs.length then .error x.p else elw fs x.ks) else elw fs [x]
 else .error x.p
def evV (x : Except Int (List Nat)) : Value := match x with
 | .ok l => .tuple #[.agg (uv l), .agg #[.int .i64 0, .int .i64 0]]
 | .error p => .tuple #[.agg (uv (List.replicate 8 0)), .agg #[.int .i64 4, .int .i64 p]]
theorem find_range_no {p : Nat → Bool} {n : Nat} (h : ∀ j, j < n → p j = false) : (List.range n).find? p = none := by
 rw [List.find?_eq_none]
 intro j hj
 rw [h j (List.mem_range.1 hj)]; simp
theorem find_range_hit {p : Nat → Bool} {n i : Nat} (hi : i < n) (h0 : ∀ j, j < i → p j = false) (h : p i = true) : (List.range n).find? p = some i := by
 rw [List.find?_range_eq_some]
 exact ⟨h, List.mem_range.2 hi, fun j hj => by rw [h0 j hj]; rfl⟩
theorem rls_lt (f : Fac) : ∀ (ks : List Nd) (a : Nat), a < 18446744073709551616 → okW (rls f ks a) < 18446744073709551616
 | [], a, h => h
 | k :: r, a, h => by
   rw [rls]
   split
   ·exact Nat.zero_lt_succ _
   ·split
    ·exact Nat.zero_lt_succ _
    ·exact rls_lt f r _ (or_lt h (gRule_lt _ _ _ _))
theorem okW_lt (f : Fac) (x : Nd) : okW (wordC f x) < 18446744073709551616 := by
 have hp : okW (plc f.names x.ws) < 18446744073709551616 := by
  cases h : plc f.names x.ws with
  | error p => exact Nat.zero_lt_succ _
  | ok g => exact plc_lt h
 unfold wordC
 split
 ·split
  ·exact hp
  ·exact Nat.zero_lt_succ _
 ·split
  ·split
   ·exact rls_lt f _ _ (by omega)
   ·exact Nat.zero_lt_succ _
  ·split
   ·split
    ·exact wordN_lt _ _ _
    ·exact RG.wR_lt _ _
   ·exact Nat.zero_lt_succ _
end SP
open Go.RowKit LX TR TM SP RM
section
variable {P : Program} {ops : Array Oper} {Q : Exit → Act → World → Prop} {S : World → Prop}
theorem wpOrd_store {i : Nat} {r : List (Nat × Bool)} {o : Oper} {a : Act} {w : World} (ho : ops[i]? = some o) (hw : Region.wanted o (yielded ops a.tmps) = true) (ty : TypeId) (x y : Operand) (hop : o.op = .store ty x y)
 (g : Nat) (cells : Array Value) (hx : a.eval x = .pointer (some ⟨g, 0, none⟩)) (hy : a.eval y = .agg cells) (t : TypeId) (old : Array Value) (hg : RowAt w g t old) (hi : (P.info? ty).map (·.size) = some cells.size)
 (hold : old.size = cells.size) (h1 : cells.all (·.oneCell') = true) (hS : S (w.setRow g cells)) (h : wpOrd P ops Q S r (a.put o.dst undef) (w.setRow g cells)) : wpOrd P ops Q S ((i, false) :: r) a w :=
 wpOrd_solo ho fun K' hK => by
  rw [if_pos hw]
  exact wp_store_row ty x y hop g cells hx hy t old hg hi hold h1 (hK.out _ _ hS h)
end
theorem ret_cc {P : Program} {fn : Func} {p r : Tmp} {ty ty2 : TypeId} (h : fn.results = #[.cell p ty, .cell r ty2]) (tmps : Array Value) (w : World) (g g2 : Nat) (t t2 : TypeId) (cs cs2 : Array Value) (d d2 : TypeDesc)
 (hp : tmps.getD p undef = .pointer (some ⟨g, 0, none⟩)) (hr : tmps.getD r undef = .pointer (some ⟨g2, 0, none⟩)) (hg : RowAt w g t cs) (hg2 : RowAt w g2 t2 cs2)
 (hu : P.underlying ty = some d) (hd : (match d with | .struct _ | .array _ _ => true | _ => false) = true) (hi : (P.info? ty).map (·.size) = some cs.size)
 (hu2 : P.underlying ty2 = some d2) (hd2 : (match d2 with | .struct _ | .array _ _ => true | _ => false) = true) (hi2 : (P.info? ty2).map (·.size) = some cs2.size) :
 (results fn tmps).run P w = .ok (.tuple #[.agg cs, .agg cs2]) w := by
 have hp' : tmps[p]?.getD undef = .pointer (some ⟨g, 0, none⟩) := by simpa using hp
 have hr' : tmps[r]?.getD undef = .pointer (some ⟨g2, 0, none⟩) := by simpa using hr
 simp [results, h, hp', hr', asAddr, run_loadVar_row w g t ty cs (0, 0) d hg hu hd hi, run_loadVar_row w g2 t2 ty2 cs2 (0, 0) d2 hg2 hu2 hd2 hi2]
end Go.Proofs.YtkgonoejnochjaaGreatDoor
namespace Go.Proofs.YtkgonoejnochjaaGreatDoor
namespace SP
open TM
def ptK (f : Fac) (v : Nat) : Int := if f.kind = 4 then (((ptO f.n f.l v).getD 0 : Nat) : Int) else RG.lv f.names.length v
def rulTo (names : List ByteArray) (n : Int) (l : List Nat) (v i : Nat) : List Nd := ((List.range i).filter fun j : Nat => MM.hasN (gOwners n l v) (j : Int)).map fun j => nd 6 0 (names.getD j ⟨#[]⟩) (nmd names (gReaders n l v (j : Int))) []
def conN (f : Fac) (v : Nat) : Nd :=
 if f.kind = 2 then nd 3 0 ⟨#[]⟩ (nmd f.names v) []
 else if f.kind = 3 then nd 5 0 ⟨#[]⟩ [] (rulTo f.names f.n f.l v f.names.length)
 else nd 2 0 (f.names.getD (ptK f v).toNat ⟨#[]⟩) [] []
end SP
open Go.RowKit LX TR TM SP RM
end Go.Proofs.YtkgonoejnochjaaGreatDoor
namespace Go.Proofs.YtkgonoejnochjaaGreatDoor
open Go.RowKit
theorem wp_moreB {P : Program} {w : World} {o : Oper} {a : Act} {K : Act → World → Prop} {Q : Exit → Act → World → Prop} (s x : Operand) (t : TypeId)
 (ho : o.op = .call { callee := .builtin .append, args := #[s, x], argTypes := #[t, t] })
 (e : TypeId) (z : Value) (size bytes : Nat) (ht : P.underlying t = some (.slice e))
 (hinf : (P.info? e).map (fun i => (i.zero, i.size, i.bytes)) = some (some z, size, bytes)) (hzs : z.cells.size = size) (hsz : 0 < size)
 (base : Nat) (A : Option Addr) (n c : Nat) (cs : List Value) (hs : a.eval s = .slice A n c) (hown : w.ownsRow base e size (.slice A n c) n cs)
 (g : Nat) (news : List Value) (hx : a.eval x = .slice (some ⟨g, 0, none⟩) 1 1) (hl : news.length = size)
 (hnews : ∀ j u, news[j]? = some u → w.cell? ⟨g, j, none⟩ = some u) (h1 : ∀ u ∈ news, u.oneCell' = true)
 (hn : n + 1 ≤ maxLen) (hb2 : (n + 1) * bytes ≤ 140737488355328) (hbase : base ≤ w.heap.size)
 (h : ∀ A' c' w', w'.ownsRow base e size (.slice A' (n + 1) c') (n + 1) (cs ++ news) → Below base w w' → w.grownBy w' (Value.slice A n c).ownBlock → ((Value.slice A' (n + 1) c').ownBlock = (Value.slice A n c).ownBlock ∨ (Value.slice A' (n + 1) c').ownBlock = some w.heap.size) → K (a.put o.dst (.slice A' (n + 1) c')) w') :
 o.wp P a w K Q := by
 obtain ⟨i, hi, hz, hi1, hi2⟩ := info_parts hinf
 have hadd : ∀ j, (⟨g, 0, none⟩ : Addr).add j = ⟨g, j, none⟩ := fun j => by unfold Addr.add; split <;> simp_all
 obtain ⟨v', w', hr, hown', hg, _, hat⟩ := run_append_own_at (P := P) w base t o.type e i z size bytes ht hi hz hi1 hi2 hzs hsz (.slice A n c) n cs hown ⟨g, 0, none⟩ 1 1 news (by rw [hl, Nat.one_mul])
  (fun j u hu => by rw [hadd]; exact hnews j u hu) h1 hn hb2 hbase
 obtain ⟨A', c', rfl, _, _⟩ := own_form hown'
 unfold Oper.wp execOp
 simp only [ho, resolve, invoke, builtin, Sem.run_bind, Sem.run_pure, Result.andThen_ok, List.map_toArray, List.map_cons, List.map_nil, hs, hx, hr]
 exact h A' c' w' hown' ((Below.refl base w).grown hg hbase (fun k hk => (hown.lt k hk).1)) hg hat
end Go.Proofs.YtkgonoejnochjaaGreatDoor
namespace Go.Proofs.YtkgonoejnochjaaGreatDoor
namespace SP
open TM
theorem pt_fits {f : Fac} {v : Nat} (hf : facB f = true) (hw : wordB f v = true) (h2 : f.kind ≠ 2) (h3 : f.kind ≠ 3) : ∃ k : Nat, ptK f v = (k : Int) ∧ k < f.names.length := by
 have hl := facB_len hf
 have hr : relB f.kind f.n f.l f.names.length = true := by
  unfold facB at hf
  exact (Bool.and_eq_true_iff.1 hf).2
 unfold wordB at hw
 unfold ptK
 rcases facB_kind hf with h | h | h | h
 ·rw [if_pos h] at hw
  rw [if_neg (by omega), RG.lv_in hw]
  unfold RG.lvB at hw
  have h5 := RG.ok_iff.1 (Bool.and_eq_true_iff.1 hw).1
  exact ⟨_, rfl, by omega⟩
 ·exact absurd h h2
 ·exact absurd h.1 h3
 ·rw [if_neg (by omega), if_neg h2, if_neg h3] at hw
  rw [if_pos h.1]
  obtain ⟨k, hk⟩ := Option.isSome_iff_exists.1 hw
  rw [hk]
  rw [h.1, relB_4] at hr
  have h5 := of_decide_eq_true (Bool.and_eq_true_iff.1 hr).1
  have h6 := (fnd_some hk).1
  exact ⟨k, rfl, by omega⟩
def nodeE (t : Bool) (fs : List Fac) (e : List Nat) : Nd :=
 if fitsE t fs e = true then (if t = true then nd 4 0 ⟨#[]⟩ [] ((List.range fs.length).map fun i => conN (fs.getD i f0) (e.getD i 0)) else conN (fs.getD 0 f0) (e.getD 0 0)) else n0
end SP
open Go.RowKit LX TR TM SP RM
end Go.Proofs.YtkgonoejnochjaaGreatDoor
namespace Go.Proofs.YtkgonoejnochjaaGreatDoor
namespace SP
open TM
theorem fits_slot {t : Bool} {fs : List Fac} {e : List Nat} (h : fitsE t fs e = true) : (1 ≤ fs.length ∧ fs.length ≤ 8) ∧ ∀ j, j < fs.length → facB (fs.getD j f0) = true ∧ wordB (fs.getD j f0) (e.getD j 0) = true := by
 unfold fitsE at h
 obtain ⟨h1, h2⟩ := Bool.and_eq_true_iff.1 h
 unfold rightS at h1
 simp only [Bool.and_eq_true, decide_eq_true_eq, List.all_eq_true] at h1
 obtain ⟨⟨⟨h3, h4⟩, _⟩, h5⟩ := h1
 refine ⟨⟨h3, h4⟩, fun j hj => ⟨h5 _ (getD_memF hj), ?_⟩⟩
 have h6 := List.all_eq_true.1 h2 j (List.mem_range.2 (by omega))
 unfold slotB at h6
 rw [if_pos hj] at h6
 exact h6
end SP
open Go.RowKit LX TR TM SP RM
end Go.Proofs.YtkgonoejnochjaaGreatDoor

