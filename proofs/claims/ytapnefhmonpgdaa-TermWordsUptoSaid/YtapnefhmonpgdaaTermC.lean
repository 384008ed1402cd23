/-
  The program's reader: lists. Conditions: lists of trees of at most 2^41.
-/
import Derived.Test.YtapnefhmonpgdaaTermB
namespace Go.Proofs.Ytapnefhmonpgdaa
open Go.RowKit LX TR TM

/-- One more element, of whatever size, onto a row of the call's own: by the bytes. -/
theorem wpList_moreB {P : Program} (w : World) {ops : Array Oper} {rest : List Oper} {o : Oper} {a : Act} {Q : Exit → Act → World → Prop} (hgd : o.guard = none) (s x : Operand) (t : TypeId)
    (ho : o.op = .call { callee := .builtin .append, args := #[s, x], argTypes := #[t, t] })
    (e : TypeId) (z : Value) (size bytes : Nat) (ht : P.underlying t = some (.slice e))
    (hinf : (P.info? e).map (fun i => (i.zero, i.size, i.bytes)) = some (some z, size, bytes)) (hzs : z.cells.size = size) (hsz : 0 < size)
    (base : Nat) (A : Option Addr) (n c : Nat) (cs : List Value) (hs : a.eval s = .slice A n c) (hown : w.ownsRow base e size (.slice A n c) n cs)
    (g : Nat) (news : List Value) (hx : a.eval x = .slice (some ⟨g, 0, none⟩) 1 1) (hl : news.length = size)
    (hnews : ∀ j u, news[j]? = some u → w.cell? ⟨g, j, none⟩ = some u) (h1 : ∀ u ∈ news, u.oneCell' = true)
    (hn : n + 1 ≤ maxLen) (hb2 : (n + 1) * bytes ≤ 140737488355328) (hbase : base ≤ w.heap.size)
    (h : ∀ A' c' w', w'.ownsRow base e size (.slice A' (n + 1) c') (n + 1) (cs ++ news) → Below base w w' → w.grownBy w' (Value.slice A n c).ownBlock → ((Value.slice A' (n + 1) c').ownBlock = (Value.slice A n c).ownBlock ∨ (Value.slice A' (n + 1) c').ownBlock = some w.heap.size) → wpList P ops Q rest (a.put o.dst (.slice A' (n + 1) c')) w') :
    wpList P ops Q (o :: rest) a w := by
  obtain ⟨i, hi, hz, hi1, hi2⟩ := info_parts hinf
  have hadd : ∀ j, (⟨g, 0, none⟩ : Addr).add j = ⟨g, j, none⟩ := fun j => by unfold Addr.add; split <;> simp_all
  refine wpList_plain hgd fun _ hK => ?_
  obtain ⟨v', w', hr, hown', hg, _, hat⟩ := run_append_own_at (P := P) w base t o.type e i z size bytes ht hi hz hi1 hi2 hzs hsz (.slice A n c) n cs hown ⟨g, 0, none⟩ 1 1 news (by rw [hl, Nat.one_mul])
    (fun j u hu => by rw [hadd]; exact hnews j u hu) h1 hn hb2 hbase
  obtain ⟨A', c', rfl, _, _⟩ := own_form hown'
  unfold Oper.wp execOp
  simp only [ho, resolve, invoke, builtin, Sem.run_bind, Sem.run_pure, Result.andThen_ok, List.map_toArray, List.map_cons, List.map_nil, hs, hx, hr]
  exact hK _ _ (h A' c' w' hown' ((Below.refl base w).grown hg hbase (fun k hk => (hown.lt k hk).1)) hg hat)
theorem infoWord : (Try.prog.info? 69).map (fun i => (i.zero, i.size, i.bytes)) = some (some (.agg #[.string ⟨#[]⟩, .int .i64 0]), 2, 24) := by kernel_rfl
theorem wc_one (x : Wd) : ∀ u ∈ wcells x, u.oneCell' = true := by
  intro u hu
  simp only [wcells, List.mem_cons, List.not_mem_nil, or_false] at hu
  rcases hu with rfl | rfl <;> rfl
theorem rest_le (l : List Tr) (i : Int) : (rest l i).length ≤ l.length := by
  unfold rest
  split
  · simp
  · rw [List.length_drop]; omega
theorem own_like9 {w w' : World} {base size n : Nat} {e : TypeId} {v : Value} {cs : List Value} (h : w.ownsRow base e size v n cs) (hb : ∀ b, b < w.heap.size → v.ownBlock = some b → w'.heap[b]? = w.heap[b]?) : w'.ownsRow base e size v n cs := by
  refine ⟨h.1, ?_⟩
  rcases h.2 with hn | ⟨g, cap, cur, rfl, hg, hh, rest⟩
  · exact .inl hn
  · exact .inr ⟨g, cap, cur, rfl, hg, (hb g (Array.getElem?_eq_some_iff.1 hh).1 rfl).trans hh, rest⟩
def WordsV (w : World) (s : Nat) (xs : List Wd) (v : Value) : Prop := ∃ A c, v = .slice A xs.length c ∧ xs.length ≤ c ∧ SlC w (fun k => s ≤ k) A (wcs xs)

set_option maxRecDepth 100000 in
set_option maxHeartbeats 1600000 in
theorem listW_any {rd : Rdr Wd} {F : FuncId} {N : Nat} (hf : ∀ args w, (callFunc F args).run Try.prog w = .ok (.enter F args) w) (HF : Reads F WordV rd N)
    {w : World} {b : Nat} {A : Option Addr} {c : Nat} {l : List Tr} {i e : Int} {f : Option Int} (h : Rs w b A c l i e f) (hN : (nodes (rest l i)).length ≤ N) (hbig : True) :
    Calls Try.prog 65 #[.pointer (some ⟨b, 0, none⟩), .func (.func F) #[] #[]] w fun e' w' => ∃ v x i2 f2, e' = .returned v ∧ WordsV w' w.heap.size x v ∧ Rs w' b A c l i2 e f2 ∧ Mv b w w' ∧ Step (someR rd) l i e f x i2 f2 := by
  have hbw := h.lt
  have HC := Lib.hid (HF w b A c l i e f h hN)
  have HLEN := Lib.hid h.len.1
  have HFF := Lib.hid HF; clear HF
  clear h
  go_enter Try.func65, Try.ntmps65
  go_wp2_with fail
  refine HC.out.mono ?_
  rintro e' w1 ⟨v, x, i2, f2, rfl, rfl, hs, hm, hst⟩
  have HL0 := Lib.hid (LSt.start hst)
  skip
  have hsz1 := hm.size
  have HS1 := Lib.hid (hs.alloc (.cells (wcells x).toArray 69))
  have HM1 := Lib.hid (hm.alloc hbw (.cells (wcells x).toArray 69))
  have HO1 : Hid ((w1.alloc (.cells (wcells x).toArray 69)).ownsRow w.heap.size 69 2 (.slice (some ⟨w1.heap.size, 0, none⟩) 1 1) 1 (wcs [x])) :=
    ⟨rfl, .inr ⟨w1.heap.size, 1, _, rfl, hsz1, heap_alloc_new w1 _, Nat.le_refl _, by decide, rfl, rfl⟩⟩
  have hhh0 : True := trivial
  have HG0 := Lib.hid hhh0
  clear hs hm hst hhh0
  unfold wv
  go_wp2_with fail
  go_loopg [5] ((rest l i).length + 2) (fun mm sv wr => ∃ (zs : List Wd) (X : Option Addr) (d : Nat) (i2 : Int) (f2 : Option Int), mm ≤ (rest l i).length + 2 ∧ sv = .slice X zs.length d ∧ Hid (f2 = none → (rest l i2).length < mm) ∧ Hid (wr.ownsRow w.heap.size 69 2 (.slice X zs.length d) zs.length (wcs zs)) ∧ Hid (Rs wr b A c l i2 e f2) ∧ Hid (Mv b w wr) ∧ Hid (LSt rd l i e f (id zs) i2 f2) ∧ Hid (True))
  case atStart => exact ⟨[x], some ⟨w1.heap.size, 0, none⟩, 1, i2, f2, by omega, rfl, fun _ => by have := HL0.out.adv; obtain ⟨m, _, _, hd⟩ := this.drop; rw [hd, List.length_drop]; omega, HO1.out, HS1.out, HM1.out, HL0.out, HG0.out⟩
  case round =>
    obtain ⟨zs, X, d, i2, f2, hmm, rfl, HME, HO, HS, HM, HL, HD⟩ := hrel
    have HK := Lib.hid (kind_any HS.out)
    have hszr : w.heap.size ≤ wr.heap.size := HM.out.size
    by_cases hk : kindOf (rest l i2) f2 = 44
    · have hfew : zs.length ≤ l.length + 1 := by
        have h1 := HL.out.few
        obtain ⟨m, rfl, hm⟩ := HL.out.adv
        have h2 := rest_le l i
        have h3 : f2 = none := by
          cases f2 with
          | none => rfl
          | some p => cases hr : rest l (i + m) <;> rw [hr] at hk <;> cases hk
        rcases h1 with h1 | h1
        · simp only [id] at h1
          omega
        · exact absurd h3 h1
      rw [hk] at HK
      have HKK := Lib.hid hk; clear hk
      have hlen := HLEN.out
      generalize hn : zs.length = n at *
      have HN := Lib.hid hn; clear hn
      go_wp2_with fail
      refine HK.out.mono ?_
      rintro e' w2 ⟨rfl, hd2⟩
      have hs2 := HS.out.dr hd2
      have HTK := Lib.hid (take_any hs2 44 (by decide))
      have HM2 := Lib.hid (HM.out.dr hbw hd2)
      have HMR2 := Lib.hid (Mv.below (b := b) HS.out.lt hd2.below)
      clear hd2 hs2
      go_wp2_with fail
      refine HTK.out.mono ?_
      rintro e' w3 ⟨t, i3, f3, rfl, hs3, hm3, hst3⟩
      have HC3 := Lib.hid (HFF.out w3 b A c l i3 e f3 hs3 (by
        have h1 := (HL.out.adv.trans hst3.1).nodes
        omega))
      have HM3 := Lib.hid (HM2.out.trans hm3)
      have HMR3 := Lib.hid (HMR2.out.trans hm3)
      have HST3 := Lib.hid hst3
      clear hs3 hm3 hst3
      go_wp2_with fail
      refine HC3.out.mono ?_
      rintro e' w4 ⟨v4, x4, i4, f4, rfl, rfl, hs4, hm4, hst4⟩
      have hMR4 := HMR3.out.trans hm4
      have hsz4 := hMR4.size
      have hsz34 := hm4.size
      have hsz3 := HMR3.out.size
      have hown4 := own_like9 HO.out (fun k hk e => hMR4.block k hk (by have := HO.out.lt k e; omega))
      have HNX := Lib.hid (HL.out.next HKK.out HST3.out hst4)
      have HO4 := Lib.hid (hown4.alloc (.cells (wcells x4).toArray 69))
      have HM4 := Lib.hid ((HM3.out.trans hm4).alloc hbw (.cells (wcells x4).toArray 69))
      have HS4 := Lib.hid (hs4.alloc (.cells (wcells x4).toArray 69))
      have hhh4 : True := trivial
      have HG4 := Lib.hid hhh4
      clear hs4 hm4 hst4 hown4 hhh4
      have hbase : w.heap.size ≤ (w4.alloc (.cells (wcells x4).toArray 69)).heap.size := by simp; omega
      unfold wv
      go_wp2_with (at_builtin; refine wpList_moreB _ rfl _ _ 25 rfl 69 (.agg #[.string ⟨#[]⟩, .int .i64 0]) 2 24 Try.underlying25 infoWord rfl (by decide) w.heap.size X n d (wcs zs) rfl ?c1 w4.heap.size (wcells x4) rfl rfl ?c2 (wc_one x4) ?c3 ?c4 ?c5 ?_)
      case c1 => exact HO4.out
      case c2 => intro j u hu; have h := (RowAt.new w4 69 (wcells x4).toArray).cell j; exact h.trans (by simpa using hu)
      case c3 => simp only [maxLen]; omega
      case c4 => omega
      case c5 => exact hbase
      intro X5 d5 w5 hown5 hb5 hg5 hat5
      have HO5 : Hid (w5.ownsRow w.heap.size 69 2 (.slice X5 (zs ++ [x4]).length d5) (zs ++ [x4]).length (wcs (zs ++ [x4]))) := by
        rw [List.length_append, List.length_singleton, HN.out, wcs_append, wcs_one]; exact Lib.hid hown5
      have HS5 := Lib.hid (HS4.out.low hb5 hbw)
      have HM5 := Lib.hid (HM4.out.onBelow hbw hb5 (Nat.le_refl _))
      have hhh5 : True := trivial
      have HL5 : Hid (LSt rd l i e f (id (zs ++ [x4])) i4 f4) := HNX.out.1
      have HLE : Hid (1 ≤ gk ∧ (rest l i4).length < gk - 1) := by
        have h1 := HME.out HNX.out.2.1
        have h2 := HNX.out.2.2.2
        show _ ∧ _
        omega
      have HG5 := Lib.hid hhh5
      clear hown5 hb5 hg5 hat5 hhh5 HO HS HM HL HD HK HKK HO4 HS4 HM4 HNX HC3 HTK
      go_wp2
      go_roundg (gk - 1)
      case measure => have h1 := HLE.out; omega
      case rel => exact ⟨zs ++ [x4], X5, d5, i4, f4, by omega, by rw [List.length_append, List.length_singleton, HN.out], fun _ => HLE.out.2, HO5.out, HS5, HM5, HL5, HG5⟩
    · have hne : ((kindOf (rest l i2) f2 : Int) == 44) = false := by rw [beq_eq_false_iff_ne]; omega
      have HST := Lib.hid (HL.out.stop hk)
      clear hk
      generalize kindOf (rest l i2) f2 = q at *
      go_wp2_with fail
      refine HK.out.mono ?_
      rintro e' w2 ⟨rfl, hd2⟩
      have HS2 := Lib.hid (HS.out.dr hd2)
      have HM2 := Lib.hid (HM.out.dr hbw hd2)
      have HO2 := Lib.hid (own_below HO.out hd2.below (Nat.le_refl _))
      have hhh2 : True := trivial
      clear hd2
      have HCP := Lib.hid (own_cap_le HO2.out)
      have HSC : Hid (SlC w2 (fun k => w.heap.size ≤ k) X (wcs zs)) := SlC.of_own HO2.out fun k hk _ => hk
      have HG2 := Lib.hid hhh2
      clear hhh2
      go_wp2_with fail
      go_ret
      exact ⟨_, id zs, i2, f2, rfl, ⟨X, d, rfl, HCP.out, HSC.out⟩, HS2.out, HM2.out, HST.out⟩

theorem er_one (x : Nd) : TM.er [x] = [er1 x] := by rw [TM.er_cons]; simp [TM.er]
/-- The cells of a node. -/
def ncells (x : Nd) : List Value := [.int .i64 x.k, .int .i64 x.p, .string x.s, .slice x.A x.ws.length x.c, .slice x.B x.ks.length x.d]
def nv (x : Nd) : Array Value := #[.int .i64 x.k, .int .i64 x.p, .string x.s, .slice x.A x.ws.length x.c, .slice x.B x.ks.length x.d]
theorem ncells_length (x : Nd) : (ncells x).length = 5 := rfl
def ncs (l : List Nd) : List Value := l.flatMap ncells
theorem ncs_append (a b : List Nd) : ncs (a ++ b) = ncs a ++ ncs b := by simp [ncs]
theorem ncs_one (x : Nd) : ncs [x] = ncells x := by simp [ncs]
theorem ncs_length (l : List Nd) : (ncs l).length = l.length * 5 := fm_length ncells_length l
theorem infoNode : (Try.prog.info? 32).map (fun i => (i.zero, i.size, i.bytes)) = some (some (.agg #[.int .i64 0, .int .i64 0, .string ⟨#[]⟩, .slice none 0 0, .slice none 0 0]), 5, 80) := by kernel_rfl
theorem nc_one (x : Nd) : ∀ u ∈ ncells x, u.oneCell' = true := by
  intro u hu
  simp only [ncells, List.mem_cons, List.not_mem_nil, or_false] at hu
  rcases hu with rfl | rfl | rfl | rfl | rfl <;> rfl
/-- A node's names and kids lie in such blocks. -/
def NdOk (w : World) (ok : Nat → Prop) (x : Nd) : Prop := (SlC w ok x.A (wcs x.ws) ∧ x.ws.length ≤ x.c) ∧ SlC w ok x.B (ncs x.ks) ∧ x.ks.length ≤ x.d
/-- All that stands below these nodes lies in such blocks. -/
def DeepN (w : World) (ok : Nat → Prop) (l : List Nd) : Prop := ∀ x ∈ all l, NdOk w ok x
section
variable {w w' : World} {ok ok' : Nat → Prop} {l m : List Nd} {x : Nd}
theorem DeepN.keep (h : DeepN w ok l) (hs : w.heap.size ≤ w'.heap.size) (hb : ∀ b, b < w.heap.size → ok b → w'.heap[b]? = w.heap[b]?) (hok : ∀ b, b < w.heap.size → ok b → ok' b) : DeepN w' ok' l := fun x hx =>
  ⟨⟨(h x hx).1.1.keep hs hb hok, (h x hx).1.2⟩, (h x hx).2.1.keep hs hb hok, (h x hx).2.2⟩
theorem DeepN.nil (w : World) (ok : Nat → Prop) : DeepN w ok [] := fun x hx => by simp [all] at hx
theorem DeepN.append (h : DeepN w ok l) (h2 : DeepN w ok m) : DeepN w ok (l ++ m) := fun x hx => by
  rw [all_append] at hx
  exact (List.mem_append.1 hx).elim (h x) (h2 x)
theorem DeepN.one (h : NdOk w ok x) (h2 : DeepN w ok x.ks) : DeepN w ok [x] := fun y hy => by
  rw [all_cons] at hy
  simp only [all, List.append_nil, List.mem_cons] at hy
  rcases hy with rfl | hy
  · exact h
  · exact h2 y hy
end
/-- A node that was read: what lies below it is new. -/
def NodeV (w : World) (s : Nat) (x : Nd) (v : Value) : Prop := ∃ z, v = .agg (nv z) ∧ er1 z = x ∧ DeepN w (fun k => s ≤ k) [z]
def NodesV (w : World) (s : Nat) (xs : List Nd) (v : Value) : Prop := ∃ A c zs, v = .slice A zs.length c ∧ zs.length ≤ c ∧ TM.er zs = xs ∧ SlC w (fun k => s ≤ k) A (ncs zs) ∧ DeepN w (fun k => s ≤ k) zs
theorem deep_first {w w1 : World} {z : Nd} (h : DeepN w1 (fun k => w.heap.size ≤ k) [z]) (o : Obj) : DeepN (w1.alloc o) (fun k => w.heap.size ≤ k ∧ (Value.slice (some ⟨w1.heap.size, 0, none⟩) 1 1).ownBlock ≠ some k) [z] :=
  h.keep (by simp) (fun k hk _ => heap_alloc_old _ _ hk) fun k hk h => ⟨h, fun e => by
    have e2 : w1.heap.size = k := by simpa [Value.ownBlock] using e
    omega⟩
theorem deep_more {w wr w3 w4 : World} {b n d size : Nat} {e : TypeId} {X : Option Addr} {cs : List Value} {zs : List Nd} {z : Nd} (h : DeepN wr (fun k => w.heap.size ≤ k ∧ (Value.slice X n d).ownBlock ≠ some k) zs) (hm : Mv b wr w4)
    (h2 : DeepN w4 (fun k => w3.heap.size ≤ k) [z]) (ho : wr.ownsRow w.heap.size e size (.slice X n d) n cs) (h3 : wr.heap.size ≤ w3.heap.size) (hb : b < w.heap.size) (hw : w.heap.size ≤ wr.heap.size) (o : Obj) :
    DeepN (w4.alloc o) (fun k => w.heap.size ≤ k ∧ (Value.slice X n d).ownBlock ≠ some k) (zs ++ [z]) := by
  refine DeepN.keep (w := w4) (DeepN.append (h.keep hm.size (fun k hk h => hm.block k hk (by omega)) fun _ _ h => h) (h2.keep (Nat.le_refl _) (fun _ _ _ => rfl) fun k _ h => ⟨by omega, fun e => ?_⟩)) (by simp) (fun k hk _ => heap_alloc_old _ _ hk) fun _ _ h => h
  have := (ho.lt k e).2
  omega
theorem deep_grown {w w4 w5 : World} {n d d5 m : Nat} {X X5 : Option Addr} {zs : List Nd} (h : DeepN w4 (fun k => w.heap.size ≤ k ∧ (Value.slice X n d).ownBlock ≠ some k) zs) (hg : w4.grownBy w5 (Value.slice X n d).ownBlock)
    (hat : (Value.slice X5 m d5).ownBlock = (Value.slice X n d).ownBlock ∨ (Value.slice X5 m d5).ownBlock = some w4.heap.size) : DeepN w5 (fun k => w.heap.size ≤ k ∧ (Value.slice X5 m d5).ownBlock ≠ some k) zs :=
  h.keep hg.size (fun k hk h => hg.block k hk (fun e => h.2 e.symm)) fun k hk h => ⟨h.1, fun e => by
    rcases hat with e2 | e2
    · exact h.2 (e2 ▸ e)
    · rw [e2] at e
      injection e with e
      omega⟩

set_option maxRecDepth 100000 in
set_option maxHeartbeats 1600000 in
theorem listN_any {rd : Rdr Nd} {F : FuncId} {N : Nat} (hf : ∀ args w, (callFunc F args).run Try.prog w = .ok (.enter F args) w) (HF : Reads F NodeV rd N)
    {w : World} {b : Nat} {A : Option Addr} {c : Nat} {l : List Tr} {i e : Int} {f : Option Int} (h : Rs w b A c l i e f) (hN : (nodes (rest l i)).length ≤ N) (hbig : l.length ≤ 4294967296) :
    Calls Try.prog 87 #[.pointer (some ⟨b, 0, none⟩), .func (.func F) #[] #[]] w fun e' w' => ∃ v x i2 f2, e' = .returned v ∧ NodesV w' w.heap.size x v ∧ Rs w' b A c l i2 e f2 ∧ Mv b w w' ∧ Step (someR rd) l i e f x i2 f2 := by
  have hbw := h.lt
  have HC := Lib.hid (HF w b A c l i e f h hN)
  have HLEN := Lib.hid h.len.1
  have HFF := Lib.hid HF; clear HF
  clear h
  go_enter Try.func87, Try.ntmps87
  go_wp2_with fail
  refine HC.out.mono ?_
  rintro e' w1 ⟨v, x, i2, f2, rfl, ⟨z, rfl, rfl, hdz⟩, hs, hm, hst⟩
  have HL0 := Lib.hid (LSt.start hst)
  rw [← er_one] at HL0
  have hsz1 := hm.size
  have HS1 := Lib.hid (hs.alloc (.cells (ncells z).toArray 32))
  have HM1 := Lib.hid (hm.alloc hbw (.cells (ncells z).toArray 32))
  have HO1 : Hid ((w1.alloc (.cells (ncells z).toArray 32)).ownsRow w.heap.size 32 5 (.slice (some ⟨w1.heap.size, 0, none⟩) 1 1) 1 (ncs [z])) :=
    ⟨rfl, .inr ⟨w1.heap.size, 1, _, rfl, hsz1, heap_alloc_new w1 _, Nat.le_refl _, by decide, rfl, rfl⟩⟩
  have hhh0 := deep_first hdz (.cells (ncells z).toArray 32)
  have HG0 := Lib.hid hhh0
  clear hs hm hst hhh0
  unfold nv
  go_wp2_with fail
  go_loopg [5] ((rest l i).length + 2) (fun mm sv wr => ∃ (zs : List Nd) (X : Option Addr) (d : Nat) (i2 : Int) (f2 : Option Int), mm ≤ (rest l i).length + 2 ∧ sv = .slice X zs.length d ∧ Hid (f2 = none → (rest l i2).length < mm) ∧ Hid (wr.ownsRow w.heap.size 32 5 (.slice X zs.length d) zs.length (ncs zs)) ∧ Hid (Rs wr b A c l i2 e f2) ∧ Hid (Mv b w wr) ∧ Hid (LSt rd l i e f (TM.er zs) i2 f2) ∧ Hid (DeepN wr (fun k => w.heap.size ≤ k ∧ (Value.slice X zs.length d).ownBlock ≠ some k) zs))
  case atStart => exact ⟨[z], some ⟨w1.heap.size, 0, none⟩, 1, i2, f2, by omega, rfl, fun _ => by have := HL0.out.adv; obtain ⟨m, _, _, hd⟩ := this.drop; rw [hd, List.length_drop]; omega, HO1.out, HS1.out, HM1.out, HL0.out, HG0.out⟩
  case round =>
    obtain ⟨zs, X, d, i2, f2, hmm, rfl, HME, HO, HS, HM, HL, HD⟩ := hrel
    have HK := Lib.hid (kind_any HS.out)
    have hszr : w.heap.size ≤ wr.heap.size := HM.out.size
    by_cases hk : kindOf (rest l i2) f2 = 44
    · have hfew : zs.length ≤ l.length + 1 := by
        have h1 := HL.out.few
        obtain ⟨m, rfl, hm⟩ := HL.out.adv
        have h2 := rest_le l i
        have h3 : f2 = none := by
          cases f2 with
          | none => rfl
          | some p => cases hr : rest l (i + m) <;> rw [hr] at hk <;> cases hk
        rcases h1 with h1 | h1
        · rw [TM.er_length] at h1
          omega
        · exact absurd h3 h1
      rw [hk] at HK
      have HKK := Lib.hid hk; clear hk
      have hlen := HLEN.out
      generalize hn : zs.length = n at *
      have HN := Lib.hid hn; clear hn
      go_wp2_with fail
      refine HK.out.mono ?_
      rintro e' w2 ⟨rfl, hd2⟩
      have hs2 := HS.out.dr hd2
      have HTK := Lib.hid (take_any hs2 44 (by decide))
      have HM2 := Lib.hid (HM.out.dr hbw hd2)
      have HMR2 := Lib.hid (Mv.below (b := b) HS.out.lt hd2.below)
      clear hd2 hs2
      go_wp2_with fail
      refine HTK.out.mono ?_
      rintro e' w3 ⟨t, i3, f3, rfl, hs3, hm3, hst3⟩
      have HC3 := Lib.hid (HFF.out w3 b A c l i3 e f3 hs3 (by
        have h1 := (HL.out.adv.trans hst3.1).nodes
        omega))
      have HM3 := Lib.hid (HM2.out.trans hm3)
      have HMR3 := Lib.hid (HMR2.out.trans hm3)
      have HST3 := Lib.hid hst3
      clear hs3 hm3 hst3
      go_wp2_with fail
      refine HC3.out.mono ?_
      rintro e' w4 ⟨v4, x4, i4, f4, rfl, ⟨z4, rfl, rfl, hdz4⟩, hs4, hm4, hst4⟩
      have hMR4 := HMR3.out.trans hm4
      have hsz4 := hMR4.size
      have hsz34 := hm4.size
      have hsz3 := HMR3.out.size
      have hown4 := own_like9 HO.out (fun k hk e => hMR4.block k hk (by have := HO.out.lt k e; omega))
      have HNX := Lib.hid (HL.out.next HKK.out HST3.out hst4)
      have HO4 := Lib.hid (hown4.alloc (.cells (ncells z4).toArray 32))
      have HM4 := Lib.hid ((HM3.out.trans hm4).alloc hbw (.cells (ncells z4).toArray 32))
      have HS4 := Lib.hid (hs4.alloc (.cells (ncells z4).toArray 32))
      have hhh4 := deep_more HD.out hMR4 hdz4 HO.out hsz3 hbw hszr (.cells (ncells z4).toArray 32)
      have HG4 := Lib.hid hhh4
      clear hs4 hm4 hst4 hown4 hhh4
      have hbase : w.heap.size ≤ (w4.alloc (.cells (ncells z4).toArray 32)).heap.size := by simp; omega
      unfold nv
      go_wp2_with (at_builtin; refine wpList_moreB _ rfl _ _ 30 rfl 32 (.agg #[.int .i64 0, .int .i64 0, .string ⟨#[]⟩, .slice none 0 0, .slice none 0 0]) 5 80 Try.underlying30 infoNode rfl (by decide) w.heap.size X n d (ncs zs) rfl ?c1 w4.heap.size (ncells z4) rfl rfl ?c2 (nc_one z4) ?c3 ?c4 ?c5 ?_)
      case c1 => exact HO4.out
      case c2 => intro j u hu; have h := (RowAt.new w4 32 (ncells z4).toArray).cell j; exact h.trans (by simpa using hu)
      case c3 => simp only [maxLen]; omega
      case c4 => omega
      case c5 => exact hbase
      intro X5 d5 w5 hown5 hb5 hg5 hat5
      have HO5 : Hid (w5.ownsRow w.heap.size 32 5 (.slice X5 (zs ++ [z4]).length d5) (zs ++ [z4]).length (ncs (zs ++ [z4]))) := by
        rw [List.length_append, List.length_singleton, HN.out, ncs_append, ncs_one]; exact Lib.hid hown5
      have HS5 := Lib.hid (HS4.out.low hb5 hbw)
      have HM5 := Lib.hid (HM4.out.onBelow hbw hb5 (Nat.le_refl _))
      have hhh5 : DeepN w5 (fun k => w.heap.size ≤ k ∧ (Value.slice X5 (zs ++ [z4]).length d5).ownBlock ≠ some k) (zs ++ [z4]) := by rw [List.length_append, List.length_singleton, HN.out]; exact deep_grown HG4.out hg5 (by simpa using hat5)
      have HL5 : Hid (LSt rd l i e f (TM.er (zs ++ [z4])) i4 f4) := by rw [TM.er_append, er_one]; exact HNX.out.1
      have HLE : Hid (1 ≤ gk ∧ (rest l i4).length < gk - 1) := by
        have h1 := HME.out HNX.out.2.1
        have h2 := HNX.out.2.2.2
        show _ ∧ _
        omega
      have HG5 := Lib.hid hhh5
      clear hown5 hb5 hg5 hat5 hhh5 HO HS HM HL HD HK HKK HO4 HS4 HM4 HNX HC3 HTK
      go_wp2
      go_roundg (gk - 1)
      case measure => have h1 := HLE.out; omega
      case rel => exact ⟨zs ++ [z4], X5, d5, i4, f4, by omega, by rw [List.length_append, List.length_singleton, HN.out], fun _ => HLE.out.2, HO5.out, HS5, HM5, HL5, HG5⟩
    · have hne : ((kindOf (rest l i2) f2 : Int) == 44) = false := by rw [beq_eq_false_iff_ne]; omega
      have HST := Lib.hid (HL.out.stop hk)
      clear hk
      generalize kindOf (rest l i2) f2 = q at *
      go_wp2_with fail
      refine HK.out.mono ?_
      rintro e' w2 ⟨rfl, hd2⟩
      have HS2 := Lib.hid (HS.out.dr hd2)
      have HM2 := Lib.hid (HM.out.dr hbw hd2)
      have HO2 := Lib.hid (own_below HO.out hd2.below (Nat.le_refl _))
      have hhh2 : DeepN w2 (fun k => w.heap.size ≤ k) zs := HD.out.keep hd2.below.size (fun k hk _ => hd2.below.block k hk) (fun _ _ h => h.1)
      clear hd2
      have HCP := Lib.hid (own_cap_le HO2.out)
      have HSC : Hid (SlC w2 (fun k => w.heap.size ≤ k) X (ncs zs)) := SlC.of_own HO2.out fun k hk _ => hk
      have HG2 := Lib.hid hhh2
      clear hhh2
      go_wp2_with fail
      go_ret
      exact ⟨_, TM.er zs, i2, f2, rfl, ⟨X, d, zs, rfl, HCP.out, rfl, HSC.out, HG2.out⟩, HS2.out, HM2.out, HST.out⟩
end Go.Proofs.Ytapnefhmonpgdaa
