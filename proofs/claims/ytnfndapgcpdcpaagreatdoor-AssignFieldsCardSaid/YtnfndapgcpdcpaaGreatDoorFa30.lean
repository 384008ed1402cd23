/- Texts that all the claims need. Conditions: those that each states. -/

import Derived.Test.YtnfndapgcpdcpaaGreatDoorFa29
set_option linter.unusedSimpArgs false
set_option linter.unusedVariables false
set_option maxRecDepth 100000
set_option maxHeartbeats 40000000
namespace Go.Proofs.YtnfndapgcpdcpaaGreatDoor
section
open Go.RowKit RM Go.Maps LX TR TM SP
def txS (s : Sc) (k : Ky) : ByteArray := ⟨(35 :: tx (nodeE (s.shp k.1).t (s.shp k.1).fs k.2.1)).toArray⟩
theorem txS_of {s : Sc} {k : Ky} {str : ByteArray} (h : lst str = 35 :: tx (nodeE (s.shp k.1).t (s.shp k.1).fs k.2.1)) : str = txS s k := by
 unfold txS
 rw [← h]
 cases str
 rfl
theorem txS_len (s : Sc) (k : Ky) : (txS s k).data.toList.length ≤ 5000001 := by
 have h1 := tx_vol (nodeE (s.shp k.1).t (s.shp k.1).fs k.2.1)
 have h2 := node_vol (s.shp k.1).t (s.shp k.1).fs k.2.1
 unfold txS
 simp only [zA8]
 omega
theorem bytes_app (a b : ByteArray) : (a ++ b).data.toList = a.data.toList ++ b.data.toList := by
 cases a; cases b
 simp [← ByteArray.append_eq]
def joinB (xs : List ByteArray) (sep : ByteArray) : ByteArray := ⟨(Lib.join (xs.map (·.data.toList)) sep.data.toList).toArray⟩
theorem join_few {l : List (List UInt8)} {M : Nat} (h : ∀ x ∈ l, x.length ≤ M) (c : UInt8) : (Lib.join l [c]).length ≤ l.length * (M + 1) := by
 cases l with
 | nil => exact Nat.zero_le _
 | cons x r =>
   rw [Lib.join_length]
   have : ∀ l : List (List UInt8), (∀ x ∈ l, x.length ≤ M) → Lib.lens l ≤ l.length * M := fun l => by
    induction l with
    | nil => intro _; exact Nat.zero_le _
    | cons y l ih =>
      intro h
      have h1 := ih fun x hx => h x (List.mem_cons_of_mem _ hx)
      have h2 := h y List.mem_cons_self
      have h3 : Lib.lens (y :: l) = y.length + Lib.lens l := by simp [Lib.lens]
      rw [h3, zA8, Nat.add_mul]
      omega
   have h1 := this (x :: r) h
   simp only [zA8, zA9] at h1 ⊢
   rw [Nat.mul_add]
   omega
theorem njoin_any (A : Option Addr) (c : Nat) (xs : List ByteArray) (sep : ByteArray) (w : World) (hc : xs.length ≤ c) (hN : xs.length ≤ 140737488355328) (hlen : (joinB xs sep).data.toList.length ≤ 140737488355328) (hA : Sl w w.heap.size A (xs.map Value.string)) :
 Calls Tryz.prog 44 #[.slice A xs.length c, .string sep] w fun e w' => e = .returned (.string (joinB xs sep)) ∧ Below w.heap.size w w' := by
 have HJ : Hid (Calls Tryz.prog 84 #[.slice A xs.length c, .string sep] w fun e w' => e = .returned (.string (joinB xs sep)) ∧ Below w.heap.size w w') := by
  show Calls _ _ _ _ _
  cases xs with
  | nil =>
    refine (Tryz.strings_Join_none A c sep w).mono ?_
    rintro e w' ⟨rfl, rfl⟩
    exact ⟨rfl, zB _ _⟩
  | cons x r =>
    obtain ⟨b, o, rfl, hb, hcc⟩ := Sl.at_ hA (by simp)
    refine (Tryz.strings_Join b o c (x :: r) sep w (fun j y hy => hcc j _ (by rw [List.getElem?_map, hy]; rfl)) hb hN hc hlen).mono ?_
    rintro e w' ⟨rfl, h2⟩
    exact ⟨rfl, h2⟩
 clear hA hlen hN
 generalize joinB xs sep = R at *
 generalize xs.length = n at *
 go_enter Tryz.func44, Tryz.ntmps44
 go_wp2_with (go_at_call 84; refine HJ.out.mono ?_; rintro e w2 ⟨rfl, hb2⟩; have HB2 := zh hb2; clear hb2)
 go_ret
 exact ⟨rfl, HB2.out⟩
def fldT (b : Ky → ByteArray) (lat : Int) (v : Vl) : ByteArray := v.s ++ ⟨#[61]⟩ ++ b (lat, v.e)
def rowT (b : Ky → ByteArray) (lat : Int) (l : List Vl) : ByteArray := ⟨#[91]⟩ ++ joinB (l.map (fldT b lat)) ⟨#[44]⟩ ++ ⟨#[93]⟩
theorem fldT_len {b : Ky → ByteArray} {lat : Int} {v : Vl} (h1 : v.s.size ≤ 1000) (h2 : ∀ k, (b k).data.toList.length ≤ 5000001) : (fldT b lat v).data.toList.length ≤ 5001002 := by
 unfold fldT
 rw [bytes_app, bytes_app, zA7, zA7]
 have h3 := h2 (lat, v.e)
 have h4 : v.s.data.toList.length ≤ 1000 := h1
 have h5 : (⟨#[61]⟩ : ByteArray).data.toList.length = 1 := rfl
 omega
theorem rowJ_len {b : Ky → ByteArray} {lat : Int} {l : List Vl} (hl : l.length ≤ 1000) (h1 : ∀ v ∈ l, v.s.size ≤ 1000) (h2 : ∀ k, (b k).data.toList.length ≤ 5000001) : (joinB (l.map (fldT b lat)) ⟨#[44]⟩).data.toList.length ≤ 5001003000 := by
 unfold joinB
 have h3 := join_few (l := (l.map (fldT b lat)).map (·.data.toList)) (M := 5001002) (fun x hx => by
  obtain ⟨y, hy, rfl⟩ := List.mem_map.1 hx
  obtain ⟨v, hv, rfl⟩ := List.mem_map.1 hy
  exact fldT_len (h1 v hv) h2) 44
 simp only [List.length_map] at h3 ⊢
 have h4 : l.length * (5001002 + 1) ≤ 1000 * 5001003 := Nat.mul_le_mul_right _ hl
 omega
theorem infoStrV : (Tryz.prog.info? 9).map (fun i => (i.zero, i.size, i.bytes)) = some (some (.string ⟨#[]⟩), 1, 16) := by kernel_rfl
theorem wp_moreV {P : Program} (w : World) {o : Oper} {a : Act} {K : Act → World → Prop} {Q : Exit → Act → World → Prop} (s x : Operand) (t : TypeId)
 (ho : o.op = .call { callee := .builtin .append, args := #[s, x], argTypes := #[t, t] })
 (e : TypeId) (z : Value) (size bytes : Nat) (ht : P.underlying t = some (.slice e))
 (hinf : (P.info? e).map (fun i => (i.zero, i.size, i.bytes)) = some (some z, size, bytes)) (hzs : z.cells.size = size) (hsz : 0 < size)
 (base : Nat) (A : Option Addr) (n c : Nat) (cs : List Value) (hs : a.eval s = .slice A n c) (hown : w.ownsRow base e size (.slice A n c) n cs)
 (g : Nat) (news : List Value) (hx : a.eval x = .slice (some ⟨g, 0, none⟩) 1 1) (hl : news.length = size)
 (hnews : ∀ j u, news[j]? = some u → w.cell? ⟨g, j, none⟩ = some u) (h1 : ∀ u ∈ news, u.oneCell' = true)
 (hn : n + 1 ≤ maxLen) (hb2 : (n + 1) * bytes ≤ 140737488355328) (hbase : base ≤ w.heap.size)
 (h : ∀ A' c' w', w'.ownsRow base e size (.slice A' (n + 1) c') (n + 1) (cs ++ news) → Below base w w' → w.grownBy w' (Value.slice A n c).ownBlock → K (a.put o.dst (.slice A' (n + 1) c')) w') :
 o.wp P a w K Q := by
 obtain ⟨i, hi, hz, hi1, hi2⟩ := info_parts hinf
 have hadd : ∀ j, (⟨g, 0, none⟩ : Addr).add j = ⟨g, j, none⟩ := fun j => by unfold Addr.add; split <;> simp_all
 obtain ⟨v', w', hr, hown', hg, _, hat⟩ := run_append_own_at (P := P) w base t o.type e i z size bytes ht hi hz hi1 hi2 hzs hsz (.slice A n c) n cs hown ⟨g, 0, none⟩ 1 1 news (by rw [hl, Nat.one_mul])
  (fun j u hu => by rw [hadd]; exact hnews j u hu) h1 hn hb2 hbase
 obtain ⟨A', c', rfl, _, _⟩ := own_form hown'
 unfold Oper.wp execOp
 simp only [ho, resolve, invoke, builtin, Sem.run_bind, Sem.run_pure, Result.andThen_ok, List.map_toArray, List.map_cons, List.map_nil, hs, hx, hr]
 exact h A' c' w' hown' ((zB base w).grown hg hbase (fun k hk => (hown.lt k hk).1)) hg
theorem own_apart {w : World} {base size n g : Nat} {e t : TypeId} {v : Value} {cs : List Value} {ds : Array Value} (h : w.ownsRow base e size v n cs) (hg : RowAt w g t ds) (hne : e ≠ t) : v.ownBlock ≠ some g := by
 rcases h.2 with ⟨rfl, _⟩ | ⟨g', cap, cur, rfl, _, hh, _⟩
 ·intro e; cases e
 ·intro e
  injection e with e
  subst e
  exact hne (by
   have h1 : w.heap[g']? = some (.cells ds t (0, 0)) := hg
   have h2 : w.heap[g']? = some (.cells cur _ (0, 0)) := hh
   rw [h2] at h1
   injection h1 with h1
   injection h1)
theorem own_sameV {w w' : World} {base size n : Nat} {e : TypeId} {v : Value} {cs : List Value} (h : w.ownsRow base e size v n cs) (hb : ∀ b, b < w.heap.size → v.ownBlock = some b → w'.heap[b]? = w.heap[b]?) : w'.ownsRow base e size v n cs := by
 refine ⟨h.1, ?_⟩
 rcases h.2 with hn | ⟨g, cap, cur, rfl, hg, hh, rest⟩
 ·exact .inl hn
 ·exact .inr ⟨g, cap, cur, rfl, hg, (hb g (Array.getElem?_eq_some_iff.1 hh).1 rfl).trans hh, rest⟩
theorem take_mapS {α β : Type} (f : α → β) (l : List α) (d : α) {k : Nat} (h : k < l.length) : (l.take (k + 1)).map f = (l.take k).map f ++ [f (l.getD k d)] := by
 rw [takeV_snoc l d h, List.map_append]
 rfl
theorem rowText_any {G : FuncId} {gc : Array Value} {B : Nat} {b : Ky → ByteArray} {I : Nat → World → Prop} {L : Int} (hM : MemoF (fun x => .string x) G gc B b I L) (lat : Int) (h0 : 0 ≤ lat) (h1 : lat < L) (A : Option Addr) (c : Nat) (l : List Vl) (n : Nat) (w : World) (hn : n + l.length < maxLen) (hl : l.length ≤ 1000) (hs : ∀ v ∈ l, v.s.size ≤ 1000) (hbl : ∀ k, (b k).data.toList.length ≤ 5000001)
 (hA : ∀ W, But (fun j => j = B ∨ w.heap.size ≤ j) w W → Ls vlC W A l) (hI : I n w) (hst : ∀ n W W', I n W → w.heap.size ≤ W.heap.size → Below w.heap.size W W' → I n W') :
 Calls Tryz.prog 43 #[.int .i64 lat, .slice A l.length c, .func (.func G) #[] gc] w fun e w' => e = .returned (.string (rowT b lat l)) ∧ (∃ n', n' ≤ n + l.length ∧ I n' w') ∧ But (fun j => j = B) w w' := by
 refine cHid fun Q' hQ => ?_
 have HQ := zh hQ; clear hQ
 have HMM := zh hM; clear hM
 have HA := zh hA; clear hA
 have HST := zh hst; clear hst
 have hBw : B < w.heap.size := HMM.out.lt _ _ hI
 have HJL := zh (rowJ_len (b := b) (lat := lat) hl hs hbl)
 have HRT : Hid (rowT b lat l = ⟨#[91]⟩ ++ joinB (l.map (fldT b lat)) ⟨#[44]⟩ ++ ⟨#[93]⟩) := rfl
 have hf := HMM.out.eq
 have HSS : Hid (∀ i, i < l.length → (l.getD i vl0).s.size ≤ 1000) := fun i hi => hs _ (getD_mem' hi)
 have HBL : Hid (∀ k, (b k).size ≤ 5000001) := fun k => hbl k
 have HI := zh hI
 have hnm : n + l.length < 9223372036854775807 := by unfold maxLen at hn; omega
 clear hs hI hn hbl
 have HTK0 : Hid ((l.take 0).map (fldT b lat) = []) := rfl
 have HTKS : Hid (∀ k, k < l.length → (l.take (k + 1)).map (fldT b lat) = (l.take k).map (fldT b lat) ++ [fldT b lat (l.getD k vl0)]) := fun k hk => take_mapS _ l vl0 hk
 have HTKL : Hid ((l.take l.length).map (fldT b lat) = l.map (fldT b lat)) := by
  show _ = _
  rw [List.take_length]
 have HML : Hid ((l.map (fldT b lat)).length = l.length) := List.length_map ..
 have HFV : Hid (∀ i, fldT b lat (l.getD i vl0) = (l.getD i vl0).s ++ ⟨#[61]⟩ ++ b (lat, (l.getD i vl0).e)) := fun i => rfl
 generalize rowT b lat l = R at *
 generalize hm : l.length = m at *
 have HM := zh hm; clear hm
 go_enter Tryz.func43, Tryz.ntmps43
 go_wp2_with fail
 go_loopw [7, 12] (fun sv iv wr => ∃ i n' d : Nat, ∃ X : Option Addr, i ≤ m ∧ n' ≤ n + i ∧ i ≤ d ∧ sv = .slice X i d ∧ iv = .int .i64 i ∧ Hid (wr.ownsRow w.heap.size 9 1 (.slice X i d) i (((l.take i).map (fldT b lat)).map Value.string)) ∧ Hid (I n' wr) ∧ Hid (But (fun j => j = B) w wr)) (fun sv iv _ => m - (intOf iv).toNat)
 case atStart => exact ⟨0, n, 0, none, by omega, by omega, by omega, rfl, rfl, ⟨by rw [HTK0.out]; rfl, .inl ⟨rfl, rfl⟩⟩, HI, But.refl _ _⟩
 case round =>
  clear HI
  obtain ⟨i, n', d, X, hi, hn', hid, rfl, rfl, HO, HI, HW⟩ := hrel
  by_cases hlt : i < m
  ·obtain ⟨bk, o, hAe, hbk, hc⟩ := (HA.out wr (HW.out.mono fun k h => .inl h)).at 9 vlC_len (by omega) vl0 (i := i) (by rw [HM.out]; exact hlt)
   have hr := hc i (by rw [HM.out]; exact hlt)
   have htk := HTKS.out i hlt
   have hfv := HFV.out i
   have HCL := zh (fun W (hW : I n' W) => HMM.out.call n' W (lat, (l.getD i vl0).e) (by unfold maxLen; omega) h0 h1 hW)
   clear hc
   generalize fldT b lat (l.getD i vl0) = F at *
   have hqs := HBL.out (lat, (l.getD i vl0).e)
   have hss := HSS.out i hlt
   generalize hq : b (lat, (l.getD i vl0).e) = q at *
   clear hq
   generalize l.getD i vl0 = x at *
   obtain ⟨s, e, he⟩ := x
   obtain ⟨e0, e1, e2, e3, e4, e5, e6, e7, rfl⟩ := ew_lit he
   simp only at hfv hss
   have hcat1 : ¬ 9223372036854775807 < s.size + 1 := by omega
   have hcat2 : ¬ 9223372036854775807 < s.size + 1 + q.size := by omega
   have hcat3 : ¬ 9223372036854775807 < (s ++ ⟨#[61]⟩ : ByteArray).size + q.size := by rw [ByteArray.size_append]; exact hcat2
   clear hqs hss
   have hr2 : wr.rangeAt bk (o + i * 9) [.string s, .int .u64 e0, .int .u64 e1, .int .u64 e2, .int .u64 e3, .int .u64 e4, .int .u64 e5, .int .u64 e6, .int .u64 e7] := hr
   have HR := zh hr2
   clear hr hr2
   have hkv : kyV (lat, ⟨[e0, e1, e2, e3, e4, e5, e6, e7], he⟩) = .agg #[.int .i64 lat, .int .u64 e0, .int .u64 e1, .int .u64 e2, .int .u64 e3, .int .u64 e4, .int .u64 e5, .int .u64 e6, .int .u64 e7] := rfl
   rw [hkv] at HCL
   clear hkv
   have HTK := zh htk
   have HFE := zh hfv
   clear htk hfv
   have r9 := RowAt.new wr 43 #[.string s, .int .u64 e0, .int .u64 e1, .int .u64 e2, .int .u64 e3, .int .u64 e4, .int .u64 e5, .int .u64 e6, .int .u64 e7]
   have hb9 : Below wr.heap.size wr (wr.alloc (.cells #[.string s, .int .u64 e0, .int .u64 e1, .int .u64 e2, .int .u64 e3, .int .u64 e4, .int .u64 e5, .int .u64 e6, .int .u64 e7] 43)) := (zB _ _).alloc (zL _) _
   subst hAe
   go_upto_region 5 with (refine wpList_ldIn (by rfl) _ _ rfl bk (o + i * 9) rfl _ _ HR.out Tryz.underlying43 rfl (by kernel_rfl) ?_)
   change Code.wp _ _ _ _ (wr.alloc (.cells #[.string s, .int .u64 e0, .int .u64 e1, .int .u64 e2, .int .u64 e3, .int .u64 e4, .int .u64 e5, .int .u64 e6, .int .u64 e7] 43))
   have HI9 : Hid (I n' (wr.alloc (.cells #[.string s, .int .u64 e0, .int .u64 e1, .int .u64 e2, .int .u64 e3, .int .u64 e4, .int .u64 e5, .int .u64 e6, .int .u64 e7] 43)).drew) := HMM.out.but _ _ _ HI.out (But.none_of hb9).drew
   have HW9 : Hid (But (fun j => j = B) w (wr.alloc (.cells #[.string s, .int .u64 e0, .int .u64 e1, .int .u64 e2, .int .u64 e3, .int .u64 e4, .int .u64 e5, .int .u64 e6, .int .u64 e7] 43)).drew) := (HW.out.trans (But.none_of hb9).weak).drew
   have HO9 : Hid ((wr.alloc (.cells #[.string s, .int .u64 e0, .int .u64 e1, .int .u64 e2, .int .u64 e3, .int .u64 e4, .int .u64 e5, .int .u64 e6, .int .u64 e7] 43)).drew.ownsRow w.heap.size 9 1 (.slice X i d) i (((l.take i).map (fldT b lat)).map Value.string)) := own_sameV HO.out fun k hk _ => hb9.block k hk
   have HX9 : Hid (RowAt (wr.alloc (.cells #[.string s, .int .u64 e0, .int .u64 e1, .int .u64 e2, .int .u64 e3, .int .u64 e4, .int .u64 e5, .int .u64 e6, .int .u64 e7] 43)).drew wr.heap.size 43 #[.string s, .int .u64 e0, .int .u64 e1, .int .u64 e2, .int .u64 e3, .int .u64 e4, .int .u64 e5, .int .u64 e6, .int .u64 e7]) := r9.drew
   have hBx : B < wr.heap.size := zT hBw HW.out.size
   generalize wr.heap.size = gx at *
   clear r9 hb9 HI HW HO
   refine wp_region_ord (fun W : World => RowAt W gx 43 #[.string s, .int .u64 e0, .int .u64 e1, .int .u64 e2, .int .u64 e3, .int .u64 e4, .int .u64 e5, .int .u64 e6, .int .u64 e7]) [(0, true), (1, true), (2, true), (3, true), (4, true), (5, true), (6, true), (7, true), (8, true), (9, false), (10, true), (11, false), (12, false), (13, true)] (by kernel_rfl) (by kernel_rfl) rfl (by kernel_rfl) HX9.out ?_
   generalize (wr.alloc (.cells #[.string s, .int .u64 e0, .int .u64 e1, .int .u64 e2, .int .u64 e3, .int .u64 e4, .int .u64 e5, .int .u64 e6, .int .u64 e7] 43)).drew = w9 at *
   iterate 9
        (refine wpOrd_step (zO rfl) ?_)
        (first
         | (refine wpOrd_skip (by rfl) ?_)
         | (refine wpOrd_take (v := ?_) (by rfl) ?_ ?_; rotate_left 1; (intro wx hSx; have hc_0 := hSx.cell 0; obtain ⟨d1, d2, d3, d4, d5, d6, d7, d8⟩ := vl_cells8 hSx; go_simp; try with_reducible rfl)))
        (try simp only [Act.put, zA4, zA5, zA6])
   (refine wpOrd_solo (zO rfl) ?_)
   intro K hK
   go_simp
   refine (HCL.out w9 HI9.out).mono ?_
   rintro e w10 ⟨rfl, hI10, hB10⟩
   have HI10 := zh hI10
   have HW10 := zh (HW9.out.trans hB10)
   have HX10 := zh (HX9.out.but hB10 (by omega))
   have HO10 := zh (own_sameV HO9.out fun k hk hv => hB10.block k hk (by have := (HO9.out.lt k hv).1; omega))
   clear hI10 hB10 HI9 HW9 HX9 HO9
   refine hK.out _ _ HX10.out ?_
   clear hK K
   (try simp only [Act.put, zA4, zA5, zA6])
   (refine wpOrd_step (zO rfl) ?_)
   (refine wpOrd_take (v := ?_) (by rfl) ?_ ?_; rotate_left 1; (intro wx hSx; go_simp; try with_reducible rfl))
   (try simp only [Act.put, zA4, zA5, zA6])
   (refine wpOrd_solo (zO rfl) ?_)
   intro K hK
   rw [if_pos (by rfl)]
   go_simp
   have rn := RowAt.new w10 9 #[.string (s ++ ⟨#[61]⟩ ++ q)]
   have hb11 : Below w10.heap.size w10 (w10.alloc (.cells #[.string (s ++ ⟨#[61]⟩ ++ q)] 9)) := (zB _ _).alloc (zL _) _
   generalize hgn : w10.heap.size = gn at *
   generalize w10.alloc (.cells #[.string (s ++ ⟨#[61]⟩ ++ q)] 9) = w11 at *
   have hb11' : Below w10.heap.size w10 w11 := by rw [hgn]; exact hb11
   have HI11 := zh (HMM.out.but _ _ _ HI10.out (But.none_of hb11'))
   have HW11 := zh (HW10.out.trans (But.none_of hb11').weak)
   have HX11 := zh (HX10.out.below hb11' HX10.out.lt)
   have HO11 := zh (own_sameV HO10.out fun k hk _ => hb11'.block k hk)
   have HRN := zh rn
   clear rn hb11 hb11' hgn HI10 HW10 HX10 HO10
   refine hK.out _ _ HX11.out ?_
   clear hK K
   (try simp only [Act.put, zA4, zA5, zA6])
   (refine wpOrd_solo (zO rfl) ?_)
   intro K hK
   rw [if_pos (by rfl)]
   refine wp_moreV _ _ _ 59 rfl 9 (.string ⟨#[]⟩) 1 16 Tryz.underlying59 infoStrV rfl (by decide) w.heap.size X i d (((l.take i).map (fldT b lat)).map Value.string) rfl HO11.out gn [.string (s ++ ⟨#[61]⟩ ++ q)] rfl rfl (fun j u hu => (HRN.out.cell j).trans (by simpa using hu)) (fun u hu => by rw [List.mem_singleton] at hu; subst hu; rfl) (by unfold maxLen; omega) (by omega) HW11.out.size ?_
   intro A' c' w12 hown' hbe hgr
   have HX12 := zh (HX11.out.grown hgr (own_apart HO11.out HX11.out (by decide)))
   have HI12 := zh (HST.out _ _ _ HI11.out HW11.out.size hbe)
   have HW12 : Hid (But (fun j => j = B) w w12) := ⟨hbe.os.trans HW11.out.os, hbe.tape.trans HW11.out.tape, hbe.output.trans HW11.out.output, zM HW11.out.size hgr.size, fun k hk hne => (hbe.block k hk).trans (HW11.out.block k hk hne)⟩
   have HO12 : Hid (w12.ownsRow w.heap.size 9 1 (.slice A' (i + 1) c') (i + 1) (((l.take (i + 1)).map (fldT b lat)).map Value.string)) := by
        show World.ownsRow _ _ _ _ _ _ _
        rw [HTK.out, HFE.out, List.map_append]
        exact hown'
   have hcap : i + 1 ≤ c' := by
        obtain ⟨A9, c9, hv, hc9, _⟩ := own_form hown'
        injection hv with _ _ h3
        omega
   clear hown' hbe hgr HI11 HW11 HX11 HO11 HRN
   refine hK.out _ _ HX12.out ?_
   clear hK K
   (try simp only [Act.put, zA4, zA5, zA6])
   (refine wpOrd_step (zO rfl) ?_)
   (refine wpOrd_take (v := ?_) (by rfl) ?_ ?_; rotate_left 1; (intro wx hSx; go_simp; try with_reducible rfl))
   (try simp only [Act.put, zA4, zA5, zA6])
   refine wpOrd_done ?_
   clear HCL
   go_wp2_with fail
   go_roundw
   case rel => exact ⟨i + 1, n' + 1, c', A', by omega, by omega, hcap, rfl, by go_num, HO12, HI12, HW12⟩
   case measure => simp [intOf]; omega
  ·obtain rfl : i = m := by omega
   have htl := HTKL.out
   rw [htl] at HO
   have HSL : Hid (Sl wr wr.heap.size X ((l.map (fldT b lat)).map Value.string)) := Sl.of_own HO.out
   have HJN := zh (njoin_any X d (l.map (fldT b lat)) ⟨#[44]⟩ wr (by rw [HML.out]; exact hid) (by rw [HML.out]; omega) (by have := HJL.out; omega) HSL.out)
   rw [HML.out] at HJN
   have hJs : (joinB (l.map (fldT b lat)) ⟨#[44]⟩).size ≤ 5001003000 := HJL.out
   clear HSL htl HO
   generalize joinB (l.map (fldT b lat)) ⟨#[44]⟩ = JJ at *
   have hcat1 : ¬ 9223372036854775807 < 1 + JJ.size := by omega
   have hcat2 : ¬ 9223372036854775807 < 1 + JJ.size + 1 := by omega
   have hcat3 : ¬ 9223372036854775807 < (⟨#[91]⟩ ++ JJ : ByteArray).size + 1 := by rw [ByteArray.size_append]; exact hcat2
   clear hJs
   go_wp2_with (go_at_call 44; refine HJN.out.mono ?_; rintro e w2 ⟨rfl, hb2⟩; have HI2 := zh (HMM.out.but _ _ _ HI.out (But.none_of hb2)); have HW2 := zh (HW.out.trans (But.none_of hb2).weak); clear hb2)
   exact HQ.out _ _ ⟨by rw [HRT.out]; rfl, ⟨n', by omega, HI2.out⟩, HW2.out⟩
end
section
open Go.RowKit RM Go.Maps LX TR TM SP
def valT (s : Sc) (a : As) (i : Nat) : ByteArray := if (s.vs.getD i var0).2.1 = 1 then txS s ((s.vs.getD i var0).2.2, a.ls.getD i el0) else rowT (txS s) (s.vs.getD i var0).2.2 (a.rs.getD i rw0).l
def varT (s : Sc) (a : As) (i : Nat) : ByteArray := (s.vs.getD i var0).1 ++ ⟨#[61]⟩ ++ valT s a i
def textA (s : Sc) (a : As) : ByteArray := if rightA s a = true then joinB ((List.range s.vs.length).map (varT s a)) ⟨#[32]⟩ else ⟨#[]⟩
theorem getDbig {α : Type} {l : List α} {i : Nat} (d : α) (h : ¬ i < l.length) : l.getD i d = d := by
 rw [List.getD_eq_getElem?_getD, List.getElem?_eq_none (by omega)]; rfl
theorem rowT_len {b : Ky → ByteArray} {lat : Int} {l : List Vl} (hl : l.length ≤ 1000) (h1 : ∀ v ∈ l, v.s.size ≤ 1000) (h2 : ∀ k, (b k).data.toList.length ≤ 5000001) : (rowT b lat l).size ≤ 5001003002 := by
 have h3 : (joinB (l.map (fldT b lat)) ⟨#[44]⟩).size ≤ 5001003000 := rowJ_len hl h1 h2
 unfold rowT
 rw [ByteArray.size_append, ByteArray.size_append]
 have h4 : (⟨#[91]⟩ : ByteArray).size = 1 := rfl
 have h5 : (⟨#[93]⟩ : ByteArray).size = 1 := rfl
 omega
theorem valT_len {s : Sc} {a : As} (hr : ∀ r ∈ a.rs, r.l.length ≤ 1000 ∧ ∀ v ∈ r.l, v.s.size ≤ 1000) (i : Nat) : (valT s a i).size ≤ 5001003002 := by
 unfold valT
 split
 ·have h : (txS s ((s.vs.getD i var0).2.2, a.ls.getD i el0)).size ≤ 5000001 := txS_len _ _
  omega
 ·by_cases hi : i < a.rs.length
  ·have h := hr _ (getD_mem' (d := rw0) hi)
   exact rowT_len h.1 h.2 fun k => txS_len s k
  ·rw [getDbig rw0 hi]
   exact rowT_len (Nat.zero_le _) (fun v hv => by cases hv) fun k => txS_len s k
theorem varsT_len {s : Sc} {a : As} (hv : ∀ v ∈ s.vs, v.1.size ≤ 1000) (hn : s.vs.length ≤ 1000) (hr : ∀ r ∈ a.rs, r.l.length ≤ 1000 ∧ ∀ v ∈ r.l, v.s.size ≤ 1000) : (joinB ((List.range s.vs.length).map (varT s a)) ⟨#[32]⟩).data.toList.length ≤ 140737488355328 := by
 unfold joinB
 have h3 := join_few (l := ((List.range s.vs.length).map (varT s a)).map (·.data.toList)) (M := 5001005000) (fun x hx => by
  obtain ⟨y, hy, rfl⟩ := List.mem_map.1 hx
  obtain ⟨i, hi, rfl⟩ := List.mem_map.1 hy
  have h1 := hv _ (getD_mem' (d := var0) (List.mem_range.1 hi))
  have h2 := valT_len (s := s) hr i
  show (varT s a i).size ≤ _
  unfold varT
  rw [ByteArray.size_append, ByteArray.size_append]
  have h4 : (⟨#[61]⟩ : ByteArray).size = 1 := rfl
  omega) 32
 simp only [List.length_map, List.length_range] at h3 ⊢
 have h4 : s.vs.length * (5001005000 + 1) ≤ 1000 * 5001005001 := Nat.mul_le_mul_right _ hn
 omega
theorem range_mapS {α : Type} (f : Nat → α) (k : Nat) : (List.range (k + 1)).map f = (List.range k).map f ++ [f k] := by
 rw [List.range_succ, List.map_append]; rfl
end
section
open Go.RowKit RM Go.Maps
theorem splice3 {cur X Y Z : List Value} {a b c : Nat} (hX : X.length = a) (hY : Y.length = b) (hZ : Z.length = c) (hc : cur.length = a + b + c) : splice (splice (splice cur 0 X) a Y) (a + b) Z = X ++ (Y ++ Z) := by
 unfold splice
 rw [List.take_zero, List.nil_append, Nat.zero_add, hX, hY, hZ]
 have e1 : (X ++ cur.drop a).take a = X := by rw [← hX, List.take_left]
 have e2 : (X ++ cur.drop a).drop (a + b) = cur.drop (a + b) := by
  rw [List.drop_append, hX, show a + b - a = b by omega, List.drop_of_length_le (by omega), List.nil_append, List.drop_drop]
 rw [e1, e2]
 have e3 : (X ++ (Y ++ cur.drop (a + b))).take (a + b) = X ++ Y := by
  rw [← List.append_assoc, List.take_append_of_le_length (by rw [zA7]; omega), List.take_of_length_le (by rw [zA7]; omega)]
 have e4 : (X ++ (Y ++ cur.drop (a + b))).drop (a + b + c) = [] := List.drop_of_length_le (by simp only [zA7, List.length_drop]; omega)
 rw [e3, e4, List.append_nil, List.append_assoc]
theorem splice_len {cur cs : List Value} {off : Nat} (h : off + cs.length ≤ cur.length) : (splice cur off cs).length = cur.length := by
 unfold splice
 simp only [zA7, List.length_take, List.length_drop]
 omega
theorem nown_cells {w : World} {base g n c sz : Nat} {e : TypeId} {cs : List Value} (h : w.ownsRow base e sz (.slice (some ⟨g, 0, none⟩) n c) n cs) :
 ∃ cur : List Value, w.heap[g]? = some (.cells cur.toArray e (0, 0)) ∧ cur.length = c * sz ∧ base ≤ g := by
 rcases h.2 with ⟨hv, _⟩ | ⟨g', cap, cur, hv, hb, hh, h1, h2, h3, _⟩
 ·cases hv
 ·injection hv with e1 e2 e3
  injection e1 with e1
  injection e1 with e1
  subst e1 e3
  exact ⟨cur.toList, hh, by simpa using h3, hb⟩
theorem wpList_stMid {P : Program} {ops : Array Oper} {rest : List Oper} {o : Oper} {a : Act} {w : World} {Q : Exit → Act → World → Prop} (hgd : Region.wanted o (yielded ops a.tmps) = true) (ty : TypeId) (x y : Operand) (ho : o.op = .store ty x y)
 (g off : Nat) (cells : List Value) (hx : a.eval x = .pointer (some ⟨g, off, none⟩)) (hy : a.eval y = .agg cells.toArray) (cur : List Value) (t : TypeId) (hg : w.heap[g]? = some (.cells cur.toArray t (0, 0)))
 (hi : (P.info? ty).map (·.size) = some cells.length) (hfit : off + cells.length ≤ cur.length) (h1 : ∀ v ∈ cells, v.oneCell' = true) (B : Nat) (w0 : World) (hb : Below B w0 w) (hBg : B ≤ g)
 (h : ∀ w', Hid (w'.heap[g]? = some (.cells (splice cur off cells).toArray t (0, 0))) → Below B w0 w' → Else g w w' → wpList P ops Q rest (a.put o.dst undef) w') : wpList P ops Q (o :: rest) a w :=
 wpList_step fun _ hK => by
  rw [if_pos hgd]
  have hst := run_storeCells_at P g off t cells 0 cur.toArray w hg (by simpa using hfit) h1
  have hk := h (w.setRow g (cur.take off ++ cells ++ cur.drop (off + cells.length)).toArray) (show _ = _ by simpa [splice] using setRow_heap w g _ _ t _ hg) (below_setRow hb hBg _) (Else.setRow w g _)
  have hk2 := hK _ _ hk
  rw [show cur.toArray.toList.take (off + 0) ++ cells ++ cur.toArray.toList.drop (off + 0 + cells.length) = cur.take off ++ cells ++ cur.drop (off + cells.length) by simp] at hst
  generalize w.setRow g (cur.take off ++ cells ++ cur.drop (off + cells.length)).toArray = W9 at *
  cases hq : P.info? ty with
  | none => simp [hq] at hi
  | some i =>
    have hs : i.size = cells.length := by simpa [hq] using hi
    have hrun : (storeVar ty ⟨g, off, none⟩ (.agg cells.toArray)).run P w = .ok () W9 := by
        simp [storeVar, sizeOf, typeInfo, hq, Value.cells, hs, hst]
    unfold Oper.wp execOp
    simp only [ho, hx, hy, Instr.storeAt, Instr.sureAddr, Sem.run_bind, Sem.run_pure, Result.andThen_ok, hrun]
    exact hk2
theorem infoVl : (Tryz.prog.info? 43).map (fun i => (i.zero, i.size, i.bytes)) = some (some (.agg #[.string ⟨#[]⟩, .int .u64 0, .int .u64 0, .int .u64 0, .int .u64 0, .int .u64 0, .int .u64 0, .int .u64 0, .int .u64 0]), 9, 80) := by kernel_rfl
theorem sizeVl : (Tryz.prog.info? 43).map (·.size) = some 9 := by kernel_rfl
theorem copy_pre {w : World} {A : Option Addr} {xs : List Vl} {p q : Nat} (h : Ls vlC w A xs) (h0 : 0 < (((xs.drop q).take p).flatMap vlC).length) :
 ∃ b o, A = some ⟨b, o, none⟩ ∧ ∀ j v, (((xs.drop q).take p).flatMap vlC)[j]? = some v → w.cell? ⟨b, o + q * 9 + j, none⟩ = some v := by
 rw [vlCs_len, List.length_take, List.length_drop] at h0
 have hne : xs.flatMap vlC ≠ [] := fun e => by
  have := congrArg List.length e
  rw [vlCs_len] at this
  simp only [zA9] at this
  omega
 obtain ⟨b, o, rfl, _, hc⟩ := Sl.at_ h hne
 refine ⟨b, o, rfl, fun j v hv => ?_⟩
 have hj : j < p * 9 ∧ j < (xs.length - q) * 9 := by
  have := (List.getElem?_eq_some_iff.1 hv).1
  rw [vlCs_len, List.length_take, List.length_drop] at this
  have h3 : min p (xs.length - q) ≤ p := Nat.min_le_left _ _
  have h4 : min p (xs.length - q) ≤ xs.length - q := Nat.min_le_right _ _
  omega
 rw [Nat.add_assoc]
 refine hc (q * 9 + j) v ?_
 have hd : j / 9 < p ∧ j / 9 < xs.length - q := by omega
 have hm := Nat.mod_lt j (show 0 < 9 by omega)
 have e1 : j / 9 * 9 + j % 9 = j := by omega
 rw [← e1, flat_at vlC 9 vlC_len vl0 _ _ _ (by rw [List.length_take, List.length_drop]; omega) hm] at hv
 rw [← hv, show q * 9 + j = (q + j / 9) * 9 + j % 9 by omega, flat_at vlC 9 vlC_len vl0 _ _ _ (by omega) hm]
 congr 2
 rw [List.getD_eq_getElem?_getD, List.getD_eq_getElem?_getD, List.getElem?_take, if_pos hd.1, List.getElem?_drop]
theorem row_ls {w : World} {g : Nat} {t : TypeId} {l : List Vl} {cs : List Value} (h : w.heap[g]? = some (.cells cs.toArray t (0, 0))) (he : l.flatMap vlC = cs) : Ls vlC w (some ⟨g, 0, none⟩) l := fun _ => by
 have hr : RowAt w g t cs.toArray := h
 refine ⟨g, 0, rfl, hr.lt, fun j u hu => ?_⟩
 rw [Nat.zero_add, hr.cell j, ← hu, he]
 simp
def WiR (w0 : World) (l : List Vl) (e : Ending) (w' : World) : Prop := ∃ g, e = .returned (.slice (some ⟨g, 0, none⟩) l.length l.length) ∧ Ls vlC w' (some ⟨g, 0, none⟩) l ∧ w0.heap.size ≤ g ∧ Below w0.heap.size w0 w'
theorem with_hit (A : Option Addr) (c : Nat) (xs : List Vl) (s : ByteArray) (e : El) (w : World) (hl : xs.length ≤ 4294967296) (hc : xs.length ≤ c) (hcm : c ≤ maxLen) (hA : Ls vlC w A xs) (h0 : 0 ≤ ixV xs s) :
 Calls Tryz.prog 24 #[.slice A xs.length c, .string s, .agg (elv e)] w fun x w' => WiR w (wiV xs s e) x w' := by
 have rT : RowAt ((w.alloc (.cells #[.string s] 9)).alloc (.cells (elv e) 41)) w.heap.size 9 #[.string s] := (RowAt.new w _ _).alloc _
 have rE : RowAt ((w.alloc (.cells #[.string s] 9)).alloc (.cells (elv e) 41)) (w.heap.size + 1) 41 (elv e) := by
  have := RowAt.new (w.alloc (.cells #[.string s] 9)) 41 (elv e)
  rwa [show (w.alloc (.cells #[.string s] 9)).heap.size = w.heap.size + 1 by simp] at this
 have hb : Below w.heap.size w ((w.alloc (.cells #[.string s] 9)).alloc (.cells (elv e) 41)) := ((zB _ _).alloc (zL _) _).alloc (by simp) _
 have hsz : ((w.alloc (.cells #[.string s] 9)).alloc (.cells (elv e) 41)).heap.size = w.heap.size + 2 := by simp
 refine cHid fun Q' hQ => ?_
 have HQ := zh hQ; clear hQ
 have hxs : xs.length ≤ maxLen := zM hc hcm
 have HI := zh (fun W (h : Below w.heap.size w W) => index_any A c xs s W hxs (hA.below h))
 have HLI := zh (fun W (h : Below w.heap.size w W) hg => less_index A c xs s w.heap.size W hxs (hA.below h) hg)
 have hlen := wiV_len xs s e
 have hple := poV_le xs s
 have hrle := reV_le xs s
 have hpr := poV_re xs s
 have hres : (wiV xs s e).flatMap vlC = ((xs.drop 0).take (poV xs s)).flatMap vlC ++ (vlC ⟨s, e⟩ ++ ((xs.drop (reV xs s)).take (xs.length - reV xs s)).flatMap vlC) := by
  unfold wiV
  rw [List.drop_zero, List.flatMap_append, List.flatMap_cons, List.take_of_length_le (l := xs.drop (reV xs s)) (by rw [List.length_drop]; exact zL _)]
 obtain ⟨k, hk⟩ := Int.eq_ofNat_of_zero_le h0
 have hp : poV xs s = k := by unfold poV; rw [if_pos h0, hk]; rfl
 have hr : reV xs s = k + 1 := by unfold reV; rw [if_pos h0, hp]
 rw [hk] at HI
 rw [hp, hr] at hres hlen
 rw [hp] at hple
 rw [hr] at hrle
 have HRES := zh hres
 have HX : Hid ((((xs.drop 0).take k).flatMap vlC).length = k * 9) := by
  show _ = _
  rw [vlCs_len, List.length_take, List.length_drop]
  congr 1
  omega
 have HZL : Hid ((((xs.drop (k + 1)).take (xs.length - (k + 1))).flatMap vlC).length = (xs.length - (k + 1)) * 9) := by
  show _ = _
  rw [vlCs_len, List.length_take, List.length_drop, Nat.min_self]
 have HS1 : Hid (∀ W, Below w.heap.size w W → 0 < (((xs.drop 0).take k).flatMap vlC).length → ∃ b o, A = some ⟨b, o, none⟩ ∧ ∀ j v, (((xs.drop 0).take k).flatMap vlC)[j]? = some v → W.cell? ⟨b, o + 0 * 9 + j, none⟩ = some v) := fun W h h0 => copy_pre (hA.below h) h0
 have HS2 : Hid (∀ W, Below w.heap.size w W → 0 < (((xs.drop (k + 1)).take (xs.length - (k + 1))).flatMap vlC).length → ∃ b o, A = some ⟨b, o, none⟩ ∧ ∀ j v, (((xs.drop (k + 1)).take (xs.length - (k + 1))).flatMap vlC)[j]? = some v → W.cell? ⟨b, o + (k + 1) * 9 + j, none⟩ = some v) := fun W h h0 => copy_pre (hA.below h) h0
 have HO1 := zh (vlCs_one ((xs.drop 0).take k))
 have HO2 := zh (vlCs_one ((xs.drop (k + 1)).take (xs.length - (k + 1))))
 generalize ((xs.drop 0).take k).flatMap vlC = X at *
 generalize ((xs.drop (k + 1)).take (xs.length - (k + 1))).flatMap vlC = Z at *
 have HVO := zh (vlC_one ⟨s, e⟩)
 have HVS : Hid ((Tryz.prog.info? 43).map (·.size) = some (vlC ⟨s, e⟩).length) := by
  show _ = _
  rw [vlC_len]; kernel_rfl
 have HVL : Hid ((vlC ⟨s, e⟩).length = 9) := vlC_len _
 have HESZ := zh (elv_info e)
 obtain ⟨e0, e1, e2, e3, e4, e5, e6, e7, he⟩ := ew_lit e.2
 have HEV : Hid (elv e = #[.int .u64 e0, .int .u64 e1, .int .u64 e2, .int .u64 e3, .int .u64 e4, .int .u64 e5, .int .u64 e6, .int .u64 e7]) := by
  show _ = _
  unfold elv elC
  rw [he]; rfl
 have HVV : Hid ((Value.agg #[.string s, .int .u64 e0, .int .u64 e1, .int .u64 e2, .int .u64 e3, .int .u64 e4, .int .u64 e5, .int .u64 e6, .int .u64 e7]) = .agg (vlC ⟨s, e⟩).toArray) := by
  show _ = _
  unfold vlC
  rw [he]; rfl
 clear he hp hr hA h0 hk
 generalize (vlC ⟨s, e⟩) = Y at *
 obtain ⟨i0, hi, hz0, hz1, hz2⟩ := info_parts infoVl
 generalize hn : xs.length = n at *
 generalize hmm : (wiV xs s e).length = m at *
 have HMM := zh hmm
 clear hmm
 have HBY : Hid (i0.bytes * m ≤ 281474976710656) := by
  show _ ≤ _
  rw [hz2]; omega
 have HI0 := zh hi; have HZ0 := zh hz0; have HZ1 := zh hz1
 clear hi hz0 hz1 hz2 hn
 have hml : m ≤ maxLen := by unfold maxLen; omega
 have hkm : k + 1 ≤ m := by omega
 have hkm2 : k < m := by omega
 have hcI : (k : Int) ≤ (c : Int) := by omega
 have hmI : (k : Int) + 1 ≤ (m : Int) := by omega
 have hnI : (k + 1 : Int) ≤ (n : Int) := by omega
 have g1 : IntKind.i64.wrap ((k : Int) + 1) = (k : Int) + 1 := by rw [IntKind.wrap_i64]; omega
 have g0 : (0 : Int) ≤ (k : Int) + 1 := by omega
 have hk1 : ((k : Int) + 1).toNat = k + 1 := by omega
 have HLEN := zh hlen
 clear hlen
 have HML := zh hml
 clear hml
 go_enter Tryz.func24, Tryz.ntmps24
 go_upto_region 1 with fail
 change Code.wp _ _ _ _ ((w.alloc (.cells #[.string s] 9)).alloc (.cells (elv e) 41))
 generalize (w.alloc (.cells #[.string s] 9)).alloc (.cells (elv e) 41) = w1 at *
 have c1 := rT.cell 0
 rw [HEV.out] at rE
 have HT := zh rT
 have HE := zh rE
 have HB := zh hb
 have HSZ1 := zh hsz
 clear rT rE hb hsz
 go_upto_region 11 with (first
  | (go_at_call 61; refine (HI.out w1 HB.out).mono ?_; rintro e w2 ⟨rfl, hb2⟩; have HB2 := zh (HB.out.trans (hb2.mono HB.out.size)); have HT2 := zh (HT.out.below hb2 HT.out.lt); have HE2 := zh (HE.out.below hb2 HE.out.lt); have HG2 := zh (zM (Nat.le_of_eq HSZ1.out.symm) hb2.size); clear hb2 HT HE HSZ1 HB HI)
  | (at_make; refine wpList_make_full _ rfl (.tmp 31) (.tmp 31) 38 rfl w2.heap.size 43 i0 _ 9 Tryz.underlying38 HI0.out HZ0.out HZ1.out .i64 .i64 _ _ m rfl rfl (by have := HLEN.out; omega) (by have := HLEN.out; omega) HBY.out HML.out (zL _) ?_; intro w4 hown hgr; obtain ⟨cur, hO, hcl, _⟩ := nown_cells hown; have HO := zh hO; have HCL := zh hcl; have hbw := (zB w2.heap.size w2).grown hgr (zL _) (fun k hk => by cases hk); have HT4 := zh (HT2.out.below hbw HT2.out.lt); have HE4 := zh (HE2.out.below hbw HE2.out.lt); have HB4 := zh (HB2.out.trans (hbw.mono HB2.out.size)); have HGG := zh HG2.out; generalize w2.heap.size = G at *; clear hown hgr hO hcl hbw HT2 HE2)
  | (refine wpList_copy_wide rfl (.tmp 33) (.tmp 36) 38 38 rfl 43 9 Tryz.underlying38 sizeVl _ _ _ _ _ _ rfl rfl G 0 cur 43 HO.out X (by rw [HX.out, show Nat.min k _ = k from Nat.min_eq_left (by omega)]) (by decide) (fun h0 => ⟨rfl, by obtain ⟨b, o, e, h⟩ := HS1.out w4 HB4.out h0; exact ⟨_, e, fun j v hv => by rw [Go.WideShapes.add_plain]; simpa using h j v hv⟩⟩) (by rw [HX.out, HCL.out]; omega) HO1.out G w4 (zB _ _) (zL _) ?_; intro w5 ho5 hb5; have HO5 := zh ho5.out; have HB5 := zh (HB4.out.trans (hb5.mono (by have := HGG.out; omega))); have HT5 := zh (HT4.out.below hb5 (by have := HGG.out; omega)); have c5 := HT5.out.cell 0; have HE5 := zh (HE4.out.below hb5 (by have := HGG.out; omega)); clear hb5 ho5 HT4 HE4)
  | (refine wpList_loadS (by rfl) _ _ rfl (w.heap.size + 1) rfl _ _ _ HE5.out Tryz.underlying41 rfl (by kernel_rfl) ?_)
  | (refine wpList_stMid (by rfl) _ _ _ rfl G _ Y rfl HVV.out (splice cur 0 X) 43 HO5.out HVS.out (by rw [HVL.out, splice_len (by rw [HX.out, HCL.out]; omega), HCL.out]; omega) HVO.out w.heap.size w HB5.out (by have := HGG.out; omega) ?_; intro w6 ho6 hb6 he6; have HO6 := zh ho6.out; have HB6 := zh hb6; clear hb6 ho6 he6)
  )
 have HS : Hid ((fun W : World => Below w.heap.size w W) w6.drew) := HB6.out.drew
 have HLC : Hid ((splice (splice cur 0 X) (k * 9) Y).length = m * 9) := by
  show _ = _
  rw [splice_len (by rw [HVL.out, splice_len (by rw [HX.out, HCL.out]; omega), HCL.out]; omega), splice_len (by rw [HX.out, HCL.out]; omega), HCL.out]
 have HSPL : Hid (splice (splice (splice cur 0 X) (k * 9) Y) (k * 9 + 9) Z = X ++ (Y ++ Z)) := splice3 (a := k * 9) (b := 9) (c := (n - (k + 1)) * 9) HX.out HVL.out HZL.out (by rw [HCL.out]; have := HLEN.out; omega)
 generalize splice (splice cur 0 X) (k * 9) Y = cur2 at *
 have hk1 : ((k : Int) + 1).toNat = k + 1 := by omega
 refine wp_region_ord (fun W : World => Below w.heap.size w W) [(0, true), (1, true), (2, true), (3, true), (4, true), (5, true), (6, true), (7, false)] (by kernel_rfl) (by kernel_rfl) rfl (by kernel_rfl) HS.out ?_
 iterate 7
  (refine wpOrd_step (zO rfl) ?_)
  (first
   | (refine wpOrd_skip (by rfl) ?_)
   | (refine wpOrd_take (v := ?_) (by rfl) ?_ ?_; rotate_left 1; (intro wx hSx; go_simp; try with_reducible rfl)))
  (try simp only [Act.put, zA4, zA5, zA6])
 (refine wpOrd_solo (zO rfl) ?_)
 intro K hK
 rw [if_pos (by rfl)]
 refine wp_copy_wide (.tmp 47) (.tmp 50) 38 38 rfl 43 9 Tryz.underlying38 sizeVl _ _ _ _ _ _ rfl rfl G (k * 9 + 9) cur2 43 HO6.out Z (by rw [HZL.out]; have := HLEN.out; rw [show Nat.min (n - (k + 1)) _ = n - (k + 1) from Nat.min_eq_left (by omega)]) (by decide) (fun h0 => by
  have hz := HZL.out
  have hl := HLEN.out
  obtain ⟨b, o, e, h⟩ := HS2.out w6.drew HB6.out.drew h0
  refine ⟨?_, ?_⟩
  ·rw [if_neg (by omega)]
   show some (⟨G, (k + 1) * 9, none⟩ : Addr) = some ⟨G, k * 9 + 9, none⟩
   rw [show (k + 1) * 9 = k * 9 + 9 by omega]
  ·rw [if_neg (by omega), e]
   exact ⟨_, rfl, fun j v hv => by
        show w6.drew.cell? (((⟨b, o, none⟩ : Addr).add ((k + 1) * 9)).add j) = some v
        rw [Go.WideShapes.add_plain, Go.WideShapes.add_plain]; exact h j v hv⟩) (by rw [HLC.out, HZL.out]; have := HLEN.out; omega) HO2.out w.heap.size w HB6.out.drew (by have := HGG.out; omega) ?_
 intro w7 ho7 hb7
 refine hK.out _ _ hb7 ?_
 clear hK K
 (try simp only [Act.put, zA4, zA5, zA6])
 refine wpOrd_done ?_
 have HO7 := zh ho7.out
 have HB7 := zh hb7
 clear ho7 hb7
 go_wp2_with fail
 exact HQ.out _ _ ⟨G, by rw [HMM.out], row_ls HO7.out (by rw [HRES.out, HSPL.out]), by have := HGG.out; omega, HB7.out⟩
theorem with_ins (A : Option Addr) (c : Nat) (xs : List Vl) (s : ByteArray) (e : El) (w : World) (hl : xs.length ≤ 4294967296) (hc : xs.length ≤ c) (hcm : c ≤ maxLen) (hA : Ls vlC w A xs) (h0 : ixV xs s < 0) (h1 : 0 ≤ lsV xs s) :
 Calls Tryz.prog 24 #[.slice A xs.length c, .string s, .agg (elv e)] w fun x w' => WiR w (wiV xs s e) x w' := by
 have rT : RowAt ((w.alloc (.cells #[.string s] 9)).alloc (.cells (elv e) 41)) w.heap.size 9 #[.string s] := (RowAt.new w _ _).alloc _
 have rE : RowAt ((w.alloc (.cells #[.string s] 9)).alloc (.cells (elv e) 41)) (w.heap.size + 1) 41 (elv e) := by
  have := RowAt.new (w.alloc (.cells #[.string s] 9)) 41 (elv e)
  rwa [show (w.alloc (.cells #[.string s] 9)).heap.size = w.heap.size + 1 by simp] at this
 have hb : Below w.heap.size w ((w.alloc (.cells #[.string s] 9)).alloc (.cells (elv e) 41)) := ((zB _ _).alloc (zL _) _).alloc (by simp) _
 have hsz : ((w.alloc (.cells #[.string s] 9)).alloc (.cells (elv e) 41)).heap.size = w.heap.size + 2 := by simp
 refine cHid fun Q' hQ => ?_
 have HQ := zh hQ; clear hQ
 have hxs : xs.length ≤ maxLen := zM hc hcm
 have HI := zh (fun W (h : Below w.heap.size w W) => index_any A c xs s W hxs (hA.below h))
 have HLI := zh (fun W (h : Below w.heap.size w W) hg => less_index A c xs s w.heap.size W hxs (hA.below h) hg)
 have hlen := wiV_len xs s e
 have hple := poV_le xs s
 have hrle := reV_le xs s
 have hpr := poV_re xs s
 have hres : (wiV xs s e).flatMap vlC = ((xs.drop 0).take (poV xs s)).flatMap vlC ++ (vlC ⟨s, e⟩ ++ ((xs.drop (reV xs s)).take (xs.length - reV xs s)).flatMap vlC) := by
  unfold wiV
  rw [List.drop_zero, List.flatMap_append, List.flatMap_cons, List.take_of_length_le (l := xs.drop (reV xs s)) (by rw [List.length_drop]; exact zL _)]
 have h9 := ixV_lt xs s
 have h8 : ixV xs s = -1 := by omega
 obtain ⟨k, hk⟩ := Int.eq_ofNat_of_zero_le h1
 have hp : poV xs s = k := by unfold poV; rw [if_neg (by omega), if_pos h1, hk]; rfl
 have hr : reV xs s = k := by unfold reV; rw [if_neg (by omega), hp]
 rw [h8] at HI
 rw [hk] at HLI
 clear h9
 rw [hp, hr] at hres hlen
 rw [hp] at hple
 rw [hr] at hrle
 have HRES := zh hres
 have HX : Hid ((((xs.drop 0).take k).flatMap vlC).length = k * 9) := by
  show _ = _
  rw [vlCs_len, List.length_take, List.length_drop]
  congr 1
  omega
 have HZL : Hid ((((xs.drop (k)).take (xs.length - (k))).flatMap vlC).length = (xs.length - (k)) * 9) := by
  show _ = _
  rw [vlCs_len, List.length_take, List.length_drop, Nat.min_self]
 have HS1 : Hid (∀ W, Below w.heap.size w W → 0 < (((xs.drop 0).take k).flatMap vlC).length → ∃ b o, A = some ⟨b, o, none⟩ ∧ ∀ j v, (((xs.drop 0).take k).flatMap vlC)[j]? = some v → W.cell? ⟨b, o + 0 * 9 + j, none⟩ = some v) := fun W h h0 => copy_pre (hA.below h) h0
 have HS2 : Hid (∀ W, Below w.heap.size w W → 0 < (((xs.drop (k)).take (xs.length - (k))).flatMap vlC).length → ∃ b o, A = some ⟨b, o, none⟩ ∧ ∀ j v, (((xs.drop (k)).take (xs.length - (k))).flatMap vlC)[j]? = some v → W.cell? ⟨b, o + (k) * 9 + j, none⟩ = some v) := fun W h h0 => copy_pre (hA.below h) h0
 have HO1 := zh (vlCs_one ((xs.drop 0).take k))
 have HO2 := zh (vlCs_one ((xs.drop (k)).take (xs.length - (k))))
 generalize ((xs.drop 0).take k).flatMap vlC = X at *
 generalize ((xs.drop (k)).take (xs.length - (k))).flatMap vlC = Z at *
 have HVO := zh (vlC_one ⟨s, e⟩)
 have HVS : Hid ((Tryz.prog.info? 43).map (·.size) = some (vlC ⟨s, e⟩).length) := by
  show _ = _
  rw [vlC_len]; kernel_rfl
 have HVL : Hid ((vlC ⟨s, e⟩).length = 9) := vlC_len _
 have HESZ := zh (elv_info e)
 obtain ⟨e0, e1, e2, e3, e4, e5, e6, e7, he⟩ := ew_lit e.2
 have HEV : Hid (elv e = #[.int .u64 e0, .int .u64 e1, .int .u64 e2, .int .u64 e3, .int .u64 e4, .int .u64 e5, .int .u64 e6, .int .u64 e7]) := by
  show _ = _
  unfold elv elC
  rw [he]; rfl
 have HVV : Hid ((Value.agg #[.string s, .int .u64 e0, .int .u64 e1, .int .u64 e2, .int .u64 e3, .int .u64 e4, .int .u64 e5, .int .u64 e6, .int .u64 e7]) = .agg (vlC ⟨s, e⟩).toArray) := by
  show _ = _
  unfold vlC
  rw [he]; rfl
 clear he hp hr hA h0 h1 hk h8
 generalize (vlC ⟨s, e⟩) = Y at *
 obtain ⟨i0, hi, hz0, hz1, hz2⟩ := info_parts infoVl
 generalize hn : xs.length = n at *
 generalize hmm : (wiV xs s e).length = m at *
 have HMM := zh hmm
 clear hmm
 have HBY : Hid (i0.bytes * m ≤ 281474976710656) := by
  show _ ≤ _
  rw [hz2]; omega
 have HI0 := zh hi; have HZ0 := zh hz0; have HZ1 := zh hz1
 clear hi hz0 hz1 hz2 hn
 have hml : m ≤ maxLen := by unfold maxLen; omega
 have hkm : k + 1 ≤ m := by omega
 have hkm2 : k < m := by omega
 have hcI : (k : Int) ≤ (c : Int) := by omega
 have hmI : (k : Int) + 1 ≤ (m : Int) := by omega
 have hnI : (k : Int) ≤ (n : Int) := by omega
 have g1 : IntKind.i64.wrap ((k : Int) + 1) = (k : Int) + 1 := by rw [IntKind.wrap_i64]; omega
 have g0 : (0 : Int) ≤ (k : Int) + 1 := by omega
 have hk1 : ((k : Int) + 1).toNat = k + 1 := by omega
 have HLEN := zh hlen
 clear hlen
 have HML := zh hml
 clear hml
 go_enter Tryz.func24, Tryz.ntmps24
 go_upto_region 1 with fail
 change Code.wp _ _ _ _ ((w.alloc (.cells #[.string s] 9)).alloc (.cells (elv e) 41))
 generalize (w.alloc (.cells #[.string s] 9)).alloc (.cells (elv e) 41) = w1 at *
 have c1 := rT.cell 0
 rw [HEV.out] at rE
 have HT := zh rT
 have HE := zh rE
 have HB := zh hb
 have HSZ1 := zh hsz
 clear rT rE hb hsz
 go_upto_region 11 with (first
  | (go_at_call 61; refine (HI.out w1 HB.out).mono ?_; rintro e w2 ⟨rfl, hb2⟩; have HB2 := zh (HB.out.trans (hb2.mono HB.out.size)); have HT2 := zh (HT.out.below hb2 HT.out.lt); have HE2 := zh (HE.out.below hb2 HE.out.lt); have HG2 := zh (zM (Nat.le_of_eq HSZ1.out.symm) hb2.size); clear hb2 HT HE HSZ1 HB HI)
  | (go_at_call 62; refine (HLI.out w2 HB2.out HT2.out).mono ?_; rintro e w3 ⟨rfl, hb3⟩; have HB3 := zh (HB2.out.trans (hb3.mono HB2.out.size)); have HT3 := zh (HT2.out.below hb3 HT2.out.lt); have HE3 := zh (HE2.out.below hb3 HE2.out.lt); have HG3 := zh (zM HG2.out hb3.size); clear hb3 HT2 HE2 HLI)
  | (at_make; refine wpList_make_full _ rfl (.tmp 31) (.tmp 31) 38 rfl w3.heap.size 43 i0 _ 9 Tryz.underlying38 HI0.out HZ0.out HZ1.out .i64 .i64 _ _ m rfl rfl (by have := HLEN.out; omega) (by have := HLEN.out; omega) HBY.out HML.out (zL _) ?_; intro w4 hown hgr; obtain ⟨cur, hO, hcl, _⟩ := nown_cells hown; have HO := zh hO; have HCL := zh hcl; have hbw := (zB w3.heap.size w3).grown hgr (zL _) (fun k hk => by cases hk); have HT4 := zh (HT3.out.below hbw HT3.out.lt); have HE4 := zh (HE3.out.below hbw HE3.out.lt); have HB4 := zh (HB3.out.trans (hbw.mono HB3.out.size)); have HGG := zh HG3.out; generalize w3.heap.size = G at *; clear hown hgr hO hcl hbw HT3 HE3)
  | (refine wpList_copy_wide rfl (.tmp 33) (.tmp 36) 38 38 rfl 43 9 Tryz.underlying38 sizeVl _ _ _ _ _ _ rfl rfl G 0 cur 43 HO.out X (by rw [HX.out, show Nat.min k _ = k from Nat.min_eq_left (by omega)]) (by decide) (fun h0 => ⟨rfl, by obtain ⟨b, o, e, h⟩ := HS1.out w4 HB4.out h0; exact ⟨_, e, fun j v hv => by rw [Go.WideShapes.add_plain]; simpa using h j v hv⟩⟩) (by rw [HX.out, HCL.out]; omega) HO1.out G w4 (zB _ _) (zL _) ?_; intro w5 ho5 hb5; have HO5 := zh ho5.out; have HB5 := zh (HB4.out.trans (hb5.mono (by have := HGG.out; omega))); have HT5 := zh (HT4.out.below hb5 (by have := HGG.out; omega)); have c5 := HT5.out.cell 0; have HE5 := zh (HE4.out.below hb5 (by have := HGG.out; omega)); clear hb5 ho5 HT4 HE4)
  | (refine wpList_loadS (by rfl) _ _ rfl (w.heap.size + 1) rfl _ _ _ HE5.out Tryz.underlying41 rfl (by kernel_rfl) ?_)
  | (refine wpList_stMid (by rfl) _ _ _ rfl G _ Y rfl HVV.out (splice cur 0 X) 43 HO5.out HVS.out (by rw [HVL.out, splice_len (by rw [HX.out, HCL.out]; omega), HCL.out]; omega) HVO.out w.heap.size w HB5.out (by have := HGG.out; omega) ?_; intro w6 ho6 hb6 he6; have HO6 := zh ho6.out; have HB6 := zh hb6; clear hb6 ho6 he6)
  )
 have HS : Hid ((fun W : World => Below w.heap.size w W) w6.drew) := HB6.out.drew
 have HLC : Hid ((splice (splice cur 0 X) (k * 9) Y).length = m * 9) := by
  show _ = _
  rw [splice_len (by rw [HVL.out, splice_len (by rw [HX.out, HCL.out]; omega), HCL.out]; omega), splice_len (by rw [HX.out, HCL.out]; omega), HCL.out]
 have HSPL : Hid (splice (splice (splice cur 0 X) (k * 9) Y) (k * 9 + 9) Z = X ++ (Y ++ Z)) := splice3 (a := k * 9) (b := 9) (c := (n - (k)) * 9) HX.out HVL.out HZL.out (by rw [HCL.out]; have := HLEN.out; omega)
 generalize splice (splice cur 0 X) (k * 9) Y = cur2 at *
 have hk1 : ((k : Int) + 1).toNat = k + 1 := by omega
 refine wp_region_ord (fun W : World => Below w.heap.size w W) [(0, true), (1, true), (2, true), (3, true), (4, true), (5, true), (6, true), (7, false)] (by kernel_rfl) (by kernel_rfl) rfl (by kernel_rfl) HS.out ?_
 iterate 7
  (refine wpOrd_step (zO rfl) ?_)
  (first
   | (refine wpOrd_skip (by rfl) ?_)
   | (refine wpOrd_take (v := ?_) (by rfl) ?_ ?_; rotate_left 1; (intro wx hSx; go_simp; try with_reducible rfl)))
  (try simp only [Act.put, zA4, zA5, zA6])
 (refine wpOrd_solo (zO rfl) ?_)
 intro K hK
 rw [if_pos (by rfl)]
 refine wp_copy_wide (.tmp 47) (.tmp 50) 38 38 rfl 43 9 Tryz.underlying38 sizeVl _ _ _ _ _ _ rfl rfl G (k * 9 + 9) cur2 43 HO6.out Z (by rw [HZL.out]; have := HLEN.out; rw [show Nat.min (n - (k)) _ = n - (k) from Nat.min_eq_left (by omega)]) (by decide) (fun h0 => by
  have hz := HZL.out
  have hl := HLEN.out
  obtain ⟨b, o, e, h⟩ := HS2.out w6.drew HB6.out.drew h0
  refine ⟨?_, ?_⟩
  ·rw [if_neg (by omega)]
   show some (⟨G, (k + 1) * 9, none⟩ : Addr) = some ⟨G, k * 9 + 9, none⟩
   rw [show (k + 1) * 9 = k * 9 + 9 by omega]
  ·rw [if_neg (by omega), e]
   exact ⟨_, rfl, fun j v hv => by
        show w6.drew.cell? (((⟨b, o, none⟩ : Addr).add ((k) * 9)).add j) = some v
        rw [Go.WideShapes.add_plain, Go.WideShapes.add_plain]; exact h j v hv⟩) (by rw [HLC.out, HZL.out]; have := HLEN.out; omega) HO2.out w.heap.size w HB6.out.drew (by have := HGG.out; omega) ?_
 intro w7 ho7 hb7
 refine hK.out _ _ hb7 ?_
 clear hK K
 (try simp only [Act.put, zA4, zA5, zA6])
 refine wpOrd_done ?_
 have HO7 := zh ho7.out
 have HB7 := zh hb7
 clear ho7 hb7
 go_wp2_with fail
 exact HQ.out _ _ ⟨G, by rw [HMM.out], row_ls HO7.out (by rw [HRES.out, HSPL.out]), by have := HGG.out; omega, HB7.out⟩
theorem with_last (A : Option Addr) (c : Nat) (xs : List Vl) (s : ByteArray) (e : El) (w : World) (hl : xs.length ≤ 4294967296) (hc : xs.length ≤ c) (hcm : c ≤ maxLen) (hA : Ls vlC w A xs) (h0 : ixV xs s < 0) (h1 : lsV xs s < 0) :
 Calls Tryz.prog 24 #[.slice A xs.length c, .string s, .agg (elv e)] w fun x w' => WiR w (wiV xs s e) x w' := by
 have rT : RowAt ((w.alloc (.cells #[.string s] 9)).alloc (.cells (elv e) 41)) w.heap.size 9 #[.string s] := (RowAt.new w _ _).alloc _
 have rE : RowAt ((w.alloc (.cells #[.string s] 9)).alloc (.cells (elv e) 41)) (w.heap.size + 1) 41 (elv e) := by
  have := RowAt.new (w.alloc (.cells #[.string s] 9)) 41 (elv e)
  rwa [show (w.alloc (.cells #[.string s] 9)).heap.size = w.heap.size + 1 by simp] at this
 have hb : Below w.heap.size w ((w.alloc (.cells #[.string s] 9)).alloc (.cells (elv e) 41)) := ((zB _ _).alloc (zL _) _).alloc (by simp) _
 have hsz : ((w.alloc (.cells #[.string s] 9)).alloc (.cells (elv e) 41)).heap.size = w.heap.size + 2 := by simp
 refine cHid fun Q' hQ => ?_
 have HQ := zh hQ; clear hQ
 have hxs : xs.length ≤ maxLen := zM hc hcm
 have HI := zh (fun W (h : Below w.heap.size w W) => index_any A c xs s W hxs (hA.below h))
 have HLI := zh (fun W (h : Below w.heap.size w W) hg => less_index A c xs s w.heap.size W hxs (hA.below h) hg)
 have hlen := wiV_len xs s e
 have hple := poV_le xs s
 have hrle := reV_le xs s
 have hpr := poV_re xs s
 have hres : (wiV xs s e).flatMap vlC = ((xs.drop 0).take (poV xs s)).flatMap vlC ++ (vlC ⟨s, e⟩ ++ ((xs.drop (reV xs s)).take (xs.length - reV xs s)).flatMap vlC) := by
  unfold wiV
  rw [List.drop_zero, List.flatMap_append, List.flatMap_cons, List.take_of_length_le (l := xs.drop (reV xs s)) (by rw [List.length_drop]; exact zL _)]
 have h9 := ixV_lt xs s
 have h7 := lsV_lt xs s
 have h8 : ixV xs s = -1 := by omega
 have h6 : lsV xs s = -1 := by omega
 obtain ⟨k, hk⟩ : ∃ k, k = xs.length := ⟨_, rfl⟩
 have hp : poV xs s = k := by unfold poV; rw [if_neg (by omega), if_neg (by omega), hk]
 have hr : reV xs s = k := by unfold reV; rw [if_neg (by omega), hp]
 rw [h8] at HI
 rw [h6] at HLI
 clear h9 h7
 rw [hp, hr] at hres hlen
 rw [hp] at hple
 rw [hr] at hrle
 have HRES := zh hres
 have HX : Hid ((((xs.drop 0).take k).flatMap vlC).length = k * 9) := by
  show _ = _
  rw [vlCs_len, List.length_take, List.length_drop]
  congr 1
  omega
 have HZL : Hid ((((xs.drop (k)).take (xs.length - (k))).flatMap vlC).length = (xs.length - (k)) * 9) := by
  show _ = _
  rw [vlCs_len, List.length_take, List.length_drop, Nat.min_self]
 have HS1 : Hid (∀ W, Below w.heap.size w W → 0 < (((xs.drop 0).take k).flatMap vlC).length → ∃ b o, A = some ⟨b, o, none⟩ ∧ ∀ j v, (((xs.drop 0).take k).flatMap vlC)[j]? = some v → W.cell? ⟨b, o + 0 * 9 + j, none⟩ = some v) := fun W h h0 => copy_pre (hA.below h) h0
 have HS2 : Hid (∀ W, Below w.heap.size w W → 0 < (((xs.drop (k)).take (xs.length - (k))).flatMap vlC).length → ∃ b o, A = some ⟨b, o, none⟩ ∧ ∀ j v, (((xs.drop (k)).take (xs.length - (k))).flatMap vlC)[j]? = some v → W.cell? ⟨b, o + (k) * 9 + j, none⟩ = some v) := fun W h h0 => copy_pre (hA.below h) h0
 have HO1 := zh (vlCs_one ((xs.drop 0).take k))
 have HO2 := zh (vlCs_one ((xs.drop (k)).take (xs.length - (k))))
 generalize ((xs.drop 0).take k).flatMap vlC = X at *
 generalize ((xs.drop (k)).take (xs.length - (k))).flatMap vlC = Z at *
 have HVO := zh (vlC_one ⟨s, e⟩)
 have HVS : Hid ((Tryz.prog.info? 43).map (·.size) = some (vlC ⟨s, e⟩).length) := by
  show _ = _
  rw [vlC_len]; kernel_rfl
 have HVL : Hid ((vlC ⟨s, e⟩).length = 9) := vlC_len _
 have HESZ := zh (elv_info e)
 obtain ⟨e0, e1, e2, e3, e4, e5, e6, e7, he⟩ := ew_lit e.2
 have HEV : Hid (elv e = #[.int .u64 e0, .int .u64 e1, .int .u64 e2, .int .u64 e3, .int .u64 e4, .int .u64 e5, .int .u64 e6, .int .u64 e7]) := by
  show _ = _
  unfold elv elC
  rw [he]; rfl
 have HVV : Hid ((Value.agg #[.string s, .int .u64 e0, .int .u64 e1, .int .u64 e2, .int .u64 e3, .int .u64 e4, .int .u64 e5, .int .u64 e6, .int .u64 e7]) = .agg (vlC ⟨s, e⟩).toArray) := by
  show _ = _
  unfold vlC
  rw [he]; rfl
 clear he hp hr hA h0 h1 h8 h6
 generalize (vlC ⟨s, e⟩) = Y at *
 obtain ⟨i0, hi, hz0, hz1, hz2⟩ := info_parts infoVl
 generalize hn : xs.length = n at *
 generalize hmm : (wiV xs s e).length = m at *
 have HMM := zh hmm
 clear hmm
 have HBY : Hid (i0.bytes * m ≤ 281474976710656) := by
  show _ ≤ _
  rw [hz2]; omega
 have HI0 := zh hi; have HZ0 := zh hz0; have HZ1 := zh hz1
 clear hi hz0 hz1 hz2 hn
 subst hk
 have hml : m ≤ maxLen := by unfold maxLen; omega
 have hkm : k + 1 ≤ m := by omega
 have hkm2 : k < m := by omega
 have hcI : (k : Int) ≤ (c : Int) := by omega
 have hmI : (k : Int) + 1 ≤ (m : Int) := by omega
 have hnI : (k : Int) ≤ (k : Int) := by omega
 have g1 : IntKind.i64.wrap ((k : Int) + 1) = (k : Int) + 1 := by rw [IntKind.wrap_i64]; omega
 have g0 : (0 : Int) ≤ (k : Int) + 1 := by omega
 have hk1 : ((k : Int) + 1).toNat = k + 1 := by omega
 have HLEN := zh hlen
 clear hlen
 have HML := zh hml
 clear hml
 go_enter Tryz.func24, Tryz.ntmps24
 go_upto_region 1 with fail
 change Code.wp _ _ _ _ ((w.alloc (.cells #[.string s] 9)).alloc (.cells (elv e) 41))
 generalize (w.alloc (.cells #[.string s] 9)).alloc (.cells (elv e) 41) = w1 at *
 have c1 := rT.cell 0
 rw [HEV.out] at rE
 have HT := zh rT
 have HE := zh rE
 have HB := zh hb
 have HSZ1 := zh hsz
 clear rT rE hb hsz
 go_upto_region 11 with (first
  | (go_at_call 61; refine (HI.out w1 HB.out).mono ?_; rintro e w2 ⟨rfl, hb2⟩; have HB2 := zh (HB.out.trans (hb2.mono HB.out.size)); have HT2 := zh (HT.out.below hb2 HT.out.lt); have HE2 := zh (HE.out.below hb2 HE.out.lt); have HG2 := zh (zM (Nat.le_of_eq HSZ1.out.symm) hb2.size); clear hb2 HT HE HSZ1 HB HI)
  | (go_at_call 62; refine (HLI.out w2 HB2.out HT2.out).mono ?_; rintro e w3 ⟨rfl, hb3⟩; have HB3 := zh (HB2.out.trans (hb3.mono HB2.out.size)); have HT3 := zh (HT2.out.below hb3 HT2.out.lt); have HE3 := zh (HE2.out.below hb3 HE2.out.lt); have HG3 := zh (zM HG2.out hb3.size); clear hb3 HT2 HE2 HLI)
  | (at_make; refine wpList_make_full _ rfl (.tmp 31) (.tmp 31) 38 rfl w3.heap.size 43 i0 _ 9 Tryz.underlying38 HI0.out HZ0.out HZ1.out .i64 .i64 _ _ m rfl rfl (by have := HLEN.out; omega) (by have := HLEN.out; omega) HBY.out HML.out (zL _) ?_; intro w4 hown hgr; obtain ⟨cur, hO, hcl, _⟩ := nown_cells hown; have HO := zh hO; have HCL := zh hcl; have hbw := (zB w3.heap.size w3).grown hgr (zL _) (fun k hk => by cases hk); have HT4 := zh (HT3.out.below hbw HT3.out.lt); have HE4 := zh (HE3.out.below hbw HE3.out.lt); have HB4 := zh (HB3.out.trans (hbw.mono HB3.out.size)); have HGG := zh HG3.out; generalize w3.heap.size = G at *; clear hown hgr hO hcl hbw HT3 HE3)
  | (refine wpList_copy_wide rfl (.tmp 33) (.tmp 36) 38 38 rfl 43 9 Tryz.underlying38 sizeVl _ _ _ _ _ _ rfl rfl G 0 cur 43 HO.out X (by rw [HX.out, show Nat.min k _ = k from Nat.min_eq_left (by omega)]) (by decide) (fun h0 => ⟨rfl, by obtain ⟨b, o, e, h⟩ := HS1.out w4 HB4.out h0; exact ⟨_, e, fun j v hv => by rw [Go.WideShapes.add_plain]; simpa using h j v hv⟩⟩) (by rw [HX.out, HCL.out]; omega) HO1.out G w4 (zB _ _) (zL _) ?_; intro w5 ho5 hb5; have HO5 := zh ho5.out; have HB5 := zh (HB4.out.trans (hb5.mono (by have := HGG.out; omega))); have HT5 := zh (HT4.out.below hb5 (by have := HGG.out; omega)); have c5 := HT5.out.cell 0; have HE5 := zh (HE4.out.below hb5 (by have := HGG.out; omega)); clear hb5 ho5 HT4 HE4)
  | (refine wpList_loadS (by rfl) _ _ rfl (w.heap.size + 1) rfl _ _ _ HE5.out Tryz.underlying41 rfl (by kernel_rfl) ?_)
  | (refine wpList_stMid (by rfl) _ _ _ rfl G _ Y rfl HVV.out (splice cur 0 X) 43 HO5.out HVS.out (by rw [HVL.out, splice_len (by rw [HX.out, HCL.out]; omega), HCL.out]; omega) HVO.out w.heap.size w HB5.out (by have := HGG.out; omega) ?_; intro w6 ho6 hb6 he6; have HO6 := zh ho6.out; have HB6 := zh hb6; clear hb6 ho6 he6)
  )
 have HS : Hid ((fun W : World => Below w.heap.size w W) w6.drew) := HB6.out.drew
 have HLC : Hid ((splice (splice cur 0 X) (k * 9) Y).length = m * 9) := by
  show _ = _
  rw [splice_len (by rw [HVL.out, splice_len (by rw [HX.out, HCL.out]; omega), HCL.out]; omega), splice_len (by rw [HX.out, HCL.out]; omega), HCL.out]
 have HSPL : Hid (splice (splice (splice cur 0 X) (k * 9) Y) (k * 9 + 9) Z = X ++ (Y ++ Z)) := splice3 (a := k * 9) (b := 9) (c := (k - (k)) * 9) HX.out HVL.out HZL.out (by rw [HCL.out]; have := HLEN.out; omega)
 generalize splice (splice cur 0 X) (k * 9) Y = cur2 at *
 have hk1 : ((k : Int) + 1).toNat = k + 1 := by omega
 refine wp_region_ord (fun W : World => Below w.heap.size w W) [(0, true), (1, true), (2, true), (3, true), (4, true), (5, true), (6, true), (7, false)] (by kernel_rfl) (by kernel_rfl) rfl (by kernel_rfl) HS.out ?_
 iterate 7
  (refine wpOrd_step (zO rfl) ?_)
  (first
   | (refine wpOrd_skip (by rfl) ?_)
   | (refine wpOrd_take (v := ?_) (by rfl) ?_ ?_; rotate_left 1; (intro wx hSx; go_simp; try with_reducible rfl)))
  (try simp only [Act.put, zA4, zA5, zA6])
 (refine wpOrd_solo (zO rfl) ?_)
 intro K hK
 rw [if_pos (by rfl)]
 refine wp_copy_wide (.tmp 47) (.tmp 50) 38 38 rfl 43 9 Tryz.underlying38 sizeVl _ _ _ _ _ _ rfl rfl G (k * 9 + 9) cur2 43 HO6.out Z (by rw [HZL.out]; show _ = min 0 (m - (k + 1)) * 9; omega) (by decide) (fun h0 => by
  have hz := HZL.out
  have hl := HLEN.out
  obtain ⟨b, o, e, h⟩ := HS2.out w6.drew HB6.out.drew h0
  refine ⟨?_, ?_⟩
  ·rw [if_neg (by omega)]
   show some (⟨G, (k + 1) * 9, none⟩ : Addr) = some ⟨G, k * 9 + 9, none⟩
   rw [show (k + 1) * 9 = k * 9 + 9 by omega]
  ·rw [if_neg (by omega), e]
   exact ⟨_, rfl, fun j v hv => by
        show w6.drew.cell? (((⟨b, o, none⟩ : Addr).add ((k) * 9)).add j) = some v
        rw [Go.WideShapes.add_plain, Go.WideShapes.add_plain]; exact h j v hv⟩) (by rw [HLC.out, HZL.out]; have := HLEN.out; omega) HO2.out w.heap.size w HB6.out.drew (by have := HGG.out; omega) ?_
 intro w7 ho7 hb7
 refine hK.out _ _ hb7 ?_
 clear hK K
 (try simp only [Act.put, zA4, zA5, zA6])
 refine wpOrd_done ?_
 have HO7 := zh ho7.out
 have HB7 := zh hb7
 clear ho7 hb7
 go_wp2_with fail
 exact HQ.out _ _ ⟨G, by rw [HMM.out], row_ls HO7.out (by rw [HRES.out, HSPL.out]), by have := HGG.out; omega, HB7.out⟩
theorem withV_any (A : Option Addr) (c : Nat) (xs : List Vl) (s : ByteArray) (e : El) (w : World) (hl : xs.length ≤ 4294967296) (hc : xs.length ≤ c) (hcm : c ≤ maxLen) (hA : Ls vlC w A xs) :
 Calls Tryz.prog 24 #[.slice A xs.length c, .string s, .agg (elv e)] w fun x w' => WiR w (wiV xs s e) x w' := by
 by_cases h0 : 0 ≤ ixV xs s
 ·exact with_hit A c xs s e w hl hc hcm hA h0
 ·by_cases h1 : 0 ≤ lsV xs s
  ·exact with_ins A c xs s e w hl hc hcm hA (by omega) h1
  ·exact with_last A c xs s e w hl hc hcm hA (by omega) (by omega)
end
end Go.Proofs.YtnfndapgcpdcpaaGreatDoor
