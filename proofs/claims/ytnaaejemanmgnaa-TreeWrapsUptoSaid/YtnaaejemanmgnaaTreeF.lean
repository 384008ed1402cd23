/-
  The document's trees of tokens, and its Read. Conditions: lists below 2^31 tokens.
-/
import Derived.Test.YtnaaejemanmgnaaTreeE
namespace Go.Proofs.Ytnaaejemanmgnaa
open Go.RowKit LX TR

theorem ex_low (B : Nat) (K : World → Prop) (hst : ∀ wa wb, K wa → Below B wa wb → K wb) (w : World) (h : K w) :
    ∃ S : World → Prop, Hid (S w.drew) ∧ Hid (∀ w', S w' → K w') ∧ Hid (∀ wa wb, S wa → Below B wa wb → S wb) := ⟨K, hst _ _ h (Below.refl _ _).drew, fun _ h => h, hst⟩
theorem tree_size (a b c d e : Value) : (Try.prog.info? 38).map (·.size) = some (#[a, b, c, d, e] : Array Value).size := by kernel_rfl
theorem below_setRow {B g : Nat} {w : World} (hB : B ≤ g) (cs : Array Value) : Below B w (w.setRow g cs) := ⟨rfl, rfl, rfl, by simp, fun k hk => setRow_other w g k cs (by omega)⟩
/-- Blocks of the call's own, but for the one of a slice. -/
def Sep (B : Nat) (v : Value) (b : Nat) : Prop := B ≤ b ∧ some b ≠ v.ownBlock
/-- What trees hands back. -/
def Tz (B : Nat) (ts : List Tr) (e : Ending) (w w' : World) : Prop :=
  Below B w w' ∧ ∃ X d us, e = .returned (.slice X us.length d) ∧ w'.ownsRow B 38 5 (.slice X us.length d) us.length (tcs us) ∧ er us = ts ∧ Deep w' (Sep B (.slice X us.length d)) us
theorem Deep.below {w w' : World} {ok : Nat → Prop} {l : List Tr} (h : Deep w ok l) (hb : Below w.heap.size w w') : Deep w' ok l := h.keep hb.size (fun b hlt _ => hb.block b hlt) (fun _ _ h => h)
theorem Deep.grown {w w' : World} {B : Nat} {v v' : Value} {l : List Tr} (h : Deep w (Sep B v) l) (hg : w.grownBy w' v.ownBlock) (hat : v'.ownBlock = v.ownBlock ∨ v'.ownBlock = some w.heap.size) : Deep w' (Sep B v') l :=
  h.keep hg.size (fun b hlt hk => hg.block b hlt hk.2) (fun b hlt hk => ⟨hk.1, by
    rcases hat with e | e
    · rw [e]; exact hk.2
    · rw [e]; intro e2; injection e2 with e2; omega⟩)
/-- The same, but for one more block. -/
def SepN (B : Nat) (v : Value) (g b : Nat) : Prop := Sep B v b ∧ b ≠ g
theorem Deep.away {w : World} {B g : Nat} {v : Value} {l : List Tr} (h : Deep w (SepN B v g) l) (o : Nat) (u : Value) : Deep (w.setCell ⟨g, o, none⟩ u) (SepN B v g) l :=
  h.keep (by simp [World.setCell]) (fun b _ hk => by simp only [World.setCell, Array.getElem?_modify, if_neg (fun e => hk.2 (Eq.symm e))]) (fun _ _ h => h)
theorem Deep.sep {w : World} {B g : Nat} {v : Value} {l : List Tr} (h : Deep w (SepN B v g) l) : Deep w (Sep B v) l := h.keep (Nat.le_refl _) (fun _ _ _ => rfl) (fun _ _ h => h.1)
theorem own_far {w : World} {base size n g : Nat} {e : TypeId} {x : Value} {cs : List Value} (h : w.ownsRow base e size x n cs) (hne : x.ownBlock ≠ some g) (o : Nat) (u : Value) : (w.setCell ⟨g, o, none⟩ u).ownsRow base e size x n cs := by
  refine ⟨h.1, ?_⟩
  rcases h.2 with hn | ⟨g', cap, cur, rfl, hg, hh, rest⟩
  · exact .inl hn
  · refine .inr ⟨g', cap, cur, rfl, hg, ?_, rest⟩
    have : g ≠ g' := fun e => hne (by simp [Value.ownBlock, e])
    simp only [World.setCell, Array.getElem?_modify, if_neg this]
    exact hh
theorem drop_get {l s : List Tk} {t : Tk} {i : Nat} (h : l.drop i = t :: s) : i < l.length ∧ l.getD i t0 = t ∧ l.drop (i + 1) = s := by
  have hi : i < l.length := by
    rcases Nat.lt_or_ge i l.length with h1 | h1
    · exact h1
    · rw [List.drop_eq_nil_of_le h1] at h; cases h
  rw [tdrop_cons hi] at h
  injection h with h1 h2
  exact ⟨hi, h1, h2⟩

set_option maxRecDepth 100000 in
set_option maxHeartbeats 2400000 in
theorem trees_any : ∀ (N : Nat) (ts : List Tr) (s post : List Tk) (A : Option Addr) (c at' en : Nat) (l : List Tk) (w : World), (nodes ts).length ≤ N → N ≤ 1073741824 → l.drop at' = s ++ post → Spells s ts → at' + s.length = en → l.length ≤ 1073741824 → Toks w A l →
    Calls Try.prog 24 #[.slice A l.length c, .int .i64 (at' : Int), .int .i64 (en : Int)] w (Tz w.heap.size ts · w ·) := by
  intro N
  induction N with
  | zero =>
    intro ts s post A c at' en l w hN _ hdr hsp hen hl hA
    obtain rfl : ts = [] := List.eq_nil_of_length_eq_zero (by have := length_nodes ts; omega)
    cases hsp
    simp only [List.length_nil, Nat.add_zero] at hen
    subst hen
    clear hdr hA
    generalize l.length = n
    show Calls Try.prog 24 #[.slice A n c, .int .i64 (at' : Int), .int .i64 (at' : Int)] w (fun e w' => Tz w.heap.size [] e w w')
    have HT : Hid (Tz w.heap.size [] (.returned (.slice none 0 0)) w w) := ⟨Below.refl _ _, none, 0, [], rfl, World.ownsRow_nil _ _ _ _, by simp [er], Deep.nil _ _⟩
    go_enter Try.func24, Try.ntmps24
    go_wp2
    go_loop [7, 8, 9, 10] (fun ov iv _ _ => ov = .slice none 0 0 ∧ iv = .int .i64 at') (fun _ _ _ _ => 0)
    case atStart => exact ⟨rfl, rfl⟩
    case round =>
      obtain ⟨rfl, rfl⟩ := hrel
      go_wp2
      go_ret
      exact HT.out
  | succ N ih =>
    intro ts s post A c at' en l w hN hN2 hdr hsp hen hl hA
    have IH := Lib.hid ih; clear ih
    have HA := Lib.hid hA; clear hA
    have HPT := Lib.hid (fun i W (h : Toks W A l) (hi : i ≤ l.length) => partner_any A c i l W hi (by omega) h)
    have HGO : Hid (∀ ks l1 post1 k, (nodes ks).length ≤ N → ∀ i, l.drop i = l1 ++ post1 → Spells l1 ks → i + l1.length = k → ∀ W, Toks W A l → Calls Try.prog 24 #[.slice A l.length c, .int .i64 (i : Int), .int .i64 (k : Int)] W (Tz W.heap.size ks · W ·)) :=
      fun ks l1 post1 k h1 i h2 h3 h4 W h5 => IH.out ks l1 post1 A c i k l W h1 (by omega) h2 h3 h4 hl h5
    clear IH
    have HGET : Hid (∀ i t q, l.drop i = t :: q → i < l.length ∧ l.getD i t0 = t ∧ l.drop (i + 1) = q) := fun i t q h => drop_get h
    have hdr0 := Lib.hid hdr; clear hdr
    have hsp0 := Lib.hid hsp; clear hsp
    have HNT := Lib.hid hN; clear hN
    generalize hn : l.length = n at *
    have HN := Lib.hid hn; clear hn
    show Calls Try.prog 24 #[.slice A n c, .int .i64 (at' : Int), .int .i64 (en : Int)] w (fun e w' => Tz w.heap.size ts e w w')
    go_enter Try.func24, Try.ntmps24
    go_wp2
    go_loopw [7, 8, 9, 10] (fun ov iv _ _ wr => ∃ (i : Nat) (us : List Tr) (s2 : List Tk) (ts2 : List Tr) (X : Option Addr) (d : Nat), ov = .slice X us.length d ∧ iv = .int .i64 i ∧ i + s2.length = en ∧ Hid (wr.ownsRow w.heap.size 38 5 (.slice X us.length d) us.length (tcs us)) ∧ Hid (Deep wr (Sep w.heap.size (.slice X us.length d)) us) ∧ Hid (Spells s2 ts2) ∧ Hid (er us ++ ts2 = ts) ∧ Hid (l.drop i = s2 ++ post) ∧ Hid (Below w.heap.size w wr)) (fun _ iv _ _ _ => en - (intOf iv).toNat)
    case atStart => exact ⟨at', [], s, ts, none, 0, rfl, rfl, hen, World.ownsRow_nil _ _ _ _, Deep.nil _ _, hsp0.out, Lib.hid (by simp [er]), hdr0.out, Below.refl _ _⟩
    case round =>
      obtain ⟨i, us, s2, ts2, X, d, rfl, rfl, hin, HO, HD, HSP, HER, HDR, HW⟩ := hrel
      have hus : us.length ≤ 1073741824 := by
        have h1 := congrArg List.length HER.out
        rw [List.length_append, er_length] at h1
        have h2 := length_nodes ts
        have h3 := HNT.out
        omega
      have hdr := HDR.out
      have her := HER.out
      cases s2 with
      | nil =>
        cases HSP.out
        simp only [List.length_nil, Nat.add_zero] at hin
        subst hin
        have HT : Hid (Tz w.heap.size ts (.returned (.slice X us.length d)) w wr) := ⟨HW.out, X, d, us, rfl, HO.out, by rw [← her, List.append_nil], HD.out⟩
        clear hdr her
        generalize us.length = m at *
        go_wp2
        go_ret
        exact HT.out
      | cons t s3 =>
        obtain ⟨hi, hgt, hdr1⟩ := HGET.out i t (s3 ++ post) hdr
        obtain ⟨b, o, rfl, hbl, hc⟩ := HA.out.at (k := i) (by rw [HN.out]; exact hi)
        have HCC : Hid (∀ k, k < n → ∀ W, Below w.heap.size w W → W.cell? ⟨b, o + k * 3, none⟩ = some (.int .u8 ((l.getD k t0).k : Int)) ∧ W.cell? ⟨b, o + k * 3 + 1, none⟩ = some (.string (l.getD k t0).s) ∧ W.cell? ⟨b, o + k * 3 + 2, none⟩ = some (.int .i64 (l.getD k t0).p)) := fun k hk W hb => by
          obtain ⟨h0, h1, h2⟩ := hc k (by rw [HN.out]; exact hk)
          exact ⟨(hb.cell (p := ⟨b, o + k * 3, none⟩) hbl).trans h0, (hb.cell (p := ⟨b, o + k * 3 + 1, none⟩) hbl).trans h1, (hb.cell (p := ⟨b, o + k * 3 + 2, none⟩) hbl).trans h2⟩
        obtain ⟨hc0, hc1, hc2⟩ := HCC.out i hi wr HW.out
        rw [hgt] at hc0 hc1 hc2
        clear hc
        have hlt : i < en := by simp only [List.length_cons] at hin; omega
        go_upto_region 5 with fail
        obtain ⟨S, HS, HKK, keepS⟩ := ex_low w.heap.size (fun W => W.cell? ⟨b, o + i * 3, none⟩ = some (.int .u8 (t.k : Int)) ∧ W.cell? ⟨b, o + i * 3 + 1, none⟩ = some (.string t.s) ∧ W.cell? ⟨b, o + i * 3 + 2, none⟩ = some (.int .i64 t.p)) (fun _ _ h hb => ⟨(hb.cell (p := ⟨b, o + i * 3, none⟩) hbl).trans h.1, (hb.cell (p := ⟨b, o + i * 3 + 1, none⟩) hbl).trans h.2.1, (hb.cell (p := ⟨b, o + i * 3 + 2, none⟩) hbl).trans h.2.2⟩) wr ⟨hc0, hc1, hc2⟩
        have C0 : ∀ w', S w' → w'.cell? ⟨b, o + i * 3, none⟩ = some (.int .u8 (t.k : Int)) := fun w' h => (HKK.out w' h).1
        have C1 : ∀ w', S w' → w'.cell? ⟨b, o + i * 3 + 1, none⟩ = some (.string t.s) := fun w' h => (HKK.out w' h).2.1
        have C2 : ∀ w', S w' → w'.cell? ⟨b, o + i * 3 + 2, none⟩ = some (.int .i64 t.p) := fun w' h => (HKK.out w' h).2.2
        refine wp_region_ord S [(0, true), (1, true), (2, true), (3, true), (4, true), (5, true), (6, true), (7, true), (8, true), (9, true), (10, false), (11, false)] (by kernel_rfl) (by kernel_rfl) rfl (by kernel_rfl) HS.out ?_
        iterate 10
          (refine wpOrd_step (o := ?_) ?_ ?_; rotate_left 1; (simp only [List.getElem?_toArray, List.getElem?_cons_succ, List.getElem?_cons_zero]; with_reducible rfl))
          (first
              | (refine wpOrd_skip (by rfl) ?_)
              | (refine wpOrd_take (v := ?_) (by rfl) ?_ ?_; rotate_left 1; (intro wx hSx; have hc_0 := C0 wx hSx; have hc_1 := C1 wx hSx; have hc_2 := C2 wx hSx; go_simp; try with_reducible rfl)))
          (try simp only [Act.put, List.setIfInBounds_toArray, List.set_cons_zero, List.set_cons_succ])
        (refine wpOrd_solo (o := ?_) ?_ ?_; rotate_left 1; (simp only [List.getElem?_toArray, List.getElem?_cons_succ, List.getElem?_cons_zero]; with_reducible rfl))
        intro K hK
        go_simp
        have hS : S (wr.alloc (.cells #[.int .u8 0, .string ⟨#[]⟩, .int .i64 0, .slice none 0 0, .int .i64 0] 38)).drew := keepS.out _ _ HS.out ((Below.refl _ wr.drew).alloc HW.out.size _)
        have hrow : RowAt (wr.alloc (.cells #[.int .u8 0, .string ⟨#[]⟩, .int .i64 0, .slice none 0 0, .int .i64 0] 38)).drew wr.heap.size 38 #[.int .u8 0, .string ⟨#[]⟩, .int .i64 0, .slice none 0 0, .int .i64 0] := RowAt.new _ _ _
        have HBV : Hid (Below wr.heap.size wr (wr.alloc (.cells #[.int .u8 0, .string ⟨#[]⟩, .int .i64 0, .slice none 0 0, .int .i64 0] 38)).drew) := ((Below.refl _ _).alloc (Nat.le_refl _) _).drew
        clear HS
        have HS := Lib.hid hS; clear hS
        refine hK.out _ _ HS.out ?_
        clear hK K
        (try simp only [Act.put, List.setIfInBounds_toArray, List.set_cons_zero, List.set_cons_succ])
        generalize (wr.alloc (.cells #[.int .u8 0, .string ⟨#[]⟩, .int .i64 0, .slice none 0 0, .int .i64 0] 38)).drew = v1 at *
        (refine wpOrd_solo (o := ?_) ?_ ?_; rotate_left 1; (simp only [List.getElem?_toArray, List.getElem?_cons_succ, List.getElem?_cons_zero]; with_reducible rfl))
        intro K hK
        rw [if_pos (by rfl)]
        refine wp_store_row _ _ _ rfl wr.heap.size #[.int .u8 (t.k : Int), .string t.s, .int .i64 t.p, .slice none 0 0, .int .i64 t.p] rfl rfl _ _ hrow (tree_size _ _ _ _ _) rfl (by simp [Value.oneCell']) ?_
        have hrow2 := hrow.setRow #[.int .u8 (t.k : Int), .string t.s, .int .i64 t.p, .slice none 0 0, .int .i64 t.p]
        have HBV2 : Hid (Below wr.heap.size wr (v1.setRow wr.heap.size #[.int .u8 (t.k : Int), .string t.s, .int .i64 t.p, .slice none 0 0, .int .i64 t.p])) := HBV.out.trans (below_setRow (Nat.le_refl _) _)
        have hS := keepS.out _ _ HS.out (below_setRow (B := w.heap.size) (w := v1) (g := wr.heap.size) HW.out.size #[.int .u8 (t.k : Int), .string t.s, .int .i64 t.p, .slice none 0 0, .int .i64 t.p])
        clear HS HBV
        have HS := Lib.hid hS; clear hS
        refine hK.out _ _ HS.out ?_
        clear hK K
        simp only [Act.put]
        generalize v1.setRow wr.heap.size #[.int .u8 (t.k : Int), .string t.s, .int .i64 t.p, .slice none 0 0, .int .i64 t.p] = v2 at *
        clear hrow
        refine wpOrd_done ?_
        clear HS HKK keepS C0 C1 C2 hc0 hc1 hc2
        have HW2 := Lib.hid (HW.out.trans (HBV2.out.mono HW.out.size))
        obtain ⟨hc0, _, _⟩ := HCC.out i hi v2 HW2.out
        rw [hgt] at hc0
        have hzs : w.heap.size ≤ wr.heap.size := HW.out.size
        have hzr : wr.heap.size < v2.heap.size := hrow2.lt
        have b0 := (hrow2.cell 0).trans rfl
        have b1 := (hrow2.cell 1).trans rfl
        have b2 := (hrow2.cell 2).trans rfl
        have f3 := hrow2.free 3
        have f4 := hrow2.free 4
        have b3 := (hrow2.cell 3).trans rfl
        have b4 := (hrow2.cell 4).trans rfl
        have HR2 := Lib.hid hrow2; clear hrow2
        have HO2 := Lib.hid (own_below HO.out HBV2.out (Nat.le_refl _))
        have HD2 : Hid (Deep v2 (SepN w.heap.size (.slice X us.length d) wr.heap.size) us) := HD.out.keep HBV2.out.size (fun b hlt _ => HBV2.out.block b hlt) (fun b hlt h => ⟨h, by omega⟩)
        have HOB : Hid (∀ b, (Value.slice X us.length d).ownBlock = some b → b < wr.heap.size) := fun b hb => (HO.out.lt b hb).2
        have hcl := closing_any t.k v2
        have hspp := HSP.out
        generalize hgg : wr.heap.size = g9 at *
        clear hgg HO HD
        cases hspp with
        | @leaf _ _ r h0 h1 hs =>
          rw [h0] at hcl
          have HCL := Lib.hid hcl; clear hcl
          have HSP3 := Lib.hid hs
          have HER3 : Hid (er (us ++ [Tr.mk t none 0 [] t.p]) ++ r = ts) := by
            show _ = ts
            rw [er_append, ← her, List.append_assoc]
            congr 1
            simp [er]
          have HDR1 := Lib.hid hdr1
          clear h0 h1 hs her hdr hdr1 hgt
          go_wp2_with fail
          refine HCL.out.mono ?_
          rintro e w' ⟨rfl, rfl⟩
          have HNW : Hid (Sl (v2.alloc (.cells #[.int .u8 (t.k : Int), .string t.s, .int .i64 t.p, .slice none 0 0, .int .i64 t.p] 38)) (v2.heap.size + 1) (some ⟨v2.heap.size, 0, none⟩) [.int .u8 (t.k : Int), .string t.s, .int .i64 t.p, .slice none 0 0, .int .i64 t.p]) := Sl.new _ _ _
          have HOA : Hid ((v2.alloc (.cells #[.int .u8 (t.k : Int), .string t.s, .int .i64 t.p, .slice none 0 0, .int .i64 t.p] 38)).ownsRow w.heap.size 38 5 (.slice X us.length d) us.length (tcs us)) := HO2.out.alloc _
          have HWA : Hid (Below w.heap.size w (v2.alloc (.cells #[.int .u8 (t.k : Int), .string t.s, .int .i64 t.p, .slice none 0 0, .int .i64 t.p] 38))) := HW2.out.alloc HW2.out.size _
          have HDA : Hid (Deep (v2.alloc (.cells #[.int .u8 (t.k : Int), .string t.s, .int .i64 t.p, .slice none 0 0, .int .i64 t.p] 38)) (Sep w.heap.size (.slice X us.length d)) (us ++ [(Tr.mk t none 0 [] t.p)])) := (HD2.out.sep.below ((Below.refl _ _).alloc (Nat.le_refl _) _)).append (Deep.one (SlC.nil _ _ _) (Nat.le_refl 0) (Deep.nil _ _))
          go_wp2_with (first | (at_builtin; refine wpList_catAt rfl _ _ 25 rfl 38 (.agg #[.int .u8 0, .string ⟨#[]⟩, .int .i64 0, .slice none 0 0, .int .i64 0]) 5 64 Try.underlying25 infoTree rfl (by decide) (by decide) w.heap.size X us.length d (tcs us) rfl HOA.out _ (some ⟨v2.heap.size, 0, none⟩) 1 1 [.int .u8 (t.k : Int), .string t.s, .int .i64 t.p, .slice none 0 0, .int .i64 t.p] rfl rfl (by decide) HNW.out (by simp [Value.oneCell']) (by omega) HWA.out.size ?_))
          intro X4 d4 w4 hown4 hb4 hg4 hat4
          have HO4 : Hid (w4.ownsRow w.heap.size 38 5 (.slice X4 (us ++ [(Tr.mk t none 0 [] t.p)]).length d4) (us ++ [(Tr.mk t none 0 [] t.p)]).length (tcs (us ++ [(Tr.mk t none 0 [] t.p)]))) := by
            rw [tcs_append, tcs_one, List.length_append]
            exact hown4
          have HD4 : Hid (Deep w4 (Sep w.heap.size (.slice X4 (us ++ [(Tr.mk t none 0 [] t.p)]).length d4)) (us ++ [(Tr.mk t none 0 [] t.p)])) := by
            have hz : (v2.alloc (.cells #[.int .u8 (t.k : Int), .string t.s, .int .i64 t.p, .slice none 0 0, .int .i64 t.p] 38)).heap.size = v2.heap.size + 1 := by simp
            refine HDA.out.grown hg4 ?_
            rw [List.length_append, List.length_singleton, hz]
            exact hat4
          have HW4 := Lib.hid (HWA.out.trans hb4)
          clear hown4 hb4 hg4 hat4 HNW HOA HWA HDA
          go_wp2
          go_roundw
          case rel => exact ⟨i + 1, us ++ [Tr.mk t none 0 [] t.p], s3, r, X4, d4, by rw [List.length_append, List.length_singleton], by go_num, by simp only [List.length_cons] at hin; omega, HO4, HD4, HSP3, HER3, HDR1, HW4⟩
          case measure => simp [intOf]; omega
        | @node _ cc l1 l2 ks r h0 h1 hs1 hs2 =>
          have hdk : l.drop i = t :: (l1 ++ cc :: (l2 ++ post)) := by rw [hdr]; simp
          have hdk1 : l.drop (i + 1) = l1 ++ (cc :: (l2 ++ post)) := by rw [hdr1]; simp
          have hdk2 : l.drop (i + 1 + l1.length) = cc :: (l2 ++ post) := by rw [← List.drop_drop, hdk1, List.drop_left]
          obtain ⟨hkn, hgk, hdk3⟩ := HGET.out _ _ _ hdk2
          have hne : (((cl t.k : Nat) : Int) != 0) = true := by simp; omega
          have HCL := Lib.hid hcl; clear hcl
          have hpt := HPT.out i v2 (HA.out.below HW2.out) (by omega)
          rw [hdk, pt_node h0 h1 hs1] at hpt
          have hke : i + 1 + l1.length + 1 + l2.length = en := by
            simp only [List.length_cons, List.length_append] at hin; omega
          have hnk : (nodes ks).length ≤ N := by
            have h := HNT.out
            rw [← her, nodes_append] at h
            simp only [nodes, List.length_append, List.length_cons] at h
            omega
          have hcall := HGO.out ks l1 (cc :: (l2 ++ post)) (i + 1 + l1.length) hnk (i + 1) hdk1 hs1 rfl v2 (HA.out.below HW2.out)
          rw [show ((i + 1 : Nat) : Int) = (i : Int) + 1 by omega] at hcall
          have HSP3 := Lib.hid hs2
          have HER3 : Hid (∀ XK dk vs, er vs = ks → er (us ++ [Tr.mk t XK dk vs cc.p]) ++ r = ts) := fun XK dk vs hv => by
            rw [er_append, ← her, List.append_assoc]
            congr 1
            simp [er, hv]
          have HDR3 := Lib.hid hdk3
          have HKC := Lib.hid (HCC.out _ hkn)
          rw [hgk] at HKC
          generalize hkk : i + 1 + l1.length = k at *
          have hki : i < k := by omega
          have hpt' := Lib.hid hpt; clear hpt
          have hcall' := Lib.hid hcall; clear hcall
          clear h0 h1 hs1 hs2 her hdr hdr1 hgt hdk hdk1 hdk2 hdk3 hgk hnk hkk
          generalize cl t.k = q at *
          go_wp2_with fail
          refine HCL.out.mono ?_
          rintro e w' ⟨rfl, rfl⟩
          go_wp2_with fail
          refine hpt'.out.mono ?_
          rintro e w' ⟨rfl, rfl⟩
          go_wp2_with fail
          refine hcall'.out.mono ?_
          rintro e w3 ⟨hb3, XK, dk, vs, rfl, hown3, hvs, hdp3⟩
          have hr3 := HR2.out.below hb3 hzr
          have b0 := (hr3.cell 0).trans rfl
          have b1 := (hr3.cell 1).trans rfl
          have b2 := (hr3.cell 2).trans rfl
          have b3 := (hr3.cell 3).trans rfl
          have b4 := (hr3.cell 4).trans rfl
          have f3 := hr3.free 3
          have f4 := hr3.free 4
          have HW3 := Lib.hid (HW2.out.trans (hb3.mono HW2.out.size))
          have hkc := (HKC.out w3 HW3.out).2.2
          have HER4 := Lib.hid (HER3.out XK dk vs hvs)
          have HB3 := Lib.hid hb3
          have HO3 := Lib.hid (own_below HO2.out hb3 (Nat.le_refl _))
          have HD3 := Lib.hid (HD2.out.below hb3)
          have HR3 := Lib.hid hr3
          have HVC : Hid (vs.length ≤ dk) := own_cap_le hown3
          have HDY : Hid (SlC w3 (SepN w.heap.size (.slice X us.length d) g9) XK (tcs vs) ∧ Deep w3 (SepN w.heap.size (.slice X us.length d) g9) vs) := by
            have hs : ∀ b, v2.heap.size ≤ b → SepN w.heap.size (.slice X us.length d) g9 b := fun b hb => ⟨⟨by omega, fun e => by have := HOB.out b e.symm; omega⟩, by omega⟩
            exact ⟨SlC.of_own hown3 (fun b hb _ => hs b hb), hdp3.keep (Nat.le_refl _) (fun _ _ _ => rfl) (fun b _ h => hs b h.1)⟩
          have HV9 : Hid (Deep ((w3.setCell ⟨g9, 3, none⟩ (.slice XK vs.length dk)).setCell ⟨g9, 4, none⟩ (.int .i64 cc.p)) (Sep w.heap.size (.slice X us.length d)) (us ++ [(Tr.mk t XK dk vs cc.p)])) :=
            (((HD3.out.append (Deep.one (x := (Tr.mk t XK dk vs cc.p)) HDY.out.1 HVC.out HDY.out.2)).away 3 _).away 4 _).sep
          have hne9 : (Value.slice X us.length d).ownBlock ≠ some g9 := fun e => by have := HOB.out g9 e; omega
          have HOV := Lib.hid (own_far (own_far HO3.out hne9 3 (.slice XK vs.length dk)) hne9 4 (.int .i64 cc.p))
          have hw9 : w.heap.size ≤ g9 := hzs
          have HWV := Lib.hid ((HW3.out.setCell (p := ⟨g9, 3, none⟩) hw9 (.slice XK vs.length dk)).setCell (p := ⟨g9, 4, none⟩) hw9 (.int .i64 cc.p))
          have hgz : ((w3.setCell ⟨g9, 3, none⟩ (.slice XK vs.length dk)).setCell ⟨g9, 4, none⟩ (.int .i64 cc.p)).heap.size = w3.heap.size := by simp [World.setCell]
          have HNV : Hid (Sl (((w3.setCell ⟨g9, 3, none⟩ (.slice XK vs.length dk)).setCell ⟨g9, 4, none⟩ (.int .i64 cc.p)).alloc (.cells #[.int .u8 (t.k : Int), .string t.s, .int .i64 t.p, .slice XK vs.length dk, .int .i64 cc.p] 38)) (w3.heap.size + 1) (some ⟨w3.heap.size, 0, none⟩) [.int .u8 (t.k : Int), .string t.s, .int .i64 t.p, .slice XK vs.length dk, .int .i64 cc.p]) := by
            have h := Sl.new ((w3.setCell ⟨g9, 3, none⟩ (.slice XK vs.length dk)).setCell ⟨g9, 4, none⟩ (.int .i64 cc.p)) 38 [.int .u8 (t.k : Int), .string t.s, .int .i64 t.p, .slice XK vs.length dk, .int .i64 cc.p]
            rw [hgz] at h
            exact h
          clear hb3 hr3 hown3 hvs hdp3 HER3 HKC hpt' hcall' HCL HR2 HO2 HD2 HDY HO3 HD3 hgz hne9
          have HNW : Hid (Sl (((w3.setCell ⟨g9, 3, none⟩ (.slice XK vs.length dk)).setCell ⟨g9, 4, none⟩ (.int .i64 cc.p)).alloc (.cells #[.int .u8 (t.k : Int), .string t.s, .int .i64 t.p, .slice XK vs.length dk, .int .i64 cc.p] 38)) (w3.heap.size + 1) (some ⟨w3.heap.size, 0, none⟩) [.int .u8 (t.k : Int), .string t.s, .int .i64 t.p, .slice XK vs.length dk, .int .i64 cc.p]) := HNV.out
          have HOA : Hid ((((w3.setCell ⟨g9, 3, none⟩ (.slice XK vs.length dk)).setCell ⟨g9, 4, none⟩ (.int .i64 cc.p)).alloc (.cells #[.int .u8 (t.k : Int), .string t.s, .int .i64 t.p, .slice XK vs.length dk, .int .i64 cc.p] 38)).ownsRow w.heap.size 38 5 (.slice X us.length d) us.length (tcs us)) := own_below HOV.out ((Below.refl _ _).alloc (Nat.le_refl _) _) (Nat.le_refl _)
          have HWA : Hid (Below w.heap.size w (((w3.setCell ⟨g9, 3, none⟩ (.slice XK vs.length dk)).setCell ⟨g9, 4, none⟩ (.int .i64 cc.p)).alloc (.cells #[.int .u8 (t.k : Int), .string t.s, .int .i64 t.p, .slice XK vs.length dk, .int .i64 cc.p] 38))) := HWV.out.alloc HWV.out.size _
          have HDA : Hid (Deep (((w3.setCell ⟨g9, 3, none⟩ (.slice XK vs.length dk)).setCell ⟨g9, 4, none⟩ (.int .i64 cc.p)).alloc (.cells #[.int .u8 (t.k : Int), .string t.s, .int .i64 t.p, .slice XK vs.length dk, .int .i64 cc.p] 38)) (Sep w.heap.size (.slice X us.length d)) (us ++ [(Tr.mk t XK dk vs cc.p)])) := (Deep.below HV9.out ((Below.refl _ _).alloc (Nat.le_refl _) _))
          go_wp2_with (first | (at_builtin; refine wpList_catAt rfl _ _ 25 rfl 38 (.agg #[.int .u8 0, .string ⟨#[]⟩, .int .i64 0, .slice none 0 0, .int .i64 0]) 5 64 Try.underlying25 infoTree rfl (by decide) (by decide) w.heap.size X us.length d (tcs us) rfl HOA.out _ (some ⟨w3.heap.size, 0, none⟩) 1 1 [.int .u8 (t.k : Int), .string t.s, .int .i64 t.p, .slice XK vs.length dk, .int .i64 cc.p] rfl rfl (by decide) HNW.out (by simp [Value.oneCell']) (by omega) HWA.out.size ?_))
          intro X4 d4 w4 hown4 hb4 hg4 hat4
          have HO4 : Hid (w4.ownsRow w.heap.size 38 5 (.slice X4 (us ++ [(Tr.mk t XK dk vs cc.p)]).length d4) (us ++ [(Tr.mk t XK dk vs cc.p)]).length (tcs (us ++ [(Tr.mk t XK dk vs cc.p)]))) := by
            rw [tcs_append, tcs_one, List.length_append]
            exact hown4
          have HD4 : Hid (Deep w4 (Sep w.heap.size (.slice X4 (us ++ [(Tr.mk t XK dk vs cc.p)]).length d4)) (us ++ [(Tr.mk t XK dk vs cc.p)])) := by
            have hz : (((w3.setCell ⟨g9, 3, none⟩ (.slice XK vs.length dk)).setCell ⟨g9, 4, none⟩ (.int .i64 cc.p)).alloc (.cells #[.int .u8 (t.k : Int), .string t.s, .int .i64 t.p, .slice XK vs.length dk, .int .i64 cc.p] 38)).heap.size = w3.heap.size + 1 := by simp [World.setCell]
            refine HDA.out.grown hg4 ?_
            rw [List.length_append, List.length_singleton, hz]
            exact hat4
          have HW4 := Lib.hid (HWA.out.trans hb4)
          clear hown4 hb4 hg4 hat4 HNW HOA HWA HDA
          go_wp2
          go_roundw
          case rel => exact ⟨k + 1, us ++ [(Tr.mk t XK dk vs cc.p)], l2, r, X4, d4, by rw [List.length_append, List.length_singleton], by go_num, by omega, HO4, HD4, HSP3, HER4, HDR3, HW4⟩
          case measure => simp [intOf]; omega

/-- What a Read of trees hands back. -/
def Rt (B : Nat) (R : Except Int (List Tr)) (e : Ending) (w w' : World) : Prop := Below B w w' ∧
  match R with
  | .ok ts => ∃ X d us, e = .returned (.tuple #[.slice X us.length d, .agg #[.int .i64 0, .int .i64 0]]) ∧ er us = ts ∧ us.length ≤ d ∧ Trs w' w'.heap.size X us
  | .error p => e = .returned (.tuple #[.slice none 0 0, .agg #[.int .i64 2, .int .i64 p]])
end Go.Proofs.Ytnaaejemanmgnaa
