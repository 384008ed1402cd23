/-
  What Covers of package relate returns. Conditions: 64 words below 2^64; the sort sorts rows of that length; the table of math/bits in memory.
-/
import Derived.Test.YtojbmahapomoeaaDoorRelI
namespace Go.Proofs.YtojbmahapomoeaaDoor
open Go.RowKit RM

theorem infoPair : (Tryd.prog.info? 31).map (fun i => (i.zero, i.size, i.bytes)) = some (some (.agg #[.int .i64 0, .int .i64 0]), 2, 16) := by kernel_rfl
/-- A slice of pairs of the call's own. -/
def OwnP (w : World) (B : Nat) (A : Option Addr) (c : Nat) (xs : List (Int × Int)) : Prop := w.ownsRow B 31 2 (.slice A xs.length c) xs.length (pcells xs)
theorem OwnP.prs {w : World} {B c : Nat} {A : Option Addr} {xs : List (Int × Int)} (h : OwnP w B A c xs) : Prs w A xs := Sl.of_own h
theorem two_cells (w : World) (x y : Value) (e : TypeId) : ∀ j u, [x, y][j]? = some u → (w.alloc (.cells #[x, y] e)).cell? ⟨w.heap.size, j, none⟩ = some u := by
  intro j u hu
  rw [cell_of_row _ w.heap.size j _ e (0, 0) (heap_alloc_new w _)]
  simpa using hu
theorem RowsAt.grown {w w' : World} {g : Nat} {l : List Nat} {row : Option Nat} (h : RowsAt w g l) (hb : w.grownBy w' row) (hg : row ≠ some g) : RowsAt w' g l := (hb.block g h.lt (fun e => hg e.symm)).trans h
theorem own_block {w : World} {base size n g : Nat} {e t : TypeId} {x : Value} {cs : List Value} {cur : Array Value} (h : w.ownsRow base e size x n cs) (hb : w.heap[g]? = some (.cells cur t (0, 0))) (he : e ≠ t) : x.ownBlock ≠ some g := by
  rcases h.2 with ⟨rfl, _⟩ | ⟨g', cap, cur', rfl, _, hh, _⟩
  · simp [Value.ownBlock]
  · intro hx
    have hx' : g' = g := by simpa [Value.ownBlock] using hx
    subst hx'
    rw [hh] at hb
    simp only [Option.some.injEq, Obj.cells.injEq] at hb
    exact he hb.2.1
/-- What stands while the covers of point i are collected. -/
def Cov (B g gi gr : Nat) (L : List Nat) (i : Nat) (w : World) (xs : List (Int × Int)) (W : World) : Prop :=
  ∃ A c, Box W g 28 (.slice A xs.length c) ∧ OwnP W B A c xs ∧ Box W gi 3 (.int .i64 (i : Int)) ∧ RowsAt W gr L ∧ Below B w W
set_option maxHeartbeats 800000 in
theorem cov_any (B g gi gr : Nat) (L : List Nat) (i j : Nat) (w : World) (xs : List (Int × Int)) (W : World) (hxs : xs.length ≤ 4294967296) (hg : B ≤ g) (h : Cov B g gi gr L i w xs W) :
    Calls Tryd.prog 20 #[.int .i64 (j : Int), .pointer (some ⟨g, 0, none⟩), .pointer (some ⟨gi, 0, none⟩)] W fun e W' => e = .returned (.bool true) ∧ Cov B g gi gr L i w (xs ++ [((i : Int), (j : Int))]) W' := by
  obtain ⟨A, c, hbox, hown, hbi, hrow, hb⟩ := h
  have hcell := hbox.cell
  have hfree := hbox.free
  have hci := hbi.cell
  have hBs : B ≤ W.heap.size := by have := hbox.lt; omega
  have hgi : g ≠ gi := by
    intro e
    subst e
    have h1 : W.heap[g]? = some (.cells #[.slice A xs.length c] 28 (0, 0)) := hbox
    have h2 : W.heap[g]? = some (.cells #[.int .i64 (i : Int)] 3 (0, 0)) := hbi
    rw [h1] at h2
    simp at h2
  have hgr : g ≠ gr := by
    intro e
    subst e
    have h1 : W.heap[g]? = some (.cells #[.slice A xs.length c] 28 (0, 0)) := hbox
    have h2 : W.heap[g]? = some (.cells (uv L) 23 (0, 0)) := hrow
    rw [h1] at h2
    simp at h2
  generalize hn : xs.length = m at *
  have HN := Lib.hid hn; clear hn
  have hown' : W.ownsRow B 31 2 (.slice A m c) m (pcells xs) := by
    have h4 := hown
    unfold OwnP at h4
    rw [HN.out] at h4
    exact h4
  clear hown
  have HNE := Lib.hid (own_ne hown' hbox (by decide))
  have HNI := Lib.hid (own_ne hown' hbi (by decide))
  have HNR := Lib.hid (own_block hown' hrow (by decide))
  have HGI := Lib.hid hgi; clear hgi
  have HGR := Lib.hid hgr; clear hgr
  have HBX := Lib.hid hbox; clear hbox
  have HBI := Lib.hid hbi; clear hbi
  have HRW := Lib.hid hrow; clear hrow
  go_enter Tryd.func20, Tryd.ntmps20
  go_wp2_with (at_builtin; refine wpList_more _ rfl _ _ 28 rfl 31 (.agg #[.int .i64 0, .int .i64 0]) 2 16 Tryd.underlying28 infoPair rfl (by decide) (by decide) B A m c (pcells xs) rfl (hown'.alloc _) W.heap.size 1 1 [.int .i64 (i : Int), .int .i64 (j : Int)] rfl rfl (by decide) (two_cells _ _ _ _) ?c1 ?c2 ?c3 ?_; (case c1 => simp [Value.oneCell']); (case c2 => omega); (case c3 => simp; omega); intro A2 c2 w2 hown2 hb2 hg2; have hbox2 := (HBX.out.alloc (.cells #[.int .i64 (i : Int), .int .i64 (j : Int)] 31)).grown hg2 HNE.out; have hcell2 := hbox2.cell; have hfree2 := hbox2.free; have HB2 := Lib.hid hb2; have HG2 := Lib.hid hg2; have HO2 := Lib.hid hown2; clear hb2 hg2 hown2)
  go_ret
  have hbi2 := (HBI.out.alloc (.cells #[.int .i64 (i : Int), .int .i64 (j : Int)] 31)).grown HG2.out HNI.out
  have hrw2 := (HRW.out.alloc (.cells #[.int .i64 (i : Int), .int .i64 (j : Int)] 31)).grown HG2.out HNR.out
  refine ⟨rfl, A2, c2, ?_, ?_, ?_, ?_, ?_⟩
  · have := hbox2.put (.slice A2 (m + 1) c2)
    rw [List.length_append, HN.out]
    exact this
  · unfold OwnP
    rw [pcells_append, List.length_append, HN.out]
    exact own_put HO2.out hbox2 (by decide) _
  · exact hbi2.far (p := ⟨g, 0, none⟩) HGI.out _
  · exact hrw2.far (p := ⟨g, 0, none⟩) HGR.out _
  · exact ((hb.alloc hBs _).trans HB2.out).setCell hg _

/-- What covers point i: its row without what is above another point of the row. -/
def cvRow (L : List Nat) (i : Nat) : Nat := L.getD i 0 &&& (18446744073709551615 - abv L (L.getD i 0))
theorem cvRow_lt {L : List Nat} (h : RW L) (i : Nat) : cvRow L i < 18446744073709551616 := Nat.lt_of_le_of_lt Nat.and_le_left (h.lt i)
def cvp (i : Nat) (xs : List Nat) : List (Int × Int) := xs.map fun j : Nat => ((i : Int), (j : Int))
/-- The covers of the first k points. -/
def cvs (L : List Nat) : Nat → List (Int × Int)
  | 0 => []
  | k + 1 => cvs L k ++ cvp k (MM.els (cvRow L k))
theorem cvs_length (L : List Nat) : ∀ k, (cvs L k).length ≤ 64 * k
  | 0 => by simp [cvs]
  | k + 1 => by
    have h1 := cvs_length L k
    have h2 := MM.els_length (cvRow L k)
    simp only [cvs, cvp, List.length_append, List.length_map]
    omega
theorem cvp_take (i j : Nat) (xs : List Nat) (h : j < xs.length) : cvp i (xs.take (j + 1)) = cvp i (xs.take j) ++ [((i : Int), ((xs.getD j 0 : Nat) : Int))] := by
  unfold cvp
  rw [List.take_succ_eq_append_getElem h, List.map_append, List.getD_eq_getElem?_getD, List.getElem?_eq_getElem h]; rfl
/-- The covers as the program gives them. -/
def cvL (n : Int) (l : List Nat) : List (Int × Int) := if ordR n l then cvs (strL (cl n l)) 64 else []
theorem cov_each (B g gi gr : Nat) (L : List Nat) (hL : RW L) (k : Nat) (hk : k ≤ 64) (w W0 : World) (hg : B ≤ g) (hB : w.heap.size = B) (hT : Tab w) (h0 : Cov B g gi gr L k w (cvs L k) W0) :
    Calls Tryd.prog 18 #[.int .u64 ((cvRow L k : Nat) : Int), .func (.func 20) #[] #[.pointer (some ⟨g, 0, none⟩), .pointer (some ⟨gi, 0, none⟩)]] W0 fun e w' => e = .returned (.tuple #[]) ∧ Cov B g gi gr L k w (cvs L (k + 1)) w' := by
  have h64 := MM.els_length (cvRow L k)
  have hcl := cvs_length L k
  refine each_any (cvRow L k) (cvRow_lt hL k) 20 #[.pointer (some ⟨g, 0, none⟩), .pointer (some ⟨gi, 0, none⟩)] W0 (fun _ _ => by kernel_rfl)
    (fun j W => Cov B g gi gr L k w (cvs L k ++ cvp k ((MM.els (cvRow L k)).take j)) W) (Cov B g gi gr L k w (cvs L (k + 1))) ?_ ?_ ?_ ?_
  · rintro j W ⟨_, _, _, _, _, _, hb⟩
    exact hT.below (hB ▸ hb)
  · simpa [cvp] using h0
  · intro W h
    rw [List.take_length] at h
    exact h
  · intro j W hj h
    refine (cov_any B g gi gr L k _ w _ W (by rw [List.length_append]; simp only [cvp, List.length_map, List.length_take]; omega) hg h).mono ?_
    rintro e W' ⟨rfl, hC⟩
    refine .inl ⟨rfl, ?_⟩
    rw [cvp_take k j _ hj, ← List.append_assoc]
    exact hC
set_option maxHeartbeats 1000000 in
theorem rcovers_no (k : Nat) (hS : SortTo k) (n : Int) (l : List Nat) (hl : RW l) (hk : pts n ≤ k) (ho : ordR n l = false) (w : World) :
    Calls Tryd.prog 5 #[.agg (rv n l)] w fun e w' => ∃ A c, e = .returned (.slice A (cvL n l).length c) ∧ OwnP w' w.heap.size A c (cvL n l) ∧ Below w.heap.size w w' := by
  have hcv : cvL n l = [] := by unfold cvL; rw [ho]; rfl
  rw [hcv]
  have hor := rorder_any k hS n l hl hk
  rw [ho] at hor
  have HOR := Lib.hid hor; clear hor hcv
  go_enter Tryd.func5, Tryd.ntmps5
  go_wp2_with (refine wpList_loadRel rfl _ rfl w.heap.size rfl n l hl (RelAt.new _ _ _) ?_)
  refine (HOR.out _).mono ?_
  rintro e w1 ⟨rfl, hb1⟩
  have hb : Below w.heap.size w w1 := ((Below.refl _ _).alloc (Nat.le_refl _) _).trans (hb1.mono (by simp))
  have HB := Lib.hid hb; clear hb hb1
  go_wp2_with fail
  go_ret
  exact ⟨none, 0, rfl, World.ownsRow_nil _ _ _ _, HB.out⟩
set_option maxHeartbeats 1000000 in
theorem rcovers_yes (k : Nat) (hS : SortTo k) (n : Int) (l : List Nat) (hl : RW l) (hk : pts n ≤ k) (ho : ordR n l = true) (w : World) (hT : Tab w) :
    Calls Tryd.prog 5 #[.agg (rv n l)] w fun e w' => ∃ A c, e = .returned (.slice A (cvL n l).length c) ∧ OwnP w' w.heap.size A c (cvL n l) ∧ Below w.heap.size w w' := by
  have hcv : cvL n l = cvs (strL (cl n l)) 64 := by unfold cvL; rw [ho]; rfl
  rw [hcv]
  have hL : RW (strL (cl n l)) := RW.strL (RW.mk _ _)
  have hor := rorder_any k hS n l hl hk
  rw [ho] at hor
  have HOR := Lib.hid hor; clear hor hcv
  have hst := rstrict_any n l hl
  have HST := Lib.hid hst; clear hst
  have HT := Lib.hid hT; clear hT
  have hmf : ∀ (fn : Fn) (first cap : Array Value) (w : World), (Instr.makeFunc fn first cap).run Tryd.prog w = .ok (.func fn first cap) w := fun _ _ _ _ => rfl
  generalize strL (cl n l) = L at *
  go_enter Tryd.func5, Tryd.ntmps5
  go_wp2_with (refine wpList_loadRel rfl _ rfl w.heap.size rfl n l hl (RelAt.new _ _ _) ?_)
  refine (HOR.out _).mono ?_
  rintro e w1 ⟨rfl, hb1⟩
  have r1 := (RelAt.new w n l).below hb1 (by simp)
  have hb : Below w.heap.size w w1 := ((Below.refl _ _).alloc (Nat.le_refl _) _).trans (hb1.mono (by simp))
  have HB1 := Lib.hid hb; clear hb hb1
  go_wp2_with (refine wpList_loadRel rfl _ rfl w.heap.size rfl n l hl r1 ?_)
  refine (HST.out _).mono ?_
  rintro e w2 ⟨rfl, hb2⟩
  have hs2 : w.heap.size < w2.heap.size := Nat.lt_of_lt_of_le r1.lt hb2.size
  have HB2 := Lib.hid (HB1.out.trans (hb2.mono HB1.out.size)); clear hb2 HB1 r1
  go_wp2_with (first | (refine wpList_storeRows rfl _ _ rfl w2.heap.size rfl L rfl zs RW.zs hL ?c2 ?_; (case c2 => exact heap_alloc_new w2 _); intro w3 hr3 he; have hs3 : w2.heap.size < w3.heap.size := hr3.lt; have HB3 := Lib.hid ((HB2.out.alloc (Nat.le_of_lt hs2) _).trans (he.below (Nat.le_of_lt hs2))); clear he) | (refine wpList_loadRows rfl _ rfl w2.heap.size rfl L hL (hr3.alloc _) ?_))
  have hr4 : RowsAt (w3.alloc (.cells #[.slice none 0 0] 28)) w2.heap.size L := hr3.alloc _
  have hbx : Box (w3.alloc (.cells #[.slice none 0 0] 28)) w3.heap.size 28 (.slice none 0 0) := Box.new _ _ _
  have hs4 : w.heap.size ≤ w3.heap.size := by omega
  have HB4 := Lib.hid (HB3.out.alloc hs4 (.cells #[.slice none 0 0] 28))
  generalize w2.heap.size = gr at *
  generalize w3.heap.size = g at *
  clear hr3 HB2 HB3 hs2 hs3
  go_loopw [5, 6, 13] (fun _ _ kv wr => ∃ (k : Nat) (A : Option Addr) (m c : Nat), k ≤ 64 ∧ kv = .int .i64 k ∧ Box wr g 28 (.slice A m c) ∧ Hid (m = (cvs L k).length) ∧ Hid (OwnP wr w.heap.size A c (cvs L k)) ∧ RowsAt wr gr L ∧ Hid (Below w.heap.size w wr)) (fun _ _ kv _ => 64 - (intOf kv).toNat)
  case atStart => exact ⟨0, none, 0, 0, by omega, rfl, hbx, rfl, World.ownsRow_nil _ _ _ _, hr4, HB4⟩
  case round =>
    obtain ⟨k, A, m, c, hk, rfl, hbx, HM, HO, hr, HB⟩ := hrel
    by_cases hlt : k < 64
    · have hidx := fun w => run_index hL k hlt w
      have hx := hL.lt k
      have hrn := hr.alloc (.cells #[.int .i64 (k : Int)] 3)
      have hgl := hbx.lt
      have hrl := hr.lt
      have hab := fun w h => rabove_any L hL (L.getD k 0) hx w h
      have e1 : bits BinOp.andNot IntKind.u64 ((L.getD k 0 : Nat) : Int) ((abv L (L.getD k 0) : Nat) : Int) = ((cvRow L k : Nat) : Int) := u64_andNot_nat _ _ hx (abv_lt hL _)
      have HAB := Lib.hid hab; clear hab
      have hcv := fun gi W h => cov_each w.heap.size g gi gr L hL k hk w W hs4 rfl HT.out h
      have HCV := Lib.hid hcv; clear hcv
      generalize abv L (L.getD k 0) = y at *
      generalize hq : cvRow L k = q at *
      generalize L.getD k 0 = x at *
      clear hq
      go_wp2_with (refine wpList_loadRows rfl _ rfl gr rfl L hL hrn ?_)
      have hbn : Below w.heap.size w (wr.alloc (.cells #[.int .i64 (k : Int)] 3)) := HB.out.alloc HB.out.size _
      refine (HAB.out _ (HT.out.below hbn)).mono ?_
      rintro e w5 ⟨rfl, hb5⟩
      have hbx5 := (hbx.alloc (.cells #[.int .i64 (k : Int)] 3)).below hb5 (by simp; omega)
      have hr5 := hrn.below hb5 hrn.lt
      have hi5 := (Box.new wr 3 (.int .i64 (k : Int))).below hb5 (by simp)
      have HB5 := Lib.hid (hbn.trans (hb5.mono hbn.size))
      have HO5 : Hid (OwnP w5 w.heap.size A c (cvs L k)) := own_below (HO.out.alloc _) hb5 (Nat.le_refl _)
      clear hb5 hbn
      go_wp2_with fail
      rw [HM.out] at hbx5
      refine (HCV.out wr.heap.size _ ⟨A, c, hbx5, HO5.out, hi5, hr5, HB5.out⟩).mono ?_
      rintro e w6 ⟨rfl, A6, c6, b6, o6, _, r6, hb6⟩
      have HO6 := Lib.hid o6; clear o6
      have HB6 := Lib.hid hb6; clear hb6
      clear hbx5 hr5 hi5 HO5 HB5 HM HO HB hr hrn hbx
      go_wp2_with fail
      go_roundw
      case rel => exact ⟨k + 1, A6, _, c6, by omega, by go_num, b6, rfl, HO6, r6, HB6⟩
      case measure => simp [intOf]; omega
    · have e : k = 64 := by omega
      subst e
      have hc := hbx.cell
      go_wp2_with fail
      go_ret
      exact ⟨A, c, ret_eq (by rw [← HM.out]; rfl), HO.out, HB.out⟩
theorem rcovers_any (k : Nat) (hS : SortTo k) (n : Int) (l : List Nat) (hl : RW l) (hk : pts n ≤ k) (w : World) (hT : Tab w) :
    Calls Tryd.prog 5 #[.agg (rv n l)] w fun e w' => ∃ A c, e = .returned (.slice A (cvL n l).length c) ∧ OwnP w' w.heap.size A c (cvL n l) ∧ Below w.heap.size w w' := by
  cases ho : ordR n l with
  | false => exact rcovers_no k hS n l hl hk ho w
  | true => exact rcovers_yes k hS n l hl hk ho w hT
end Go.Proofs.YtojbmahapomoeaaDoor
