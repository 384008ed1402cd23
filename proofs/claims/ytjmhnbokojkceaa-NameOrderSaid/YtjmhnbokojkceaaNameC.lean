/-
  What the functions of package name return on lists, and the document's answers. Conditions: lists below 2^32 strings.
-/
import Derived.Test.YtjmhnbokojkceaaNameB
namespace Go.Proofs.Ytjmhnbokojkceaa
open Go.RowKit

/-- The cells of a list of strings. -/
def scells (xs : List ByteArray) : List Value := xs.map Value.string
/-- A slice that reads as this list. -/
def Strs (w : World) (A : Option Addr) (xs : List ByteArray) : Prop := Sl w w.heap.size A (scells xs)
theorem Strs.below {w w' : World} {A : Option Addr} {xs : List ByteArray} (h : Strs w A xs) (hb : Below w.heap.size w w') : Strs w' A xs := (Sl.below h hb).mono hb.size
theorem Strs.dr {w w' : World} {A : Option Addr} {xs : List ByteArray} (h : Strs w A xs) (hb : Dr w w') : Strs w' A xs := h.below hb.below
theorem Strs.at {w : World} {A : Option Addr} {xs : List ByteArray} (h : Strs w A xs) {k : Nat} (hk : k < xs.length) :
    ∃ b o, A = some ⟨b, o, none⟩ ∧ ∀ j, j < xs.length → w.cell? ⟨b, o + j, none⟩ = some (.string (xs.getD j ⟨#[]⟩)) := by
  obtain ⟨b, o, hA, _, hc⟩ := h (by unfold scells; intro e; rw [List.map_eq_nil_iff] at e; subst e; simp at hk)
  refine ⟨b, o, hA, fun j hj => hc j _ ?_⟩
  unfold scells
  rw [List.getElem?_map, List.getD_eq_getElem?_getD, List.getElem?_eq_getElem hj]
  rfl
/-- The first place of a string in a list. -/
def idx (xs : List ByteArray) (s : ByteArray) : Int := NM.fst (fun j => decide (xs.getD j ⟨#[]⟩ = s)) xs.length

set_option maxHeartbeats 400000 in
theorem refFind_any (A : Option Addr) (c : Nat) (xs : List ByteArray) (s : ByteArray) (w : World) (hl : xs.length ≤ 4294967296) (hA : Strs w A xs) :
    Calls Try.prog 14 #[.slice A xs.length c, .string s] w fun e w' => e = .returned (.int .i64 (idx xs s)) ∧ w = w' := by
  have HA := Lib.hid hA; clear hA
  have HIT := Lib.hid (fun k => @NM.fst_hit (fun j => decide (xs.getD j ⟨#[]⟩ = s)) xs.length k)
  have MISS := Lib.hid (@NM.fst_miss (fun j => decide (xs.getD j ⟨#[]⟩ = s)) xs.length)
  have hidx : idx xs s = NM.fst (fun j => decide (xs.getD j ⟨#[]⟩ = s)) xs.length := rfl
  generalize idx xs s = r at *
  have HR := Lib.hid hidx; clear hidx
  generalize hn : xs.length = n at *
  have HN := Lib.hid hn; clear hn
  go_enter Try.func14, Try.ntmps14
  go_wp2
  go_loop [5] (fun iv => ∃ i : Nat, i ≤ n ∧ iv = .int .i64 i ∧ Hid (∀ j, j < i → decide (xs.getD j ⟨#[]⟩ = s) = false)) (fun iv => n - (intOf iv).toNat)
  case atStart => exact ⟨0, by omega, rfl, fun j hj => by omega⟩
  case round =>
    obtain ⟨i, hi, rfl, HF⟩ := hrel
    by_cases hlt : i < n
    · obtain ⟨b, o, rfl, hc⟩ := HA.out.at (k := i) (by rw [HN.out]; exact hlt)
      have hci := hc i (by rw [HN.out]; exact hlt)
      clear hc
      have heq := NM.str_eq (xs.getD i ⟨#[]⟩) s
      generalize hx : xs.getD i ⟨#[]⟩ = x at *
      have HX := Lib.hid hx; clear hx
      cases hd : decide (x = s)
      · rw [hd] at heq
        go_wp2
        go_round
        case rel =>
          refine ⟨i + 1, by omega, by go_num, ?_⟩
          show ∀ j, j < i + 1 → decide (xs.getD j ⟨#[]⟩ = s) = false
          intro j hj
          by_cases hji : j = i
          · rw [hji, HX.out]; exact hd
          · exact HF.out j (by omega)
        case measure => simp [intOf]; omega
      · rw [hd] at heq
        have HD := Lib.hid hd; clear hd
        go_wp2
        go_ret
        exact ⟨ret_eq (int_eq (by rw [HR.out]; exact (HIT.out i hlt (by rw [HX.out]; exact HD.out) HF.out).symm)), rfl⟩
    · obtain rfl : i = n := by omega
      go_wp2
      go_ret
      exact ⟨ret_eq (int_eq (by rw [HR.out]; exact (MISS.out HF.out).symm)), rfl⟩

set_option maxHeartbeats 400000 in
/-- The condition of Find. -/
theorem find1_any (A : Option Addr) (c : Nat) (xs : List ByteArray) (s : ByteArray) (g gs : Nat) (w : World) (hA : Strs w A xs)
    (hg : w.cell? ⟨g, 0, none⟩ = some (.slice A xs.length c)) (hgs : w.cell? ⟨gs, 0, none⟩ = some (.string s)) (j : Nat) (hj : j < xs.length) :
    Calls Try.prog 28 #[.int .i64 j, .pointer (some ⟨g, 0, none⟩), .pointer (some ⟨gs, 0, none⟩)] w fun e w' => e = .returned (.bool (decide (xs.getD j ⟨#[]⟩ = s))) ∧ Dr w w' := by
  obtain ⟨b, o, rfl, hc⟩ := hA.at hj
  have hci := hc j hj
  clear hc hA
  rw [← NM.str_eq]
  generalize xs.getD j ⟨#[]⟩ = x at *
  generalize xs.length = n at *
  go_enter Try.func28, Try.ntmps28
  go_wp2
  go_quiet (fail)
  go_wp2
  go_ret
  exact ⟨rfl, (Dr.refl w).more _⟩
theorem find_any (A : Option Addr) (c : Nat) (xs : List ByteArray) (s : ByteArray) (w : World) (hl : xs.length ≤ 4294967296) (hA : Strs w A xs) :
    Calls Try.prog 13 #[.slice A xs.length c, .string s] w fun e w' => e = .returned (.int .i64 (idx xs s)) ∧ Below w.heap.size w w' := by
  have HB : Hid (Below w.heap.size w ((w.alloc (.cells #[.slice A xs.length c] 23)).alloc (.cells #[.string s] 9))) :=
    ((Below.refl _ _).alloc (Nat.le_refl _) _).alloc (by simp) _
  have hcall := first_dr xs.length (fun j => decide (xs.getD j ⟨#[]⟩ = s)) 28 #[.pointer (some ⟨w.heap.size, 0, none⟩), .pointer (some ⟨w.heap.size + 1, 0, none⟩)] ((w.alloc (.cells #[.slice A xs.length c] 23)).alloc (.cells #[.string s] 9)) hl (fun _ _ => by kernel_rfl) (fun j m hj _ =>
    find1_any A c xs s w.heap.size (w.heap.size + 1) (((w.alloc (.cells #[.slice A xs.length c] 23)).alloc (.cells #[.string s] 9)).drewN m)
      ((hA.below HB.out).dr ⟨m, rfl⟩) ((Box.new w _ _).alloc _).cell (by have h := (Box.new (w.alloc (.cells #[.slice A xs.length c] 23)) 9 (.string s)).cell; rw [show (w.alloc (.cells #[.slice A xs.length c] 23)).heap.size = w.heap.size + 1 by simp] at h; exact h) j hj)
  have HC := Lib.hid hcall; clear hcall
  have hmf : ∀ (fn : Fn) (first cap : Array Value) (w : World), (Instr.makeFunc fn first cap).run Try.prog w = .ok (.func fn first cap) w := fun _ _ _ _ => rfl
  clear hA
  have HI : Hid (idx xs s = NM.fst (fun j => decide (xs.getD j ⟨#[]⟩ = s)) xs.length) := rfl
  generalize xs.length = n at *
  go_enter Try.func13, Try.ntmps13
  go_wp2_with fail
  refine HC.out.mono ?_
  rintro e w' ⟨rfl, hd⟩
  have HD := Lib.hid hd; clear hd
  rw [← HI.out]
  go_wp2
  go_ret
  exact ⟨rfl, HB.out.trans (HD.out.below.mono HB.out.size)⟩

/-- Are two lists one? -/
def diff (xs ys : List ByteArray) (j : Nat) : Bool := !decide (xs.getD j ⟨#[]⟩ = ys.getD j ⟨#[]⟩)
def same (xs ys : List ByteArray) : Bool := decide (xs = ys)
theorem same_len {xs ys : List ByteArray} (h : xs.length ≠ ys.length) : same xs ys = false := by
  unfold same
  rw [decide_eq_false_iff_not]; intro e; rw [e] at h; exact h rfl
theorem same_fst {xs ys : List ByteArray} (h : xs.length = ys.length) : decide (NM.fst (diff xs ys) xs.length < 0) = same xs ys := by
  rw [NM.fst_neg]
  unfold same
  rw [decide_eq_decide]
  constructor
  · intro H
    refine List.ext_getElem h fun i h1 h2 => ?_
    have := H i h1
    unfold diff at this
    simp only [List.getD_eq_getElem?_getD, List.getElem?_eq_getElem h1, List.getElem?_eq_getElem h2, Option.getD_some, Bool.not_eq_false', decide_eq_true_eq] at this
    exact this
  · rintro rfl j hj
    unfold diff
    simp
set_option maxHeartbeats 400000 in
/-- The condition of Same. -/
theorem same1_any (A B : Option Addr) (c cb : Nat) (xs ys : List ByteArray) (g gb : Nat) (w : World) (he : xs.length = ys.length) (hA : Strs w A xs) (hB : Strs w B ys)
    (hg : w.cell? ⟨g, 0, none⟩ = some (.slice A xs.length c)) (hgb : w.cell? ⟨gb, 0, none⟩ = some (.slice B ys.length cb)) (j : Nat) (hj : j < xs.length) :
    Calls Try.prog 30 #[.int .i64 j, .pointer (some ⟨g, 0, none⟩), .pointer (some ⟨gb, 0, none⟩)] w fun e w' => e = .returned (.bool (diff xs ys j)) ∧ Dr w w' := by
  obtain ⟨b, o, rfl, hc⟩ := hA.at hj
  obtain ⟨b2, o2, rfl, hc2⟩ := hB.at (show j < ys.length by omega)
  have hci := hc j hj
  have hci2 := hc2 j (by omega)
  clear hc hA hc2 hB
  unfold diff
  rw [← NM.str_eq]
  rw [← he] at hgb
  generalize xs.getD j ⟨#[]⟩ = x at *
  generalize ys.getD j ⟨#[]⟩ = y at *
  clear he
  generalize xs.length = n at *
  go_enter Try.func30, Try.ntmps30
  go_wp2
  go_quiet (fail)
  go_wp2
  go_ret
  exact ⟨rfl, (Dr.refl w).more _⟩
theorem same_any (A B : Option Addr) (c cb : Nat) (xs ys : List ByteArray) (w : World) (hl : xs.length ≤ 4294967296) (hA : Strs w A xs) (hB : Strs w B ys) :
    Calls Try.prog 17 #[.slice A xs.length c, .slice B ys.length cb] w fun e w' => e = .returned (.bool (same xs ys)) ∧ Below w.heap.size w w' := by
  have HB : Hid (Below w.heap.size w ((w.alloc (.cells #[.slice A xs.length c] 23)).alloc (.cells #[.slice B ys.length cb] 23))) :=
    ((Below.refl _ _).alloc (Nat.le_refl _) _).alloc (by simp) _
  by_cases he : xs.length = ys.length
  · have hcall := first_dr xs.length (diff xs ys) 30 #[.pointer (some ⟨w.heap.size, 0, none⟩), .pointer (some ⟨w.heap.size + 1, 0, none⟩)] ((w.alloc (.cells #[.slice A xs.length c] 23)).alloc (.cells #[.slice B ys.length cb] 23)) hl (fun _ _ => by kernel_rfl) (fun j m hj _ =>
      same1_any A B c cb xs ys w.heap.size (w.heap.size + 1) (((w.alloc (.cells #[.slice A xs.length c] 23)).alloc (.cells #[.slice B ys.length cb] 23)).drewN m) he
        ((hA.below HB.out).dr ⟨m, rfl⟩) ((hB.below HB.out).dr ⟨m, rfl⟩) ((Box.new w _ _).alloc _).cell (by have h := (Box.new (w.alloc (.cells #[.slice A xs.length c] 23)) 23 (.slice B ys.length cb)).cell; rw [show (w.alloc (.cells #[.slice A xs.length c] 23)).heap.size = w.heap.size + 1 by simp] at h; exact h) j hj)
    have HC := Lib.hid hcall; clear hcall
    have hmf : ∀ (fn : Fn) (first cap : Array Value) (w : World), (Instr.makeFunc fn first cap).run Try.prog w = .ok (.func fn first cap) w := fun _ _ _ _ => rfl
    clear hA hB
    have HI := Lib.hid (same_fst he)
    rw [← he] at HC HB ⊢
    clear he
    generalize xs.length = n at *
    go_enter Try.func17, Try.ntmps17
    go_wp2_with fail
    refine HC.out.mono ?_
    rintro e w' ⟨rfl, hd⟩
    have HD := Lib.hid hd; clear hd
    go_wp2
    go_ret
    refine ⟨ret_eq (bool_eq HI.out), HB.out.trans (HD.out.below.mono HB.out.size)⟩
  · have hs := same_len he
    rw [hs]
    have hne : ((xs.length : Int) != (ys.length : Int)) = true := by simp; omega
    clear hs he hA hB
    generalize xs.length = n at *
    generalize ys.length = m at *
    go_enter Try.func17, Try.ntmps17
    go_wp2
    go_ret
    exact ⟨rfl, HB.out⟩
set_option maxHeartbeats 400000 in
theorem refSame_any (A B : Option Addr) (c cb : Nat) (xs ys : List ByteArray) (w : World) (hl : xs.length ≤ 4294967296) (hA : Strs w A xs) (hB : Strs w B ys) :
    Calls Try.prog 18 #[.slice A xs.length c, .slice B ys.length cb] w fun e w' => e = .returned (.bool (same xs ys)) ∧ Dr w w' := by
  have HA := Lib.hid hA; clear hA
  have HB := Lib.hid hB; clear hB
  by_cases he : xs.length = ys.length
  · rw [← same_fst he]
    have HLY := Lib.hid he.symm
    rw [← he]
    clear he
    have HIT := Lib.hid (fun k => @NM.fst_hit (diff xs ys) xs.length k)
    have MISS := Lib.hid (@NM.fst_miss (diff xs ys) xs.length)
    have HD0 : Hid (diff xs ys = diff xs ys) := rfl
    generalize hr : decide (NM.fst (diff xs ys) xs.length < 0) = r at *
    have HR := Lib.hid hr; clear hr
    generalize hn : xs.length = n at *
    have HN := Lib.hid hn; clear hn
    go_enter Try.func18, Try.ntmps18
    go_wp2
    go_loopw [5] (fun iv wr => ∃ i : Nat, i ≤ n ∧ iv = .int .i64 i ∧ Hid (∀ j, j < i → diff xs ys j = false) ∧ Dr w wr) (fun iv _ => n - (intOf iv).toNat)
    case atStart => exact ⟨0, by omega, rfl, fun j hj => by omega, Dr.refl _⟩
    case round =>
      obtain ⟨i, hi, rfl, HF, hd⟩ := hrel
      by_cases hlt : i < n
      · obtain ⟨b, o, rfl, hc⟩ := (HA.out.dr hd).at (k := i) (by rw [HN.out]; exact hlt)
        obtain ⟨b2, o2, rfl, hc2⟩ := (HB.out.dr hd).at (k := i) (by rw [HLY.out]; exact hlt)
        have hci := hc i (by rw [HN.out]; exact hlt)
        have hci2 := hc2 i (by rw [HLY.out]; exact hlt)
        clear hc hc2
        have heq := NM.str_eq (xs.getD i ⟨#[]⟩) (ys.getD i ⟨#[]⟩)
        have hdi : diff xs ys i = !decide (xs.getD i ⟨#[]⟩ = ys.getD i ⟨#[]⟩) := rfl
        have HDI := Lib.hid hdi; clear hdi
        generalize xs.getD i ⟨#[]⟩ = x at *
        generalize ys.getD i ⟨#[]⟩ = y at *
        cases hdx : decide (x = y)
        · rw [hdx] at heq HDI
          clear hdx
          have hne : (x.toList != y.toList) = true := by rw [bne, heq]; rfl
          go_wp2
          go_quiet (fail)
          go_wp2
          go_ret
          refine ⟨ret_eq (bool_eq ?_), hd.more _⟩
          rw [← HR.out, HIT.out i hlt HDI.out HF.out]
          simp
        · rw [hdx] at heq HDI
          clear hdx
          have hne : (x.toList != y.toList) = false := by rw [bne, heq]; rfl
          go_wp2
          go_quiet (fail)
          go_wp2
          go_roundw
          case rel =>
            refine ⟨i + 1, by omega, by go_num, ?_, hd.more _⟩
            show ∀ j, j < i + 1 → diff xs ys j = false
            intro j hj
            by_cases hji : j = i
            · rw [hji]; exact HDI.out
            · exact HF.out j (by omega)
          case measure => simp [intOf]; omega
      · obtain rfl : i = n := by omega
        go_wp2
        go_ret
        refine ⟨ret_eq (bool_eq ?_), hd⟩
        rw [← HR.out, MISS.out HF.out]
        rfl
  · have hs := same_len he
    rw [hs]
    have hne : ((xs.length : Int) != (ys.length : Int)) = true := by simp; omega
    clear hs he
    generalize xs.length = n at *
    generalize ys.length = m at *
    go_enter Try.func18, Try.ntmps18
    go_wp2
    go_ret
    exact ⟨rfl, Dr.refl _⟩
end Go.Proofs.Ytjmhnbokojkceaa
