/-
  The document's answers: where tokens are wrong, where a bracket ends. Conditions: lists below 2^31 tokens.
-/
import Derived.Test.YtnaaejemanmgnaaTreeA
namespace Go.Proofs.Ytnaaejemanmgnaa
open Go.RowKit LX TR

theorem tdrop_cons {l : List Tk} {i : Nat} (h : i < l.length) : l.drop i = l.getD i t0 :: l.drop (i + 1) := by
  rw [List.getD_eq_getElem?_getD, List.getElem?_eq_getElem h]
  exact List.drop_eq_getElem_cons h
/-- The places of the open brackets, the innermost first. -/
def Ix (l : List Tk) : List Nat → List Tr → Prop
  | [], [f] => f.t = t0
  | j :: os, f :: st => j < l.length ∧ f.t = l.getD j t0 ∧ Ix l os st
  | _, _ => False
theorem Ix.len {l : List Tk} : ∀ {os : List Nat} {st : List Tr}, Ix l os st → st.length = os.length + 1
  | [], [_], _ => rfl
  | _ :: os, _ :: st, h => by have := Ix.len h.2.2; simp only [List.length_cons]; omega
theorem Ix.push {l : List Tk} : ∀ {os : List Nat} {f : Tr} {st : List Tr} (x : Tr), Ix l os (f :: st) → Ix l os (push f x :: st)
  | [], _, [], _, h => h
  | _ :: _, _, _, _, h => h
theorem Ix.top {l : List Tk} {os : List Nat} {st : List Tr} (h : Ix l os st) : ∃ f r, st = f :: r := by
  cases st with
  | nil => cases os <;> exact h.elim
  | cons f r => exact ⟨f, r, rfl⟩
def plcells (os : List Nat) : List Value := os.map fun j : Nat => Value.int .i64 (j : Int)
theorem plcells_length (os : List Nat) : (plcells os).length = os.length := by simp [plcells]
theorem plcells_append (a b : List Nat) : plcells (a ++ b) = plcells a ++ plcells b := by simp [plcells]
/-- What the document's fault answers. -/
def Ft (l : List Tk) (R : Except Int (List Tr)) (z : Int) : Prop :=
  match R with
  | .ok _ => z = -1
  | .error p => ∃ j : Nat, z = (j : Int) ∧ j < l.length ∧ (l.getD j t0).p = p

set_option maxRecDepth 100000 in
set_option maxHeartbeats 1600000 in
theorem refFault9_any (A : Option Addr) (c : Nat) (l : List Tk) (w : World) (hl : l.length ≤ 2147483648) (hA : Toks w A l) :
    Calls Try.prog 23 #[.slice A l.length c] w fun e w' => (∃ z : Int, e = .returned (.int .i64 z) ∧ Ft l (parse l) z) ∧ Below w.heap.size w w' := by
  have HA := Lib.hid hA; clear hA
  have HDR : Hid (∀ i, i < l.length → l.drop i = l.getD i t0 :: l.drop (i + 1)) := fun i => tdrop_cons
  have HDN : Hid (∀ i, ¬ i < l.length → l.drop i = []) := fun i hi => List.drop_eq_nil_of_le (by omega)
  have HR0 : Hid (mrun (l.drop 0) [r0] = parse l) := by rw [List.drop_zero]; exact rfl
  have HFT : Hid (∀ i p, i < l.length → (l.getD i t0).p = p → parse l = .error p → Ft l (parse l) (i : Int)) := fun i p h1 h2 h3 => by rw [h3]; exact ⟨i, rfl, h1, h2⟩
  have HFO : Hid (∀ ts, parse l = .ok ts → Ft l (parse l) (-1)) := fun ts h3 => by rw [h3]; exact rfl
  have HIXT : Hid (∀ j os f st, Ix l (j :: os) (f :: st) → j < l.length ∧ f.t = l.getD j t0 ∧ Ix l os st) := fun j os f st h => h
  have HIXN : Hid (∀ i st os x, i < l.length → x = l.getD i t0 → Ix l os st → Ix l (i :: os) (.mk x none 0 [] 0 :: st)) := fun i st os x h1 h2 h3 => ⟨h1, h2, h3⟩
  have HIX0 : Hid (Ix l [] [r0]) := rfl
  generalize hP : parse l = P at *
  generalize hn : l.length = n at *
  have HN := Lib.hid hn; clear hn hP
  go_enter Try.func23, Try.ntmps23
  go_wp2
  go_loopw [3, 4, 5] (fun ov iv _ wr => ∃ (i : Nat) (os : List Nat) (st : List Tr) (X : Option Addr) (d : Nat), i ≤ n ∧ os.length ≤ 24 ∧ ov = .slice X os.length d ∧ iv = .int .i64 i ∧ Hid (wr.ownsRow w.heap.size 3 1 (.slice X os.length d) os.length (plcells os.reverse)) ∧ Hid (Ix l os st) ∧ Hid (mrun (l.drop i) st = P) ∧ Hid (Below w.heap.size w wr)) (fun _ iv _ _ => n - (intOf iv).toNat)
  case atStart => exact ⟨0, [], [r0], none, 0, by omega, by simp, rfl, rfl, World.ownsRow_nil _ _ _ _, HIX0.out, HR0.out, Below.refl _ _⟩
  case round =>
    obtain ⟨i, os, st, X, d, hi, hos, rfl, rfl, HO, HX, HR, HW⟩ := hrel
    have HSL := Lib.hid HX.out.len
    by_cases hlt : i < n
    · obtain ⟨b, o, rfl, hbl, hc⟩ := (HA.out.below HW.out).at (k := i) (by rw [HN.out]; exact hlt)
      have HCC : Hid (∀ j, j < n → wr.cell? ⟨b, o + j * 3, none⟩ = some (.int .u8 ((l.getD j t0).k : Int))) := fun j hj => (hc j (by rw [HN.out]; exact hj)).1
      have hc0 := HCC.out i hlt
      clear hc
      have hR := HR.out
      rw [HDR.out i hlt] at hR
      have HFI := Lib.hid (HFT.out i (l.getD i t0).p hlt rfl)
      have HXI := Lib.hid (fun st os => HIXN.out i st os (l.getD i t0) hlt rfl)
      generalize hk : (l.getD i t0) = t at *
      clear hk
      have hcl := closing_any t.k wr
      have hcs := closes_any t.k wr
      have hts : ∀ s, mstep st t = s → (match s with | some st' => mrun (l.drop (i + 1)) st' = P | none => P = .error t.p) := fun s hs => by
        cases s with
        | some st' => rw [mrun_some hs] at hR; exact hR
        | none => rw [mrun_none hs] at hR; exact hR.symm
      clear hR
      by_cases h0 : cl t.k = 0
      · rw [h0] at hcl
        have HCL := Lib.hid hcl; clear hcl
        cases hcz : cls t.k
        · -- no bracket
          rw [hcz] at hcs
          have HCS := Lib.hid hcs; clear hcs
          obtain ⟨f, r, rfl⟩ := HX.out.top
          have HR2 : Hid (mrun (l.drop (i + 1)) (push f (.mk t none 0 [] t.p) :: r) = P) := hts (some _) (by simp [mstep, h0, hcz])
          have HX2 := Lib.hid (HX.out.push (.mk t none 0 [] t.p))
          clear hts h0 hcz
          generalize t.k = k at *
          go_wp2_with fail
          refine HCL.out.mono ?_
          rintro e w' ⟨rfl, rfl⟩
          go_wp2_with fail
          refine HCS.out.mono ?_
          rintro e w' ⟨rfl, rfl⟩
          go_wp2
          go_roundw
          case rel => exact ⟨i + 1, os, _, X, d, by omega, hos, rfl, by go_num, HO, HX2, HR2, HW⟩
          case measure => simp [intOf]; omega
        · rw [hcz] at hcs
          have HCS := Lib.hid hcs; clear hcs
          cases os with
          | nil =>
            obtain ⟨f, r, rfl⟩ := HX.out.top
            have hr : r = [] := by have := HSL.out; simp only [List.length_cons, List.length_nil] at this; exact List.eq_nil_of_length_eq_zero (by omega)
            subst hr
            have HE := Lib.hid (HFI.out (hts none (by simp [mstep, h0, hcz])))
            clear hts h0 hcz
            generalize t.k = k at *
            go_wp2_with fail
            refine HCL.out.mono ?_
            rintro e w' ⟨rfl, rfl⟩
            go_wp2_with fail
            refine HCS.out.mono ?_
            rintro e w' ⟨rfl, rfl⟩
            go_wp2
            go_ret
            exact ⟨⟨_, rfl, HE.out⟩, HW.out⟩
          | cons j os =>
            obtain ⟨f, r0', rfl⟩ := HX.out.top
            obtain ⟨hj, hft, hix⟩ := HIXT.out _ _ _ _ HX.out
            obtain ⟨g, r, rfl⟩ := hix.top
            have hcj := HCC.out j hj
            rw [← hft] at hcj
            have hcl2 := closing_any f.t.k wr
            obtain ⟨gb, hXX, hgb, hgs, _, hgc⟩ := own_at HO.out (by simp [plcells])
            subst hXX
            have hjc := hgc os.length (.int .i64 (j : Int)) (by simp [plcells])
            have hnc : os.length + 1 ≤ d := by
              have := own_cap_le HO.out
              simpa using this
            have HC2 := Lib.hid hcl2; clear hcl2
            by_cases heq : cl f.t.k = t.k
            · have HR2 : Hid (mrun (l.drop (i + 1)) (push g (.mk f.t none 0 f.ks t.p) :: r) = P) := hts (some _) (by simp [mstep, h0, hcz, heq])
              have HX2 := Lib.hid (hix.push (.mk f.t none 0 f.ks t.p))
              have hocut := own_cut HO.out os.length (by simp) (by simp)
              have htk : (plcells (j :: os).reverse).take (os.length * 1) = plcells os.reverse := by
                rw [List.reverse_cons, plcells_append, Nat.mul_one]
                exact List.take_left' (by simp [plcells])
              rw [htk] at hocut
              have HO2 := Lib.hid hocut
              have hqe : ((cl f.t.k : Nat) : Int) = (t.k : Int) := by rw [heq]
              clear hts h0 hcz htk hocut hft
              rw [heq] at HC2
              clear heq hqe
              generalize t.k = k at *
              generalize f.t.k = kf at *
              simp only [List.length_cons] at hos ⊢
              generalize hm : os.length = m at *
              have HM := Lib.hid hm; clear hm
              have hz1 : IntKind.i64.wrap ((m : Int) + 1 - 1) = (m : Int) := by rw [IntKind.wrap_i64] <;> omega
              have hz2 : ¬ (m : Int) + 1 = 0 := by omega
              go_wp2_with fail
              refine HCL.out.mono ?_
              rintro e w' ⟨rfl, rfl⟩
              go_wp2_with fail
              refine HCS.out.mono ?_
              rintro e w' ⟨rfl, rfl⟩
              go_wp2_with fail
              refine HC2.out.mono ?_
              rintro e w' ⟨rfl, rfl⟩
              go_wp2
              go_roundw
              case rel => exact ⟨i + 1, os, _, some ⟨gb, 0, none⟩, d, by omega, by rw [HM.out]; omega, by rw [HM.out], by go_num, by rw [HM.out]; exact HO2, HX2, HR2, HW⟩
              case measure => simp [intOf]; omega
            · have HE := Lib.hid (HFI.out (hts none (by simp [mstep, h0, hcz, heq])))
              have hqe : (((cl f.t.k : Nat) : Int) != (t.k : Int)) = true := by simp; omega
              clear hts h0 hcz hft heq
              generalize t.k = k at *
              generalize cl f.t.k = q at *
              generalize f.t.k = kf at *
              simp only [List.length_cons] at hos ⊢
              generalize os.length = m at *
              have hz1 : IntKind.i64.wrap ((m : Int) + 1 - 1) = (m : Int) := by rw [IntKind.wrap_i64] <;> omega
              have hz2 : ¬ (m : Int) + 1 = 0 := by omega
              go_wp2_with fail
              refine HCL.out.mono ?_
              rintro e w' ⟨rfl, rfl⟩
              go_wp2_with fail
              refine HCS.out.mono ?_
              rintro e w' ⟨rfl, rfl⟩
              go_wp2_with fail
              refine HC2.out.mono ?_
              rintro e w' ⟨rfl, rfl⟩
              go_wp2
              go_ret
              exact ⟨⟨_, rfl, HE.out⟩, HW.out⟩
      · have hcs0 := (cls_cl h0).2.2
        rw [hcs0] at hcs
        have hne : (((cl t.k : Nat) : Int) != 0) = true := by simp; omega
        have HCL := Lib.hid hcl; clear hcl
        have HCS := Lib.hid hcs; clear hcs
        by_cases h24 : os.length = 24
        · have HE := Lib.hid (HFI.out (hts none (by
            have := HSL.out
            simp only [mstep, if_neg h0]
            rw [if_pos (by omega)])))
          clear hts h0
          generalize cl t.k = q at *
          generalize t.k = k at *
          generalize os.length = m at *
          subst h24
          go_wp2_with fail
          refine HCL.out.mono ?_
          rintro e w' ⟨rfl, rfl⟩
          go_wp2
          go_ret
          exact ⟨⟨_, rfl, HE.out⟩, HW.out⟩
        · have HR2 : Hid (mrun (l.drop (i + 1)) (.mk t none 0 [] 0 :: st) = P) := hts (some _) (by
            have := HSL.out
            simp only [mstep, if_neg h0]
            rw [if_neg (by omega)])
          have HX2 := Lib.hid (HXI.out _ _ HX.out)
          have hlt24 : os.length < 24 := by omega
          have HRV : Hid ((i :: os).length = os.length + 1 ∧ plcells (i :: os).reverse = plcells os.reverse ++ [.int .i64 (i : Int)]) := ⟨rfl, by rw [List.reverse_cons, plcells_append]; rfl⟩
          have hown' := HO.out
          clear hts h0 h24
          generalize cl t.k = q at *
          generalize t.k = k at *
          generalize os.length = m at *
          go_wp2_with fail
          refine HCL.out.mono ?_
          rintro e w' ⟨rfl, rfl⟩
          go_wp2_with (first | (at_builtin; refine wpList_more _ rfl _ _ 55 rfl 3 (.int .i64 0) 1 8 Try.underlying55 infoInt rfl (by decide) (by decide) w.heap.size X m d (plcells os.reverse) rfl (hown'.alloc _) wr.heap.size 1 1 [.int .i64 (i : Int)] rfl rfl (by decide) (one_new _ _ _) ?c1 ?c2 ?c3 ?_; (case c1 => simp [Value.oneCell']); (case c2 => omega); (case c3 => have := HW.out.size; simp; omega); intro X2 d2 w5 hown2 hb5 _))
          have HW5 : Hid (Below w.heap.size w w5) := (HW.out.alloc HW.out.size _).trans hb5
          have HO5 : Hid (w5.ownsRow w.heap.size 3 1 (.slice X2 (m + 1) d2) (m + 1) (plcells (i :: os).reverse)) := by rw [HRV.out.2]; exact hown2
          have hcs5 := closes_any k w5
          rw [hcs0] at hcs5
          have HCS5 := Lib.hid hcs5; clear hcs5
          clear hown2 hb5 hown' HCS
          go_wp2_with fail
          refine HCS5.out.mono ?_
          rintro e w' ⟨rfl, rfl⟩
          go_wp2
          go_roundw
          case rel => exact ⟨i + 1, i :: os, _, X2, d2, by omega, by rw [HRV.out.1]; omega, by rw [HRV.out.1], by go_num, by rw [HRV.out.1]; exact HO5, HX2, HR2, HW5⟩
          case measure => simp [intOf]; omega
    · have hR := HR.out
      rw [HDN.out i hlt] at hR
      obtain rfl : i = n := by omega
      cases os with
      | nil =>
        obtain ⟨f, r, rfl⟩ := HX.out.top
        have hr : r = [] := by have := HSL.out; simp only [List.length_cons, List.length_nil] at this; exact List.eq_nil_of_length_eq_zero (by omega)
        subst hr
        have HE := Lib.hid (HFO.out f.ks hR.symm)
        clear hR
        simp only [List.length_nil]
        go_wp2
        go_ret
        exact ⟨⟨_, rfl, HE.out⟩, HW.out⟩
      | cons j os =>
        obtain ⟨f, r0', rfl⟩ := HX.out.top
        obtain ⟨hj, hft, hix⟩ := HIXT.out _ _ _ _ HX.out
        obtain ⟨g, r, rfl⟩ := hix.top
        have HE := Lib.hid (HFT.out j f.t.p hj (by rw [hft]) hR.symm)
        clear hR
        obtain ⟨gb, hXX, hgb, hgs, _, hgc⟩ := own_at HO.out (by simp [plcells])
        subst hXX
        have hjc := hgc os.length (.int .i64 (j : Int)) (by simp [plcells])
        clear hgc
        simp only [List.length_cons] at hos ⊢
        generalize os.length = m at *
        have hz1 : IntKind.i64.wrap ((m : Int) + 1 - 1) = (m : Int) := by rw [IntKind.wrap_i64] <;> omega
        have hz2 : ¬ (m : Int) + 1 = 0 := by omega
        go_wp2
        go_ret
        exact ⟨⟨_, rfl, HE.out⟩, HW.out⟩

set_option maxRecDepth 100000 in
set_option maxHeartbeats 1600000 in
theorem partner_any (A : Option Addr) (c at' : Nat) (l : List Tk) (w : World) (hat : at' ≤ l.length) (hl : l.length ≤ 2147483648) (hA : Toks w A l) :
    Calls Try.prog 35 #[.slice A l.length c, .int .i64 (at' : Int)] w fun e w' => e = .returned (.int .i64 ((pt at' (l.drop at') 0 at' : Nat) : Int)) ∧ w = w' := by
  have HA := Lib.hid hA; clear hA
  have HDR : Hid (∀ i, i < l.length → l.drop i = l.getD i t0 :: l.drop (i + 1)) := fun i => tdrop_cons
  have HDN : Hid (∀ i, ¬ i < l.length → l.drop i = []) := fun i hi => List.drop_eq_nil_of_le (by omega)
  generalize hK : pt at' (l.drop at') 0 at' = K at *
  have HK := Lib.hid hK; clear hK
  generalize hn : l.length = n at *
  have HN := Lib.hid hn; clear hn
  go_enter Try.func35, Try.ntmps35
  go_wp2
  go_loop [5, 6] (fun dv iv => ∃ (i : Nat) (d : Int), i ≤ n ∧ -(i : Int) ≤ d ∧ d ≤ i ∧ dv = .int .i64 d ∧ iv = .int .i64 i ∧ Hid (pt at' (l.drop i) d i = K)) (fun _ iv => n - (intOf iv).toNat)
  case atStart => exact ⟨at', 0, hat, by omega, by omega, rfl, rfl, HK.out⟩
  case round =>
    obtain ⟨i, d, hi, hd1, hd2, rfl, rfl, HR⟩ := hrel
    by_cases hlt : i < n
    · obtain ⟨b, o, rfl, hbl, hc⟩ := HA.out.at (k := i) (by rw [HN.out]; exact hlt)
      obtain ⟨hc0, _, _⟩ := hc i (by rw [HN.out]; exact hlt)
      clear hc
      have hR := HR.out
      rw [HDR.out i hlt, pt] at hR
      generalize (l.getD i t0) = t at *
      have hcl := closing_any t.k w
      have hcs := closes_any t.k w
      generalize hk : t.k = k at *
      clear hk
      have HCL := Lib.hid hcl; clear hcl
      by_cases h0 : cl k = 0
      · rw [h0] at HCL
        rw [if_pos h0] at hR
        cases hcz : cls k
        · rw [hcz] at hcs hR
          have HCS := Lib.hid hcs; clear hcs h0 hcz
          simp only [Int.add_zero, Bool.false_eq_true, if_false, Int.sub_zero] at hR
          by_cases hd0 : d = 0
          · rw [if_pos hd0] at hR
            have HE := Lib.hid hR; clear hR
            subst hd0
            go_wp2_with fail
            refine HCL.out.mono ?_
            rintro e w' ⟨rfl, rfl⟩
            go_wp2_with fail
            refine HCS.out.mono ?_
            rintro e w' ⟨rfl, rfl⟩
            go_wp2
            go_ret
            exact ⟨ret_eq (int_eq (by rw [← HE.out])), rfl⟩
          · rw [if_neg hd0] at hR
            have HE := Lib.hid hR; clear hR
            have hdz : (d == 0) = false := by simpa using hd0
            go_wp2_with fail
            refine HCL.out.mono ?_
            rintro e w' ⟨rfl, rfl⟩
            go_wp2_with fail
            refine HCS.out.mono ?_
            rintro e w' ⟨rfl, rfl⟩
            go_wp2
            go_round
            case rel => exact ⟨i + 1, d, by omega, by omega, by omega, rfl, by go_num, HE⟩
            case measure => simp [intOf]; omega
        · rw [hcz] at hcs hR
          have HCS := Lib.hid hcs; clear hcs h0 hcz
          simp only [Int.add_zero, if_true] at hR
          have hwr : IntKind.i64.wrap (d - 1) = d - 1 := by rw [IntKind.wrap_i64] <;> omega
          by_cases hd0 : d - 1 = 0
          · rw [if_pos hd0] at hR
            have HE := Lib.hid hR; clear hR
            obtain rfl : d = 1 := by omega
            clear hd0
            go_wp2_with fail
            refine HCL.out.mono ?_
            rintro e w' ⟨rfl, rfl⟩
            go_wp2_with fail
            refine HCS.out.mono ?_
            rintro e w' ⟨rfl, rfl⟩
            go_wp2
            go_ret
            exact ⟨ret_eq (int_eq (by rw [← HE.out])), rfl⟩
          · rw [if_neg hd0] at hR
            have HE := Lib.hid hR; clear hR
            have hdz : (d - 1 == 0) = false := by simpa using hd0
            clear hd0
            go_wp2_with fail
            refine HCL.out.mono ?_
            rintro e w' ⟨rfl, rfl⟩
            go_wp2_with fail
            refine HCS.out.mono ?_
            rintro e w' ⟨rfl, rfl⟩
            go_wp2
            go_round
            case rel => exact ⟨i + 1, d - 1, by omega, by omega, by omega, rfl, by go_num, HE⟩
            case measure => simp [intOf]; omega
      · have hcs0 := (cls_cl h0).2.2
        rw [hcs0] at hcs hR
        rw [if_neg h0] at hR
        have hne : (((cl k : Nat) : Int) != 0) = true := by simp; omega
        have HCS := Lib.hid hcs; clear hcs h0 hcs0
        simp only [Bool.false_eq_true, if_false, Int.sub_zero] at hR
        have hwr : IntKind.i64.wrap (d + 1) = d + 1 := by rw [IntKind.wrap_i64] <;> omega
        generalize cl k = q at *
        by_cases hd0 : d + 1 = 0
        · rw [if_pos hd0] at hR
          have HE := Lib.hid hR; clear hR
          obtain rfl : d = -1 := by omega
          clear hd0
          go_wp2_with fail
          refine HCL.out.mono ?_
          rintro e w' ⟨rfl, rfl⟩
          go_wp2_with fail
          refine HCS.out.mono ?_
          rintro e w' ⟨rfl, rfl⟩
          go_wp2
          go_ret
          exact ⟨ret_eq (int_eq (by rw [← HE.out])), rfl⟩
        · rw [if_neg hd0] at hR
          have HE := Lib.hid hR; clear hR
          have hdz : (d + 1 == 0) = false := by simpa using hd0
          clear hd0
          go_wp2_with fail
          refine HCL.out.mono ?_
          rintro e w' ⟨rfl, rfl⟩
          go_wp2_with fail
          refine HCS.out.mono ?_
          rintro e w' ⟨rfl, rfl⟩
          go_wp2
          go_round
          case rel => exact ⟨i + 1, d + 1, by omega, by omega, by omega, rfl, by go_num, HE⟩
          case measure => simp [intOf]; omega
    · have hR := HR.out
      rw [HDN.out i hlt, pt] at hR
      have HE := Lib.hid hR; clear hR
      obtain rfl : i = n := by omega
      go_wp2
      go_ret
      exact ⟨ret_eq (int_eq (by rw [← HE.out])), rfl⟩
end Go.Proofs.Ytnaaejemanmgnaa
