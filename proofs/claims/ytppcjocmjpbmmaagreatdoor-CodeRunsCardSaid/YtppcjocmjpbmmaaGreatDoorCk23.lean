/- Texts that all the claims need. Conditions: those that each states. -/
import Derived.Lib.RowBridge
import Derived.Test.YtppcjocmjpbmmaaGreatDoorCk21
import Derived.Test.YtppcjocmjpbmmaaGreatDoorCk22
set_option linter.unusedSimpArgs false
set_option linter.unusedVariables false
set_option maxRecDepth 100000
set_option maxHeartbeats 40000000
namespace Go.Proofs.YtppcjocmjpbmmaaGreatDoor
section
open Go.RowKit
open Go.Sort hiding Below ahead
def icells (xs : List Int) : List Value := xs.map (Value.int .i64)
theorem infoI : (Tryz.prog.info? 3).map (fun i => (i.zero, i.size, i.bytes)) = some (some (.int .i64 0), 1, 8) := by kernel_rfl
theorem holds_ints {w : World} {g base n c : Nat} {xs : List Int} (h : w.ownsRow base 3 1 (.slice (some ⟨g, 0, none⟩) n c) n (icells xs)) (hn : xs.length = n) : Holds (Value.int .i64) w g 0 xs.toArray ∧ g < w.heap.size ∧ n ≤ c := by
 rcases h.2 with ⟨hv, _⟩ | ⟨g', cap, cur, hv, hb, hh, h1, _, h3, h4⟩
 ·cases hv
 ·injection hv with e1 e2 e3
  injection e1 with e1
  injection e1 with e1
  subst e1 e3
  refine ⟨fun j hj => ?_, (Array.getElem?_eq_some_iff.1 hh).1, h1⟩
  have hj2 : j < xs.length := by simpa using hj
  rw [Nat.zero_add]
  refine ⟨?_, by simp [World.frozen?, hh]⟩
  rw [cell_of_row w g j _ 3 (0, 0) hh]
  have h5 : (icells xs)[j]? = cur[j]? := by
   rw [← h4, List.getElem?_take, if_pos (by omega), Array.getElem?_toList]
  rw [← h5]
  unfold icells
  simp [hj2]
theorem below_putI {w : World} {B g off : Nat} (hB : B ≤ g) (d : Array Int) : Below B w (putRow (Value.int .i64) w g off d) := by
 refine ⟨rfl, rfl, rfl, by simp, fun k hk => ?_⟩
 unfold putRow mapBlock
 simp only [Array.getElem?_modify, if_neg (show g ≠ k by omega)]
theorem below_growI {w : World} {B : Nat} (hB : B ≤ w.heap.size) (os : Array Obj) : Below B w (grow w os) :=
 ⟨rfl, rfl, rfl, by simp [grow], fun k hk => by unfold grow; rw [Array.getElem?_append_left (by omega)]⟩
theorem below_aheadI {w : World} {B : Nat} (n : Nat) : Below B w (Go.Sort.ahead w n) := ⟨rfl, rfl, rfl, zL _, fun _ _ => rfl⟩
theorem sortI_row (g c : Nat) (xs : List Int) (w : World) (hl : xs.length ≤ 4294967296) (hH : Holds (Value.int .i64) w g 0 xs.toArray) (hg : g < w.heap.size) (hc : xs.length ≤ c) :
 Calls Tryz.prog 21 #[.slice (some ⟨g, 0, none⟩) xs.length c] w fun e w' => e = .returned (.tuple #[]) ∧ Below g w w' ∧
  Calls Tryz.prog 22 #[.slice (some ⟨g, 0, none⟩) xs.length c] w' fun e w'' => e = .returned (.slice (some ⟨g, 0, none⟩) (Lib.compact (xs.mergeSort fun x y => decide (x ≤ y))).length c) ∧ Below g w' w'' ∧ Sl w'' w''.heap.size (some ⟨g, 0, none⟩) (icells (Lib.compact (xs.mergeSort fun x y => decide (x ≤ y)))) := by
 have h1 := Tryz.slices_Sort_int g 0 c xs w hH hg (by omega)
 refine h1.mono ?_
 rintro e w' ⟨rfl, n, os, rfl⟩
 have hm : (xs.mergeSort fun x y => decide (x ≤ y)).length = xs.length := List.length_mergeSort _
 have hH2 : Holds (Value.int .i64) (putRow (Value.int .i64) (Go.Sort.ahead w n) g 0 (xs.mergeSort fun x y => decide (x ≤ y)).toArray) g 0 (xs.mergeSort fun x y => decide (x ≤ y)).toArray :=
  holds_putRow (Value.int .i64) (Go.Sort.ahead w n) g 0 xs.toArray _ (holds_ahead _ _ _ _ _ _ hH) (by simp)
 have hg2 : g < (putRow (Value.int .i64) (Go.Sort.ahead w n) g 0 (xs.mergeSort fun x y => decide (x ≤ y)).toArray).heap.size := by simpa using hg
 have hH3 := holds_grow (Value.int .i64) (putRow (Value.int .i64) (Go.Sort.ahead w n) g 0 (xs.mergeSort fun x y => decide (x ≤ y)).toArray) os g 0 _ hg2 hH2
 refine ⟨rfl, ((below_aheadI n).trans (below_putI (zL _) _)).trans (below_growI (by simpa using Nat.le_of_lt hg) _), ?_⟩
 have h2 := Tryz.slices_Compact_int g 0 c (xs.mergeSort fun x y => decide (x ≤ y)) _ hH3 (by rw [hm]; omega) (by rw [hm]; exact hc)
 rw [hm] at h2
 refine h2.mono ?_
 rintro e w'' ⟨rfl, q, rfl⟩
 have hle := Lib.compact_length_le (xs.mergeSort fun x y => decide (x ≤ y))
 refine ⟨rfl, (below_aheadI q).trans (below_putI (zL _) _), ?_⟩
 generalize hss : Lib.compact (xs.mergeSort fun x y => decide (x ≤ y)) = ss at *
 intro _
 refine ⟨g, 0, rfl, by simpa using zT hg2 (by simp), ?_⟩
 intro j u hu
 have hj : j < ss.length := by
  have := (List.getElem?_eq_some_iff.1 hu).1
  unfold icells at this
  simpa using this
 rw [cell?_putRow (Value.int .i64) _ g 0 _ _ (holds_ahead _ _ _ _ _ _ hH3) (by simp [hm]; omega) j (by simp; omega)]
 rw [← hu]
 unfold icells
 have e1 : ((ss ++ List.replicate (xs.length - ss.length) 0).toArray)[j]! = ss[j] := by
  simp [hj, List.getElem?_append]
 rw [e1, List.getElem?_map, List.getElem?_eq_getElem hj]
 rfl
theorem codeVars_any (A : Option Addr) (c : Nat) (l : List In) (w : World) (hl : l.length ≤ 1000000) (hA : Ls insC w A l) :
 Calls Tryz.prog 11 #[.slice A l.length c] w fun e w' => ∃ A' c', e = .returned (.slice A' (vset l).length c') ∧ Sl w' w'.heap.size A' (icells (vset l)) ∧ Below w.heap.size w w' := by
 refine cHid fun Q' hQ => ?_
 have HQ := zh hQ; clear hQ
 have HA := zh hA; clear hA
 have HB0 : Hid (Below w.heap.size w w) := zB _ _
 have HVL := zh (varsL_len l)
 have HTK := zh fun k (hk : k < l.length) => varsL_take l hk
 have HTL := zh fun k (hk : k ≤ l.length) => show (varsL (l.take k)).length ≤ k by
  have := varsL_len (l.take k)
  rw [List.length_take, Nat.min_eq_left hk] at this
  exact this
 have HTE : Hid (varsL (l.take l.length) = varsL l) := zh (by rw [List.take_of_length_le (zL _)])
 generalize hn : l.length = n at *
 have HN := zh hn; clear hn
 go_enter Tryz.func11, Tryz.ntmps11
 go_wp2
 go_loopw [3, 8] (fun sv kv wr => ∃ (k c' : Nat) (A' : Option Addr), k ≤ n ∧ kv = .int .i64 k ∧ sv = .slice A' (varsL (l.take k)).length c' ∧ Hid (wr.ownsRow w.heap.size 3 1 (.slice A' (varsL (l.take k)).length c') (varsL (l.take k)).length (icells (varsL (l.take k)))) ∧ Hid (Below w.heap.size w wr)) (fun _ kv _ => n - (intOf kv).toNat)
 case atStart => exact ⟨0, 0, none, by omega, rfl, rfl, zh (World.ownsRow_nil _ _ _ _), HB0⟩
 case round =>
  clear HB0
  obtain ⟨k, c', A', hk, rfl, rfl, HO, HB⟩ := hrel
  by_cases hlt : k < n
  ·obtain ⟨b, o, rfl, hbl, hc⟩ := (HA.out.below HB.out).at 10 insC_len (by omega) in0 (i := k) (by rw [HN.out]; exact hlt)
   have hr := hc k (by rw [HN.out]; exact hlt)
   have HTK2 := zh (HTK.out k hlt)
   have hml := HTL.out k hk
   have hci := infoInsL (l.getD k in0)
   clear hc hbl
   generalize l.getD k in0 = x at *
   generalize varsL (l.take k) = xs at *
   obtain ⟨m, hm⟩ : ∃ z, z = xs.length := ⟨_, rfl⟩
   have HM : Hid (xs.length = m) := zh hm.symm
   rw [← hm] at HO hml ⊢
   clear hm
   have HRN := zh hr; clear hr
   go_upto_region 5 with (first
        | (refine wpList_ldIn (by rfl) _ _ rfl b (o + k * 10) rfl _ _ HRN.out Tryz.underlying60 rfl hci ?_)
        | (refine wpList_stRow (by rfl) _ _ _ rfl wr.heap.size (insC x).toArray rfl rfl _ _ (RowAt.new _ _ _) (infoIns x) (by rw [insC_size]; rfl) (insC_one x) ?_; intro w2 r2 he; have HR2 := zh r2; have HB2 : Hid (Below wr.heap.size wr w2) := zh (((zB _ _).alloc (zL _) _).trans (he.below (zL _))); clear r2 he))
   have HBW2 : Hid (Below w.heap.size w w2) := zh (HB.out.trans (HB2.out.mono HB.out.size))
   have HO2 := zh (own_below HO.out HB2.out (zL _))
   obtain ⟨c0, c1, _⟩ := ins_cells HR2.out
   clear HR2 HB2 HRN hci HO
   generalize wr.heap.size = gw at *
   obtain ⟨op, nn, e⟩ := x
   dsimp only at c0 c1 HTK2
   by_cases h1 : op = 1
   ·subst h1
    by_cases h2 : 0 ≤ nn
    ·have q1 : decide (0 ≤ nn) = true := zE h2
     have hxs := HTK2.out
     rw [if_pos (by rw [q1]; rfl)] at hxs
     have HXS := zh hxs; clear hxs
     have hbd1 : m + 1 ≤ maxLen := by simp only [maxLen]; omega
     have hbd2 : (m + 1) * 8 ≤ 140737488355328 := by omega
     have hsz := HBW2.out.size
     go_wp2_with (at_builtin; refine wpList_moreS _ rfl _ _ 36 rfl 3 (.int .i64 0) 1 8 Tryz.underlying36 infoI rfl (by decide) w.heap.size A' m c' (icells xs) rfl ?c1 w2.heap.size [.int .i64 nn] rfl rfl ?c2 (by intro u hu; simp at hu; subst hu; rfl) hbd1 hbd2 ?c5 ?_)
     case c1 => exact own_below HO2.out ((zB _ _).alloc (zL _) _) (zL _)
     case c5 => first | omega | (simp; omega) | (rw [World.size_alloc]; omega)
     intro A2 c2 w4 hown hbe _ _
     have HO4 := zh hown
     have HB4 : Hid (Below w.heap.size w w4) := zh ((HBW2.out.trans (((zB _ _).alloc (zL _) _).mono hsz)).trans hbe)
     clear hown hbe hsz
     go_wp2_with fail
     have hln : (varsL (l.take (k + 1))).length = m + 1 := by rw [HXS.out, zA7, HM.out]; rfl
     go_roundw
     case rel =>
      refine ⟨k + 1, c2, A2, by omega, by go_num, by rw [hln], ?_, HB4⟩
      rw [hln, HXS.out]
      have : icells (xs ++ [nn]) = icells xs ++ [.int .i64 nn] := by simp [icells]
      rw [this]
      exact HO4
     case measure => simp [intOf]; omega
    ·have q1 : decide (0 ≤ nn) = false := zF h2
     have hxs := HTK2.out
     rw [if_neg (by rw [q1]; simp), List.append_nil] at hxs
     have HXS := zh hxs; clear hxs
     go_wp2_with fail
     go_roundw
     case rel =>
      refine ⟨k + 1, c', A', by omega, by go_num, by rw [HXS.out, HM.out], ?_, HBW2⟩
      rw [HXS.out, HM.out]; exact HO2
     case measure => simp [intOf]; omega
   ·have n1 : (op == 1) = false := by simpa using h1
    have hxs := HTK2.out
    rw [if_neg (by rw [zF h1]; simp), List.append_nil] at hxs
    have HXS := zh hxs; clear hxs h1
    go_wp2_with fail
    go_roundw
    case rel =>
     refine ⟨k + 1, c', A', by omega, by go_num, by rw [HXS.out, HM.out], ?_, HBW2⟩
     rw [HXS.out, HM.out]; exact HO2
    case measure => simp [intOf]; omega
  ·obtain rfl : k = n := by omega
   rw [HTE.out] at HO ⊢
   have hvs : vset l = Lib.compact ((varsL l).mergeSort fun x y => decide (x ≤ y)) := rfl
   rw [hvs] at HQ
   clear hvs HTE HTK HTL
   have hvl := HVL.out
   generalize varsL l = xs at *
   cases xs with
   | nil =>
     have he : Lib.compact (([] : List Int).mergeSort fun x y => decide (x ≤ y)) = [] := by rw [List.mergeSort_nil]; rfl
     rw [he] at HQ
     go_wp2_with (first
      | (go_at_call 21; refine (Tryz.slices_Sort_int_none _ _ _).mono ?_; rintro e w2 ⟨rfl, rfl⟩)
      | (go_at_call 22; refine (Tryz.slices_Compact_int_empty _ _ _).mono ?_; rintro e w3 ⟨rfl, rfl⟩))
     exact HQ.out _ _ ⟨A', c', rfl, Sl.nil _ _ _, HB.out⟩
   | cons x0 xt =>
     obtain ⟨g, rfl, hg1, _⟩ := own_some HO.out (by simp)
     obtain ⟨hH, hgl, hcap⟩ := holds_ints HO.out rfl
     have HS := zh (sortI_row g c' (x0 :: xt) wr (by omega) hH hgl hcap)
     have HG1 := zh hg1
     generalize (x0 :: xt).length = m at *
     clear hH hgl hcap hg1 HO
     go_wp2_with (go_at_call 21; refine HS.out.mono ?_; rintro e w2 ⟨rfl, hb2, hcmp⟩; have HC2 := zh hcmp; have HB2 := zh hb2; clear hcmp hb2)
     refine HC2.out.mono ?_
     rintro e w3 ⟨rfl, hb3, hsl⟩
     have HB3 := zh hb3
     have HSL := zh hsl
     clear hb3 hsl
     go_wp2_with fail
     exact HQ.out _ _ ⟨_, _, rfl, HSL.out, (HB.out.trans (HB2.out.mono HG1.out)).trans (HB3.out.mono HG1.out)⟩
end
section
open Go.RowKit
theorem qcodeVars_any (A : Option Addr) (c : Nat) (l : List In) (w : World) (hl : l.length ≤ 1000000) (hA : Ls insC w A l) :
 Calls Tryz.prog 12 #[.slice A l.length c] w fun e w' => ∃ A' c', e = .returned (.slice A' (vset l).length c') ∧ Sl w' w'.heap.size A' (icells (vset l)) ∧ Below w.heap.size w w' := by
 refine cHid fun Q' hQ => ?_
 have HQ := zh hQ; clear hQ
 have HA := zh hA; clear hA
 have HB0 : Hid (Below w.heap.size w w) := zB _ _
 have hvl : (vset l).length ≤ l.length := zM (zM (Lib.compact_length_le _) (by rw [List.length_mergeSort]; exact zL _)) (varsL_len l)
 have HBA := zh fun k => best_all l k
 have HBS := zh fun k i (hi : i < l.length) => bestV_succ (vset l) l k hi
 have hpos : ∀ x ∈ vset l, 0 ≤ x := fun x hx => by
  obtain ⟨i, _, _, h2, rfl⟩ := (varsL_mem l x).1 ((vset_mem l x).1 hx)
  exact h2
 have HPOS := zh hpos; clear hpos
 generalize vset l = ss at *
 generalize hn : l.length = n at *
 have HN := zh hn; clear hn
 obtain ⟨q, hq⟩ : ∃ z, z = ss.length := ⟨_, rfl⟩
 have HQS : Hid (ss.length = q) := zh hq.symm
 rw [← hq] at hvl HQ
 clear hq
 go_enter Tryz.func12, Tryz.ntmps12
 go_wp2
 go_loopw [3] (fun sv wr => ∃ (k c' : Nat) (A' : Option Addr), k ≤ q ∧ sv = .slice A' k c' ∧ Hid (wr.ownsRow w.heap.size 3 1 (.slice A' k c') k (icells (ss.take k))) ∧ Hid (Below w.heap.size w wr)) (fun sv _ => (q + 1) - (match sv with | .slice _ m _ => m | _ => 0))
 case atStart => exact ⟨0, 0, none, by omega, rfl, zh (World.ownsRow_nil _ _ _ _), HB0⟩
 case round =>
  clear HB0
  obtain ⟨k, c', A', hk, rfl, HO, HB⟩ := hrel
  have hkn : (k : Int) ≤ (n : Int) := by omega
  have HTL : Hid ((ss.take k).length = k) := zh (by rw [List.length_take, HQS.out, Nat.min_eq_left hk])
  have HSL : Hid (∀ W, Below wr.heap.size wr W → Sl W W.heap.size A' (icells (ss.take k))) := zh fun W hW => (Sl.below (Sl.of_own HO.out) hW).mono hW.size
  obtain ⟨wo, rfl⟩ : ∃ wo : World, wo = wr := ⟨_, rfl⟩
  go_upto_region 5 with fail
  go_loopw [4, 5] (fun bv iv wi => ∃ (i : Nat), i ≤ n ∧ iv = .int .i64 i ∧ bv = .int .i64 (bestV ss l k i) ∧ Hid (Below wo.heap.size wo wi)) (fun _ iv _ => n - (intOf iv).toNat)
  case atStart => exact ⟨0, by omega, rfl, rfl, zh (zB _ _)⟩
  case round =>
   obtain ⟨i, hi, rfl, rfl, HBi⟩ := hrel
   by_cases hlt : i < n
   ·obtain ⟨b, o, rfl, hbl, hc⟩ := (HA.out.below (HB.out.trans (HBi.out.mono HB.out.size))).at 10 insC_len (by omega) in0 (i := i) (by rw [HN.out]; exact hlt)
    obtain ⟨c0, c1⟩ := ins_at (hc i (by rw [HN.out]; exact hlt))
    have hnx := HBS.out k i hlt
    have HIN := zh fun x => qin_any A' c' (ss.take k) x wr (by rw [HTL.out]; omega) (HSL.out wr HBi.out)
    rw [HTL.out] at HIN
    clear hc hbl
    generalize l.getD i in0 = x at *
    generalize bestV ss l k i = bb at *
    obtain ⟨op, nn, e⟩ := x
    dsimp only at c0 c1 hnx
    by_cases h1 : op = 1
    ·subst h1
     by_cases h2 : 0 ≤ nn
     ·have q2 : decide (0 ≤ nn) = true := zE h2
      by_cases h3 : nn ∈ ss.take k
      ·have hc3 : (ss.take k).contains nn = true := by simpa using h3
       have HI := zh (HIN.out nn)
       rw [hc3] at HI
       rw [if_neg (by simp [h3])] at hnx
       have HNX := zh hnx
       clear hnx h3 hc3 h2
       go_wp2_with (go_at_call 23; refine HI.out.mono ?_; rintro e w2 ⟨rfl, rfl⟩)
       go_roundw
       case rel => exact ⟨i + 1, by omega, by go_num, by rw [HNX.out], HBi⟩
       case measure => simp [intOf]; omega
      ·have hc3 : (ss.take k).contains nn = false := by simpa using h3
       have HI := zh (HIN.out nn)
       rw [hc3] at HI
       by_cases h4 : bb < 0
       ·rw [if_pos (by simp [h2, h3, h4])] at hnx
        have HNX := zh hnx
        have q4 : decide (bb < 0) = true := zE h4
        clear hnx h3 hc3 h2 h4
        go_wp2_with (go_at_call 23; refine HI.out.mono ?_; rintro e w2 ⟨rfl, rfl⟩)
        go_roundw
        case rel => exact ⟨i + 1, by omega, by go_num, by rw [HNX.out], HBi⟩
        case measure => simp [intOf]; omega
       ·have q4 : decide (bb < 0) = false := zF h4
        by_cases h5 : nn < bb
        ·rw [if_pos (by simp [h2, h3, h5])] at hnx
         have HNX := zh hnx
         have q5 : decide (nn < bb) = true := zE h5
         clear hnx h3 hc3 h2 h4 h5
         go_wp2_with (go_at_call 23; refine HI.out.mono ?_; rintro e w2 ⟨rfl, rfl⟩)
         go_roundw
         case rel => exact ⟨i + 1, by omega, by go_num, by rw [HNX.out], HBi⟩
         case measure => simp [intOf]; omega
        ·rw [if_neg (fun h => by rcases h.2 with h | h; exact h4 h; exact h5 h)] at hnx
         have HNX := zh hnx
         have q5 : decide (nn < bb) = false := zF h5
         clear hnx h3 hc3 h2 h4 h5
         go_wp2_with (go_at_call 23; refine HI.out.mono ?_; rintro e w2 ⟨rfl, rfl⟩)
         go_roundw
         case rel => exact ⟨i + 1, by omega, by go_num, by rw [HNX.out], HBi⟩
         case measure => simp [intOf]; omega
     ·have q2 : decide (0 ≤ nn) = false := zF h2
      rw [if_neg (by simp [h2])] at hnx
      have HNX := zh hnx
      clear hnx h2
      go_wp2_with fail
      go_roundw
      case rel => exact ⟨i + 1, by omega, by go_num, by rw [HNX.out], HBi⟩
      case measure => simp [intOf]; omega
    ·have n1 : (op == 1) = false := by simpa using h1
     rw [if_neg (by simp [h1])] at hnx
     have HNX := zh hnx
     clear hnx h1
     go_wp2_with fail
     go_roundw
     case rel => exact ⟨i + 1, by omega, by go_num, by rw [HNX.out], HBi⟩
     case measure => simp [intOf]; omega
   ·obtain rfl : i = n := by omega
    have hba := HBA.out k
    generalize bestV ss l k i = bb at *
    have HBW : Hid (Below w.heap.size w wr) := zh (HB.out.trans (HBi.out.mono HB.out.size))
    have HOW := zh (own_below HO.out HBi.out (zL _))
    by_cases hkq : k < q
    ·have hks : k < ss.length := by rw [HQS.out]; exact hkq
     rw [dif_pos hks] at hba
     have hb0 : ¬ bb < 0 := by
      have := HPOS.out _ (List.getElem_mem hks)
      omega
     have q0 : decide (bb < 0) = false := zF hb0
     have htk : icells (ss.take (k + 1)) = icells (ss.take k) ++ [.int .i64 bb] := by
      rw [List.take_succ_eq_append_getElem hks, ← hba]; simp [icells]
     have HTK := zh htk
     have hbd1 : k + 1 ≤ maxLen := by simp only [maxLen]; omega
     have hbd2 : (k + 1) * 8 ≤ 140737488355328 := by omega
     have hsz := HBW.out.size
     clear hba htk hb0 hks
     go_wp2_with (at_builtin; refine wpList_moreS _ rfl _ _ 36 rfl 3 (.int .i64 0) 1 8 Tryz.underlying36 infoI rfl (by decide) w.heap.size A' k c' (icells (ss.take k)) rfl ?c1 wr.heap.size [.int .i64 bb] rfl rfl ?c2 (by intro u hu; simp at hu; subst hu; rfl) hbd1 hbd2 ?c5 ?_)
     case c1 => exact own_below HOW.out ((zB _ _).alloc (zL _) _) (zL _)
     case c2 =>
      intro j u hu
      match j, hu with
      | 0, hu => exact ((RowAt.new wr 3 #[.int .i64 bb]).cell 0).trans hu
      | j + 1, hu => simp at hu
     case c5 => first | omega | (simp; omega) | (rw [World.size_alloc]; omega)
     intro A2 c2 w4 hown hbe _ _
     have HO4 := zh hown
     have HB4 : Hid (Below w.heap.size w w4) := zh ((HBW.out.trans (((zB _ _).alloc (zL _) _).mono hsz)).trans hbe)
     clear hown hbe hsz
     go_wp2_with fail
     go_roundw
     case rel =>
      refine ⟨k + 1, c2, A2, by omega, rfl, ?_, HB4⟩
      rw [HTK.out]; exact HO4
     case measure => simp; omega
    ·obtain rfl : k = q := by omega
     rw [dif_neg (by rw [HQS.out]; omega)] at hba
     subst hba
     have hall : ss.take k = ss := by rw [List.take_of_length_le (by rw [HQS.out]; exact zL _)]
     rw [hall] at HOW
     have HS := zh (Sl.of_own HOW.out)
     go_wp2_with fail
     exact HQ.out _ _ ⟨A', c', rfl, HS.out, HBW.out⟩
end
end Go.Proofs.YtppcjocmjpbmmaaGreatDoor
