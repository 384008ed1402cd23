/-
  What Bottom, Top, Height, Leq and Meet of package shape return, and the document's Leq and Meet. Conditions: a slice of factors in memory, eight words below 2^64; the table of math/bits in memory.
-/
import Derived.Test.YtpgkcddhpeoiiaaDoorShapeD
namespace Go.Proofs.YtpgkcddhpeoiiaaDoor
open Go.RowKit RM


set_option maxRecDepth 8000 in
set_option maxHeartbeats 1000000 in
theorem sbottomE_any (t : Bool) (A : Option Addr) (c : Nat) (fs : List Fac) (w : World) (hT : Tab w) (hF : Facs w A fs) :
    Calls Tryd.prog 11 #[.agg (sv t A fs.length c)] w fun x w' => x = .returned (.agg (uv (endE t fs botW))) ∧ Below w.heap.size w w' := by
  have z8 := EW.zeros
  have he8 := endE_ew t fs botW_lt
  have r0 : RowAt ((w.alloc (.cells (sv t A fs.length c) 24)).alloc (.cells (uv (List.replicate 8 0)) 40)) w.heap.size 24 (sv t A fs.length c) := (RowAt.new w _ _).alloc _
  have q0 : RowAt ((w.alloc (.cells (sv t A fs.length c) 24)).alloc (.cells (uv (List.replicate 8 0)) 40)) (w.heap.size + 1) 40 (uv (List.replicate 8 0)) := by
    have := RowAt.new (w.alloc (.cells (sv t A fs.length c) 24)) 40 (uv (List.replicate 8 0))
    simpa using this
  have HB0 : Hid (Below w.heap.size w ((w.alloc (.cells (sv t A fs.length c) 24)).alloc (.cells (uv (List.replicate 8 0)) 40))) := ((Below.refl _ _).alloc (Nat.le_refl _) _).alloc (by simp) _
  have HEL : Hid (∀ W, Below w.heap.size w W → Calls Tryd.prog 20 #[.agg (sv t A fs.length c), .func (.func 21) #[] #[]] W fun x w' => x = .returned (.agg (uv (endE t fs botW))) ∧ Below W.heap.size W w') := fun W h =>
    selement_any t A c fs 21 (fun _ _ => by kernel_rfl) botW botW_lt W (hT.below h) (hF.below h) fun g W _ h1 h2 => sbottom_any g W h1 h2
  clear hF hT
  generalize endE t fs botW = res at *
  generalize fs.length = n at *
  rw [← zero_elem] at r0 q0 HB0
  go_enter Tryd.func11, Tryd.ntmps11
  go_upto_region 1 with fail
  rw [zero_elem] at r0 q0 HB0 ⊢
  generalize (w.alloc (.cells (sv t A n c) 24)).alloc (.cells (uv (List.replicate 8 0)) 40) = w0 at *
  go_wp2_with (refine wpList_loadShape (by rfl) _ rfl w.heap.size rfl t A n c r0 ?_)
  refine (HEL.out _ HB0.out).mono ?_
  rintro e w1 ⟨rfl, hb⟩
  have q1 := q0.below hb q0.lt
  have HB1 := Lib.hid (HB0.out.trans (hb.mono HB0.out.size))
  clear hb q0 r0 HB0
  go_wp2_with (refine wpList_storeElem (by rfl) _ _ rfl (w.heap.size + 1) rfl _ he8 rfl _ z8 q1 ?_; intro w2 q2 he)
  exact bodyPost_ret (ret_elem rfl _ _ (w.heap.size + 1) _ he8 rfl q2) rfl ⟨rfl, HB1.out.trans (he.below (by omega))⟩

set_option maxRecDepth 8000 in
set_option maxHeartbeats 1000000 in
theorem stopE_any (t : Bool) (A : Option Addr) (c : Nat) (fs : List Fac) (w : World) (hT : Tab w) (hF : Facs w A fs) :
    Calls Tryd.prog 13 #[.agg (sv t A fs.length c)] w fun x w' => x = .returned (.agg (uv (endE t fs topW))) ∧ Below w.heap.size w w' := by
  have z8 := EW.zeros
  have he8 := endE_ew t fs topW_lt
  have r0 : RowAt ((w.alloc (.cells (sv t A fs.length c) 24)).alloc (.cells (uv (List.replicate 8 0)) 40)) w.heap.size 24 (sv t A fs.length c) := (RowAt.new w _ _).alloc _
  have q0 : RowAt ((w.alloc (.cells (sv t A fs.length c) 24)).alloc (.cells (uv (List.replicate 8 0)) 40)) (w.heap.size + 1) 40 (uv (List.replicate 8 0)) := by
    have := RowAt.new (w.alloc (.cells (sv t A fs.length c) 24)) 40 (uv (List.replicate 8 0))
    simpa using this
  have HB0 : Hid (Below w.heap.size w ((w.alloc (.cells (sv t A fs.length c) 24)).alloc (.cells (uv (List.replicate 8 0)) 40))) := ((Below.refl _ _).alloc (Nat.le_refl _) _).alloc (by simp) _
  have HEL : Hid (∀ W, Below w.heap.size w W → Calls Tryd.prog 20 #[.agg (sv t A fs.length c), .func (.func 23) #[] #[]] W fun x w' => x = .returned (.agg (uv (endE t fs topW))) ∧ Below W.heap.size W w') := fun W h =>
    selement_any t A c fs 23 (fun _ _ => by kernel_rfl) topW topW_lt W (hT.below h) (hF.below h) fun g W hv _ h2 => stop_any g hv W h2
  clear hF hT
  generalize endE t fs topW = res at *
  generalize fs.length = n at *
  rw [← zero_elem] at r0 q0 HB0
  go_enter Tryd.func13, Tryd.ntmps13
  go_upto_region 1 with fail
  rw [zero_elem] at r0 q0 HB0 ⊢
  generalize (w.alloc (.cells (sv t A n c) 24)).alloc (.cells (uv (List.replicate 8 0)) 40) = w0 at *
  go_wp2_with (refine wpList_loadShape (by rfl) _ rfl w.heap.size rfl t A n c r0 ?_)
  refine (HEL.out _ HB0.out).mono ?_
  rintro e w1 ⟨rfl, hb⟩
  have q1 := q0.below hb q0.lt
  have HB1 := Lib.hid (HB0.out.trans (hb.mono HB0.out.size))
  clear hb q0 r0 HB0
  go_wp2_with (refine wpList_storeElem (by rfl) _ _ rfl (w.heap.size + 1) rfl _ he8 rfl _ z8 q1 ?_; intro w2 q2 he)
  exact bodyPost_ret (ret_elem rfl _ _ (w.heap.size + 1) _ he8 rfl q2) rfl ⟨rfl, HB1.out.trans (he.below (by omega))⟩

theorem leq_bad {a b : List Nat} {k : Nat} (hk : k < 8) (h : MM.subN (a.getD k 0) (b.getD k 0) = false) : leqE a b = false := by
  unfold leqE
  rw [List.all_eq_false]
  exact ⟨k, List.mem_range.2 hk, by rw [h]; simp⟩
theorem four_rows (w : World) (c1 c2 c3 c4 : Array Value) (t1 t2 t3 t4 : TypeId) :
    RowAt ((((w.alloc (.cells c1 t1)).alloc (.cells c2 t2)).alloc (.cells c3 t3)).alloc (.cells c4 t4)) w.heap.size t1 c1 ∧
    RowAt ((((w.alloc (.cells c1 t1)).alloc (.cells c2 t2)).alloc (.cells c3 t3)).alloc (.cells c4 t4)) (w.heap.size + 1) t2 c2 ∧
    RowAt ((((w.alloc (.cells c1 t1)).alloc (.cells c2 t2)).alloc (.cells c3 t3)).alloc (.cells c4 t4)) (w.heap.size + 2) t3 c3 ∧
    RowAt ((((w.alloc (.cells c1 t1)).alloc (.cells c2 t2)).alloc (.cells c3 t3)).alloc (.cells c4 t4)) (w.heap.size + 3) t4 c4 ∧
    Below w.heap.size w ((((w.alloc (.cells c1 t1)).alloc (.cells c2 t2)).alloc (.cells c3 t3)).alloc (.cells c4 t4)) := by
  have h1 := RowAt.new w t1 c1
  have h2 := RowAt.new (w.alloc (.cells c1 t1)) t2 c2
  have h3 := RowAt.new ((w.alloc (.cells c1 t1)).alloc (.cells c2 t2)) t3 c3
  have h4 := RowAt.new (((w.alloc (.cells c1 t1)).alloc (.cells c2 t2)).alloc (.cells c3 t3)) t4 c4
  simp only [World.size_alloc] at h2 h3 h4
  exact ⟨((h1.alloc _).alloc _).alloc _, (h2.alloc _).alloc _, h3.alloc _, h4, ((((Below.refl _ w).alloc (Nat.le_refl _) _).alloc (by simp) _).alloc (by simp; omega) _).alloc (by simp; omega) _⟩

end Go.Proofs.YtpgkcddhpeoiiaaDoor
