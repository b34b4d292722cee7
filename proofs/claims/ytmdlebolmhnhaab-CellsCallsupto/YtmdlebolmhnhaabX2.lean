import Derived.Test.YtmdlebolmhnhaabX1
import Derived.Deep.RegionHeld3
namespace Go.Proofs.Ytmdlebolmhnhaab
open Go.RowKit (wrap32 wrap64)
open Go.Maps (Keyed)
set_option linter.unusedVariables false
set_option linter.unusedSimpArgs false

theorem Wd.zero {w0 w : World} {wb : Nat} {pb rb : Nat → Nat} {pg : Nat → Gh} {rg : Nat → RG} {pa : Nat → Abs} {ra : Nat → RA} {lv mv : Value} {us us' : List (Value × List Int)} (h : Wd w0 w wb pb rb pg rg pa ra lv mv us us') : (∀ j, j < 2 → ∀ k, w.heap.size ≤ k → (pg j).own k = 0) ∧ (∀ j, j < 2 → ∀ k, w.heap.size ≤ k → (rg j).own k = 0) :=
  ⟨fun j hj k hk => by
    by_cases e : (pg j).own k = 0
    · exact e
    · have := (h.pm j hj).olt k e; omega,
   fun j hj k hk => by
    by_cases e : (rg j).own k = 0
    · exact e
    · have := (h.rm j hj).olt k e; omega⟩

set_option maxRecDepth 100000 in
set_option maxHeartbeats 4000000 in
theorem values_store0 (w0 w : World) (wb : Nat) (pb rb : Nat → Nat) (pg : Nat → Gh) (rg : Nat → RG) (pa : Nat → Abs) (ra : Nat → RA) (lv mv : Value) (us us' : List (Value × List Int)) (h : Wd w0 w wb pb rb pg rg pa ra lv mv us us') (hrel : Rel (pa 0) (ra 0)) (hlen : (ra 0).cells.length ≤ 16000000) (hgl : (ra 0).gl.length ≤ 16) (o : OpR) (hk : o.kind = 6) :
    Calls Try.prog 17 #[ptr wb, opV o, vI 0] w fun e w' => e = .returned (.bool true) ∧ (∃ pg' rg', Wd w0 w' wb pb rb pg' rg' (at1 pa 0 (storeX (pa 0) o.v o.n o.w).1) (at1 ra 0 (rstoreX (ra 0) o.v o.n o.w).1) lv mv us us') ∧ Rel (storeX (pa 0) o.v o.n o.w).1 (rstoreX (ra 0) o.v o.n o.w).1 := by
  have hF : Fr (fun _ => False) w (w.alloc (.cells (opC o) 31)) := Fr.alloc (Fr.refl _ w) _
  have HW : Hd _ := h.keep hF
  have HB : Hd _ := heap_alloc_last w (.cells (opC o) 31)
  have HR : Hd _ := hrel
  have hob : (pg 0).own w.heap.size = 0 := h.zero.1 0 (by omega) _ (Nat.le_refl _)
  have hoR : (rg 0).own w.heap.size = 0 := h.zero.2 0 (by omega) _ (Nat.le_refl _)
  clear h hrel hF
  have hma : (pa 0).made ≤ 1000000000000000 := by have := HR.out.made; omega
  obtain ⟨c0, c1, c2, c3, -, -⟩ := HW.out.heads
  obtain ⟨p0, -, p2, p3, p4, p5, p6, p7, p8⟩ := op_cells HB.out
  rw [hk] at p0
  go_enter Try.func17, Try.ntmps17
  go_wp2_with fail
  clear p0 p3 p8 c0 c1 c2 c3
  obtain ⟨ob, hoe⟩ : ∃ ob, ob = w.heap.size := ⟨_, rfl⟩
  rw [← hoe] at HB hob hoR p2 p4 p5 p6 p7 ⊢
  generalize w.alloc (.cells (opC o) 31) = w1 at *
  have hobl : ob < w1.heap.size := heap_lt HB.out
  have hob2 : (rg 0).own ob = 0 := hoR
  have HWd : Hd _ := HW.out.keep (Fr.drew (Fr.refl _ w1))
  clear hoe hoR HB HW
  go_region_held3 (fun w' => w'.cell? ⟨ob, 2, none⟩ = some (vI o.n) ∧ w'.cell? ⟨ob, 4, none⟩ = some (vI o.v.1) ∧ w'.cell? ⟨ob, 5, none⟩ = some (vI o.v.2) ∧ w'.cell? ⟨ob, 6, none⟩ = some (vI o.w.1) ∧ w'.cell? ⟨ob, 7, none⟩ = some (vI o.w.2)) (go_keep) ((
    first
      | (go_at_call 11
         refine (show Calls Try.prog 11 #[ptr (pb 0), vv o.v, vI o.n, vv o.w] w1.drew _ from store_any (pb 0) (pg 0) (pa 0) o.v o.n o.w w1.drew (HWd.out.pm 0 (by omega)) hma).mono ?_
         rintro e w2 ⟨rfl, hM2, hF2⟩
         have HW2 : Hd _ := HWd.out.pcall (i := 0) (by omega) hM2 hF2 (fun _ _ => rfl)
         have hG2 : Fr (fun j => (pg 0).own j ≠ 0) w1 w2 := (Fr.drew (Fr.refl _ w1)).trans hF2
         have s2 := (hG2.cell hobl (fun h => h hob)).trans p2
         have s4 := (hG2.cell hobl (fun h => h hob)).trans p4
         have s5 := (hG2.cell hobl (fun h => h hob)).trans p5
         have s6 := (hG2.cell hobl (fun h => h hob)).trans p6
         have s7 := (hG2.cell hobl (fun h => h hob)).trans p7
         have hobl2 : ob < w2.heap.size := Nat.lt_of_lt_of_le hobl hG2.size
         clear hM2 hF2 hG2)
      | (go_at_call 36
         refine (show Calls Try.prog 36 #[rptr (rb 0), vv o.v, vI o.n, vv o.w] w2 _ from rstore_any (rb 0) (rg 0) (ra 0) o.v o.n o.w w2 (HW2.out.rm 0 (by omega)) (by omega)).mono ?_
         rintro e w4 ⟨rfl, hM4, hF4⟩
         have HW4 : Hd _ := HW2.out.rcall (i := 0) (by omega) hM4 hF4 (fun _ _ => rfl)
         have t2 := (hF4.cell hobl2 (fun h => h hob2)).trans s2
         have t4 := (hF4.cell hobl2 (fun h => h hob2)).trans s4
         have t5 := (hF4.cell hobl2 (fun h => h hob2)).trans s5
         have t6 := (hF4.cell hobl2 (fun h => h hob2)).trans s6
         have t7 := (hF4.cell hobl2 (fun h => h hob2)).trans s7
         obtain ⟨he, hr⟩ := HR.out.store o.v o.n o.w
         rw [he]
         have HR4 : Hd _ := hr
         clear he hr hM4 hF4)))
  go_wp2_with fail
  go_ret
  exact ⟨by simp, ⟨_, _, HW4.out⟩, HR4.out⟩

set_option maxRecDepth 100000 in
set_option maxHeartbeats 4000000 in
theorem values_store1 (w0 w : World) (wb : Nat) (pb rb : Nat → Nat) (pg : Nat → Gh) (rg : Nat → RG) (pa : Nat → Abs) (ra : Nat → RA) (lv mv : Value) (us us' : List (Value × List Int)) (h : Wd w0 w wb pb rb pg rg pa ra lv mv us us') (hrel : Rel (pa 1) (ra 1)) (hlen : (ra 1).cells.length ≤ 16000000) (hgl : (ra 1).gl.length ≤ 16) (o : OpR) (hk : o.kind = 6) :
    Calls Try.prog 17 #[ptr wb, opV o, vI 1] w fun e w' => e = .returned (.bool true) ∧ (∃ pg' rg', Wd w0 w' wb pb rb pg' rg' (at1 pa 1 (storeX (pa 1) o.v o.n o.w).1) (at1 ra 1 (rstoreX (ra 1) o.v o.n o.w).1) lv mv us us') ∧ Rel (storeX (pa 1) o.v o.n o.w).1 (rstoreX (ra 1) o.v o.n o.w).1 := by
  have hF : Fr (fun _ => False) w (w.alloc (.cells (opC o) 31)) := Fr.alloc (Fr.refl _ w) _
  have HW : Hd _ := h.keep hF
  have HB : Hd _ := heap_alloc_last w (.cells (opC o) 31)
  have HR : Hd _ := hrel
  have hob : (pg 1).own w.heap.size = 0 := h.zero.1 1 (by omega) _ (Nat.le_refl _)
  have hoR : (rg 1).own w.heap.size = 0 := h.zero.2 1 (by omega) _ (Nat.le_refl _)
  clear h hrel hF
  have hma : (pa 1).made ≤ 1000000000000000 := by have := HR.out.made; omega
  obtain ⟨c0, c1, c2, c3, -, -⟩ := HW.out.heads
  obtain ⟨p0, -, p2, p3, p4, p5, p6, p7, p8⟩ := op_cells HB.out
  rw [hk] at p0
  go_enter Try.func17, Try.ntmps17
  go_wp2_with fail
  clear p0 p3 p8 c0 c1 c2 c3
  obtain ⟨ob, hoe⟩ : ∃ ob, ob = w.heap.size := ⟨_, rfl⟩
  rw [← hoe] at HB hob hoR p2 p4 p5 p6 p7 ⊢
  generalize w.alloc (.cells (opC o) 31) = w1 at *
  have hobl : ob < w1.heap.size := heap_lt HB.out
  have hob2 : (rg 1).own ob = 0 := hoR
  have HWd : Hd _ := HW.out.keep (Fr.drew (Fr.refl _ w1))
  clear hoe hoR HB HW
  go_region_held3 (fun w' => w'.cell? ⟨ob, 2, none⟩ = some (vI o.n) ∧ w'.cell? ⟨ob, 4, none⟩ = some (vI o.v.1) ∧ w'.cell? ⟨ob, 5, none⟩ = some (vI o.v.2) ∧ w'.cell? ⟨ob, 6, none⟩ = some (vI o.w.1) ∧ w'.cell? ⟨ob, 7, none⟩ = some (vI o.w.2)) (go_keep) ((
    first
      | (go_at_call 11
         refine (show Calls Try.prog 11 #[ptr (pb 1), vv o.v, vI o.n, vv o.w] w1.drew _ from store_any (pb 1) (pg 1) (pa 1) o.v o.n o.w w1.drew (HWd.out.pm 1 (by omega)) hma).mono ?_
         rintro e w2 ⟨rfl, hM2, hF2⟩
         have HW2 : Hd _ := HWd.out.pcall (i := 1) (by omega) hM2 hF2 (fun _ _ => rfl)
         have hG2 : Fr (fun j => (pg 1).own j ≠ 0) w1 w2 := (Fr.drew (Fr.refl _ w1)).trans hF2
         have s2 := (hG2.cell hobl (fun h => h hob)).trans p2
         have s4 := (hG2.cell hobl (fun h => h hob)).trans p4
         have s5 := (hG2.cell hobl (fun h => h hob)).trans p5
         have s6 := (hG2.cell hobl (fun h => h hob)).trans p6
         have s7 := (hG2.cell hobl (fun h => h hob)).trans p7
         have hobl2 : ob < w2.heap.size := Nat.lt_of_lt_of_le hobl hG2.size
         clear hM2 hF2 hG2)
      | (go_at_call 36
         refine (show Calls Try.prog 36 #[rptr (rb 1), vv o.v, vI o.n, vv o.w] w2 _ from rstore_any (rb 1) (rg 1) (ra 1) o.v o.n o.w w2 (HW2.out.rm 1 (by omega)) (by omega)).mono ?_
         rintro e w4 ⟨rfl, hM4, hF4⟩
         have HW4 : Hd _ := HW2.out.rcall (i := 1) (by omega) hM4 hF4 (fun _ _ => rfl)
         have t2 := (hF4.cell hobl2 (fun h => h hob2)).trans s2
         have t4 := (hF4.cell hobl2 (fun h => h hob2)).trans s4
         have t5 := (hF4.cell hobl2 (fun h => h hob2)).trans s5
         have t6 := (hF4.cell hobl2 (fun h => h hob2)).trans s6
         have t7 := (hF4.cell hobl2 (fun h => h hob2)).trans s7
         obtain ⟨he, hr⟩ := HR.out.store o.v o.n o.w
         rw [he]
         have HR4 : Hd _ := hr
         clear he hr hM4 hF4)))
  go_wp2_with fail
  go_ret
  exact ⟨by simp, ⟨_, _, HW4.out⟩, HR4.out⟩

set_option maxRecDepth 100000 in
set_option maxHeartbeats 4000000 in
theorem values_set0 (w0 w : World) (wb : Nat) (pb rb : Nat → Nat) (pg : Nat → Gh) (rg : Nat → RG) (pa : Nat → Abs) (ra : Nat → RA) (lv mv : Value) (us us' : List (Value × List Int)) (h : Wd w0 w wb pb rb pg rg pa ra lv mv us us') (hrel : Rel (pa 0) (ra 0)) (hlen : (ra 0).cells.length ≤ 16000000) (hgl : (ra 0).gl.length ≤ 16) (o : OpR) (hk : o.kind = 8) :
    Calls Try.prog 17 #[ptr wb, opV o, vI 0] w fun e w' => e = .returned (.bool true) ∧ (∃ pg' rg', Wd w0 w' wb pb rb pg' rg' (at1 pa 0 (setGlobalX (pa 0) o.n o.v).1) (at1 ra 0 (rsetGlobalX (ra 0) o.n o.v).1) lv mv us us') ∧ Rel (setGlobalX (pa 0) o.n o.v).1 (rsetGlobalX (ra 0) o.n o.v).1 := by
  have hF : Fr (fun _ => False) w (w.alloc (.cells (opC o) 31)) := Fr.alloc (Fr.refl _ w) _
  have HW : Hd _ := h.keep hF
  have HB : Hd _ := heap_alloc_last w (.cells (opC o) 31)
  have HR : Hd _ := hrel
  have hob : (pg 0).own w.heap.size = 0 := h.zero.1 0 (by omega) _ (Nat.le_refl _)
  have hoR : (rg 0).own w.heap.size = 0 := h.zero.2 0 (by omega) _ (Nat.le_refl _)
  clear h hrel hF
  have hma : (pa 0).made ≤ 1000000000000000 := by have := HR.out.made; omega
  obtain ⟨c0, c1, c2, c3, -, -⟩ := HW.out.heads
  obtain ⟨p0, -, p2, p3, p4, p5, p6, p7, p8⟩ := op_cells HB.out
  rw [hk] at p0
  go_enter Try.func17, Try.ntmps17
  go_wp2_with fail
  clear p0 p3 p8 c0 c1 c2 c3
  obtain ⟨ob, hoe⟩ : ∃ ob, ob = w.heap.size := ⟨_, rfl⟩
  rw [← hoe] at HB hob hoR p2 p4 p5 p6 p7 ⊢
  generalize w.alloc (.cells (opC o) 31) = w1 at *
  have hobl : ob < w1.heap.size := heap_lt HB.out
  have hob2 : (rg 0).own ob = 0 := hoR
  have HWd : Hd _ := HW.out.keep (Fr.drew (Fr.refl _ w1))
  clear hoe hoR HB HW
  go_region_held3 (fun w' => w'.cell? ⟨ob, 2, none⟩ = some (vI o.n) ∧ w'.cell? ⟨ob, 4, none⟩ = some (vI o.v.1) ∧ w'.cell? ⟨ob, 5, none⟩ = some (vI o.v.2) ∧ w'.cell? ⟨ob, 6, none⟩ = some (vI o.w.1) ∧ w'.cell? ⟨ob, 7, none⟩ = some (vI o.w.2)) (go_keep) ((
    first
      | (go_at_call 37
         refine (show Calls Try.prog 37 #[ptr (pb 0), vI o.n, vv o.v] w1.drew _ from setGlobal_any (pb 0) (pg 0) (pa 0) o.n o.v w1.drew (HWd.out.pm 0 (by omega))).mono ?_
         rintro e w2 ⟨rfl, hM2, hF2⟩
         have HW2 : Hd _ := HWd.out.pcall (i := 0) (by omega) hM2 hF2 (fun _ _ => rfl)
         have hG2 : Fr (fun j => (pg 0).own j ≠ 0) w1 w2 := (Fr.drew (Fr.refl _ w1)).trans hF2
         have s2 := (hG2.cell hobl (fun h => h hob)).trans p2
         have s4 := (hG2.cell hobl (fun h => h hob)).trans p4
         have s5 := (hG2.cell hobl (fun h => h hob)).trans p5
         have s6 := (hG2.cell hobl (fun h => h hob)).trans p6
         have s7 := (hG2.cell hobl (fun h => h hob)).trans p7
         have hobl2 : ob < w2.heap.size := Nat.lt_of_lt_of_le hobl hG2.size
         clear hM2 hF2 hG2)
      | (go_at_call 38
         refine (show Calls Try.prog 38 #[rptr (rb 0), vI o.n, vv o.v] w2 _ from rsetGlobal_any (rb 0) (rg 0) (ra 0) o.n o.v w2 (HW2.out.rm 0 (by omega)) (by omega)).mono ?_
         rintro e w4 ⟨rfl, hM4, hF4⟩
         have HW4 : Hd _ := HW2.out.rcall (i := 0) (by omega) hM4 hF4 (fun _ _ => rfl)
         have t2 := (hF4.cell hobl2 (fun h => h hob2)).trans s2
         have t4 := (hF4.cell hobl2 (fun h => h hob2)).trans s4
         have t5 := (hF4.cell hobl2 (fun h => h hob2)).trans s5
         have t6 := (hF4.cell hobl2 (fun h => h hob2)).trans s6
         have t7 := (hF4.cell hobl2 (fun h => h hob2)).trans s7
         obtain ⟨he, hr⟩ := HR.out.setGlobal o.n o.v
         rw [he]
         have HR4 : Hd _ := hr
         clear he hr hM4 hF4)))
  go_wp2_with fail
  go_ret
  exact ⟨by simp, ⟨_, _, HW4.out⟩, HR4.out⟩

set_option maxRecDepth 100000 in
set_option maxHeartbeats 4000000 in
theorem values_set1 (w0 w : World) (wb : Nat) (pb rb : Nat → Nat) (pg : Nat → Gh) (rg : Nat → RG) (pa : Nat → Abs) (ra : Nat → RA) (lv mv : Value) (us us' : List (Value × List Int)) (h : Wd w0 w wb pb rb pg rg pa ra lv mv us us') (hrel : Rel (pa 1) (ra 1)) (hlen : (ra 1).cells.length ≤ 16000000) (hgl : (ra 1).gl.length ≤ 16) (o : OpR) (hk : o.kind = 8) :
    Calls Try.prog 17 #[ptr wb, opV o, vI 1] w fun e w' => e = .returned (.bool true) ∧ (∃ pg' rg', Wd w0 w' wb pb rb pg' rg' (at1 pa 1 (setGlobalX (pa 1) o.n o.v).1) (at1 ra 1 (rsetGlobalX (ra 1) o.n o.v).1) lv mv us us') ∧ Rel (setGlobalX (pa 1) o.n o.v).1 (rsetGlobalX (ra 1) o.n o.v).1 := by
  have hF : Fr (fun _ => False) w (w.alloc (.cells (opC o) 31)) := Fr.alloc (Fr.refl _ w) _
  have HW : Hd _ := h.keep hF
  have HB : Hd _ := heap_alloc_last w (.cells (opC o) 31)
  have HR : Hd _ := hrel
  have hob : (pg 1).own w.heap.size = 0 := h.zero.1 1 (by omega) _ (Nat.le_refl _)
  have hoR : (rg 1).own w.heap.size = 0 := h.zero.2 1 (by omega) _ (Nat.le_refl _)
  clear h hrel hF
  have hma : (pa 1).made ≤ 1000000000000000 := by have := HR.out.made; omega
  obtain ⟨c0, c1, c2, c3, -, -⟩ := HW.out.heads
  obtain ⟨p0, -, p2, p3, p4, p5, p6, p7, p8⟩ := op_cells HB.out
  rw [hk] at p0
  go_enter Try.func17, Try.ntmps17
  go_wp2_with fail
  clear p0 p3 p8 c0 c1 c2 c3
  obtain ⟨ob, hoe⟩ : ∃ ob, ob = w.heap.size := ⟨_, rfl⟩
  rw [← hoe] at HB hob hoR p2 p4 p5 p6 p7 ⊢
  generalize w.alloc (.cells (opC o) 31) = w1 at *
  have hobl : ob < w1.heap.size := heap_lt HB.out
  have hob2 : (rg 1).own ob = 0 := hoR
  have HWd : Hd _ := HW.out.keep (Fr.drew (Fr.refl _ w1))
  clear hoe hoR HB HW
  go_region_held3 (fun w' => w'.cell? ⟨ob, 2, none⟩ = some (vI o.n) ∧ w'.cell? ⟨ob, 4, none⟩ = some (vI o.v.1) ∧ w'.cell? ⟨ob, 5, none⟩ = some (vI o.v.2) ∧ w'.cell? ⟨ob, 6, none⟩ = some (vI o.w.1) ∧ w'.cell? ⟨ob, 7, none⟩ = some (vI o.w.2)) (go_keep) ((
    first
      | (go_at_call 37
         refine (show Calls Try.prog 37 #[ptr (pb 1), vI o.n, vv o.v] w1.drew _ from setGlobal_any (pb 1) (pg 1) (pa 1) o.n o.v w1.drew (HWd.out.pm 1 (by omega))).mono ?_
         rintro e w2 ⟨rfl, hM2, hF2⟩
         have HW2 : Hd _ := HWd.out.pcall (i := 1) (by omega) hM2 hF2 (fun _ _ => rfl)
         have hG2 : Fr (fun j => (pg 1).own j ≠ 0) w1 w2 := (Fr.drew (Fr.refl _ w1)).trans hF2
         have s2 := (hG2.cell hobl (fun h => h hob)).trans p2
         have s4 := (hG2.cell hobl (fun h => h hob)).trans p4
         have s5 := (hG2.cell hobl (fun h => h hob)).trans p5
         have s6 := (hG2.cell hobl (fun h => h hob)).trans p6
         have s7 := (hG2.cell hobl (fun h => h hob)).trans p7
         have hobl2 : ob < w2.heap.size := Nat.lt_of_lt_of_le hobl hG2.size
         clear hM2 hF2 hG2)
      | (go_at_call 38
         refine (show Calls Try.prog 38 #[rptr (rb 1), vI o.n, vv o.v] w2 _ from rsetGlobal_any (rb 1) (rg 1) (ra 1) o.n o.v w2 (HW2.out.rm 1 (by omega)) (by omega)).mono ?_
         rintro e w4 ⟨rfl, hM4, hF4⟩
         have HW4 : Hd _ := HW2.out.rcall (i := 1) (by omega) hM4 hF4 (fun _ _ => rfl)
         have t2 := (hF4.cell hobl2 (fun h => h hob2)).trans s2
         have t4 := (hF4.cell hobl2 (fun h => h hob2)).trans s4
         have t5 := (hF4.cell hobl2 (fun h => h hob2)).trans s5
         have t6 := (hF4.cell hobl2 (fun h => h hob2)).trans s6
         have t7 := (hF4.cell hobl2 (fun h => h hob2)).trans s7
         obtain ⟨he, hr⟩ := HR.out.setGlobal o.n o.v
         rw [he]
         have HR4 : Hd _ := hr
         clear he hr hM4 hF4)))
  go_wp2_with fail
  go_ret
  exact ⟨by simp, ⟨_, _, HW4.out⟩, HR4.out⟩

end Go.Proofs.Ytmdlebolmhnhaab
