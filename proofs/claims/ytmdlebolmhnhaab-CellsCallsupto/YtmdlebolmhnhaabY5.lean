import Derived.Test.YtmdlebolmhnhaabY2
namespace Go.Proofs.Ytmdlebolmhnhaab
open Go.RowKit (wrap32 wrap64)
open Go.Maps (Keyed)
set_option linter.unusedVariables false
set_option linter.unusedSimpArgs false


set_option maxRecDepth 100000 in
set_option maxHeartbeats 2000000 in
theorem frames_push0 (w0 w : World) (wb : Nat) (N : Nat) (hN : N ≤ 2000000) (ob : Nat) (x : Obj) (hst : StP w0 wb N ob x w) (o : OpR) (hk : o.kind = 2) :
    Calls Try.prog 16 #[ptr wb, opV o, vI 0] w fun e w' => e = .returned (.bool true) ∧ StP w0 wb (N + 1) ob x w' := by
  obtain ⟨pb, rb, pg, rg, pa, ra, lv, mv, us, us', h, hR, hU, hP, hT⟩ := hst
  have HR : Hd _ := hR
  have HU : Hd _ := hU
  have HP : Hd _ := hP
  have HT : Hd _ := hT.keep (Fr.alloc (Fr.refl _ w) (.cells (opC o) 31))
  have hFl : (pa 0).frs.length ≤ 10000000000000 := by have := ((hR 0 (by omega)).1.fine (hR 0 (by omega)).2).frs; omega
  have hRl : (ra 0).frs.length ≤ 100000000 := by have := (hR 0 (by omega)).2.frs; omega
  have hF : Fr (fun _ => False) w (w.alloc (.cells (opC o) 31)) := Fr.alloc (Fr.refl _ w) _
  have HW : Hd _ := h.keep hF
  have HB : Hd _ := heap_alloc_last w (.cells (opC o) 31)
  clear h hF hR hU hP hT
  obtain ⟨c0, c1, c2, c3, -, -⟩ := HW.out.heads
  obtain ⟨p0, -, p2, p3, p4, p5, p6, p7, p8⟩ := op_cells HB.out
  rw [hk] at p0
  go_enter Try.func16, Try.ntmps16
  go_wp2_with fail
  clear p0 p2 p3 p4 p5 p6 p7 p8 c0 c1 c2 c3
  generalize w.alloc (.cells (opC o) 31) = w1 at *
  clear HB
  refine (show Calls Try.prog 9 #[ptr (pb 0)] w1 _ from push_any (pb 0) (pg 0) (pa 0) w1 (HW.out.pm 0 (by omega)) hFl).mono ?_
  rintro e w2 ⟨g2, rfl, hM2, hF2, hE2⟩
  have HW2 : Hd _ := HW.out.pcall (i := 0) (by omega) hM2 hF2 hE2
  have HT2 : Hd _ := HT.out.pcall (i := 0) (by omega) hF2 hE2
  clear HW hM2 hF2 hE2
  go_wp2_with fail
  refine (show Calls Try.prog 15 #[rptr (rb 0)] w2 _ from rpush_any (rb 0) (rg 0) (ra 0) w2 (HW2.out.rm 0 (by omega)) hRl).mono ?_
  rintro e w4 ⟨rfl, g4, hM4, hF4, hE4⟩
  have HW4 : Hd _ := HW2.out.rcall (i := 0) (by omega) hM4 hF4 hE4
  have HT4 : Hd _ := HT2.out.rcall (i := 0) (by omega) hF4 hE4
  clear HW2 hM4 hF4 hE4
  go_wp2_with fail
  go_ret
  exact ⟨by simp, StP.step (by omega) HW4.out HR.out (HR.out 0 (by omega)).1.push (HR.out 0 (by omega)).2.push HU.out HP.out HT4.out⟩

set_option maxRecDepth 100000 in
set_option maxHeartbeats 2000000 in
theorem frames_pop0 (w0 w : World) (wb : Nat) (N : Nat) (hN : N ≤ 2000000) (ob : Nat) (x : Obj) (hst : StP w0 wb N ob x w) (o : OpR) (hk : o.kind = 3) :
    Calls Try.prog 16 #[ptr wb, opV o, vI 0] w fun e w' => e = .returned (.bool true) ∧ StP w0 wb (N + 1) ob x w' := by
  obtain ⟨pb, rb, pg, rg, pa, ra, lv, mv, us, us', h, hR, hU, hP, hT⟩ := hst
  have HR : Hd _ := hR
  have HU : Hd _ := hU
  have HP : Hd _ := hP
  have HT : Hd _ := hT.keep (Fr.alloc (Fr.refl _ w) (.cells (opC o) 31))
  have HFI : Hd (Fine N (pa 0)) := (hR 0 (by omega)).1.fine (hR 0 (by omega)).2
  have HRW : Hd (RWf (ra 0)) := (hR 0 (by omega)).1.wf
  have HRL : Hd (Rel (pa 0) (ra 0)) := (hR 0 (by omega)).1
  have HRB : Hd (RB N (ra 0)) := (hR 0 (by omega)).2
  have hF : Fr (fun _ => False) w (w.alloc (.cells (opC o) 31)) := Fr.alloc (Fr.refl _ w) _
  have HW : Hd _ := h.keep hF
  have HB : Hd _ := heap_alloc_last w (.cells (opC o) 31)
  clear h hF hR hU hP hT
  obtain ⟨c0, c1, c2, c3, -, -⟩ := HW.out.heads
  obtain ⟨p0, -, p2, p3, p4, p5, p6, p7, p8⟩ := op_cells HB.out
  rw [hk] at p0
  go_enter Try.func16, Try.ntmps16
  go_wp2_with fail
  clear p0 p2 p3 p4 p5 p6 p7 p8 c0 c1 c2 c3
  generalize w.alloc (.cells (opC o) 31) = w1 at *
  clear HB
  refine (show Calls Try.prog 13 #[ptr (pb 0)] w1 _ from pop_x (pb 0) (pg 0) (pa 0) w1 (HW.out.pm 0 (by omega)) HFI.out (by omega)).mono ?_
  rintro e w2 ⟨g2, rfl, hM2, hF2, hE2⟩
  have HW2 : Hd _ := HW.out.pcall (i := 0) (by omega) hM2 hF2 hE2
  have HT2 : Hd _ := HT.out.pcall (i := 0) (by omega) hF2 hE2
  clear HW hM2 hF2 hE2
  go_wp2_with fail
  refine (show Calls Try.prog 28 #[rptr (rb 0)] w2 _ from rpop_any (rb 0) (rg 0) (ra 0) w2 (HW2.out.rm 0 (by omega)) HRW.out (by have := HRB.out.cells; omega) (by have := HRB.out.frs; omega) (fun l hl => by have := HRB.out.each l hl; omega)).mono ?_
  rintro e w4 ⟨rfl, g4, hM4, hF4, hE4⟩
  have HW4 : Hd _ := HW2.out.rcall (i := 0) (by omega) hM4 hF4 hE4
  have HT4 : Hd _ := HT2.out.rcall (i := 0) (by omega) hF4 hE4
  clear HW2 hM4 hF4 hE4
  obtain ⟨he, hr⟩ := HRL.out.pop
  rw [he]
  have HR4 : Hd _ := hr
  clear he hr
  go_wp2_with fail
  go_ret
  exact ⟨by simp, StP.step (by omega) HW4.out HR.out HR4.out (HRB.out.pop.mono (by omega)) HU.out HP.out HT4.out⟩

set_option maxRecDepth 100000 in
set_option maxHeartbeats 2000000 in
theorem frames_make0 (w0 w : World) (wb : Nat) (N : Nat) (hN : N ≤ 2000000) (ob : Nat) (x : Obj) (hst : StP w0 wb N ob x w) (o : OpR) (hk : o.kind = 4) :
    Calls Try.prog 16 #[ptr wb, opV o, vI 0] w fun e w' => e = .returned (.bool true) ∧ StP w0 wb (N + 1) ob x w' := by
  obtain ⟨pb, rb, pg, rg, pa, ra, lv, mv, us, us', h, hR, hU, hP, hT⟩ := hst
  have HR : Hd _ := hR
  have HU : Hd _ := hU
  have HP : Hd _ := hP
  have HT : Hd _ := hT.keep (Fr.alloc (Fr.refl _ w) (.cells (opC o) 31))
  have HFI : Hd (Fine N (pa 0)) := (hR 0 (by omega)).1.fine (hR 0 (by omega)).2
  have HRB : Hd (RB N (ra 0)) := (hR 0 (by omega)).2
  have HRL : Hd (Rel (pa 0) (ra 0)) := (hR 0 (by omega)).1
  have hob : (pg 0).own w.heap.size = 0 := h.zero.1 0 (by omega) _ (Nat.le_refl _)
  have hF : Fr (fun _ => False) w (w.alloc (.cells (opC o) 31)) := Fr.alloc (Fr.refl _ w) _
  have HW : Hd _ := h.keep hF
  have HB : Hd _ := heap_alloc_last w (.cells (opC o) 31)
  clear h hF hR hU hP hT
  obtain ⟨c0, c1, c2, c3, -, -⟩ := HW.out.heads
  obtain ⟨p0, -, p2, p3, p4, p5, p6, p7, p8⟩ := op_cells HB.out
  rw [hk] at p0
  go_enter Try.func16, Try.ntmps16
  go_wp2_with fail
  clear p0 p2 p3 p4 p5 p6 p7 p8 c0 c1 c2 c3
  obtain ⟨op, hoe⟩ : ∃ op, op = w.heap.size := ⟨_, rfl⟩
  rw [← hoe] at HB hob ⊢
  generalize w.alloc (.cells (opC o) 31) = w1 at *
  clear hoe
  refine (show Calls Try.prog 10 #[ptr (pb 0), vI o.n, .bool o.heap] w1 _ from make_x (pb 0) (pg 0) (pa 0) o.n o.heap w1 (HW.out.pm 0 (by omega)) HFI.out (by omega)).mono ?_
  rintro e w2 ⟨g2, rfl, hM2, hF2, hE2⟩
  have HW2 : Hd _ := HW.out.pcall (i := 0) (by omega) hM2 hF2 hE2
  have HT2 : Hd _ := HT.out.pcall (i := 0) (by omega) hF2 hE2
  have HB2 : Hd _ := (hF2.block _ (heap_lt HB.out) (fun e => e hob)).trans HB.out
  clear HW HB hM2 hF2 hE2
  obtain ⟨-, -, p2, p3, -, -, -, -, -⟩ := op_cells HB2.out
  go_wp2_with fail
  clear p2 p3 HB2
  refine (show Calls Try.prog 29 #[rptr (rb 0), vI o.n, .bool o.heap] w2 _ from rmake_any (rb 0) (rg 0) (ra 0) o.n o.heap w2 (HW2.out.rm 0 (by omega)) (by have := HRB.out.cells; omega) (by have := HRB.out.frs; omega) (fun l hl => by have := HRB.out.each l hl; omega)).mono ?_
  rintro e w4 ⟨rfl, g4, hM4, hF4, hE4⟩
  have HW4 : Hd _ := HW2.out.rcall (i := 0) (by omega) hM4 hF4 hE4
  have HT4 : Hd _ := HT2.out.rcall (i := 0) (by omega) hF4 hE4
  clear HW2 hM4 hF4 hE4
  obtain ⟨he, hr⟩ := HRL.out.make o.n o.heap
  rw [he]
  have HR4 : Hd _ := hr
  clear he hr
  go_wp2_with fail
  go_ret
  exact ⟨by simp, StP.step (by omega) HW4.out HR.out HR4.out (HRB.out.make o.n o.heap) HU.out HP.out HT4.out⟩

set_option maxRecDepth 100000 in
set_option maxHeartbeats 2000000 in
theorem frames_push1 (w0 w : World) (wb : Nat) (N : Nat) (hN : N ≤ 2000000) (ob : Nat) (x : Obj) (hst : StP w0 wb N ob x w) (o : OpR) (hk : o.kind = 2) :
    Calls Try.prog 16 #[ptr wb, opV o, vI 1] w fun e w' => e = .returned (.bool true) ∧ StP w0 wb (N + 1) ob x w' := by
  obtain ⟨pb, rb, pg, rg, pa, ra, lv, mv, us, us', h, hR, hU, hP, hT⟩ := hst
  have HR : Hd _ := hR
  have HU : Hd _ := hU
  have HP : Hd _ := hP
  have HT : Hd _ := hT.keep (Fr.alloc (Fr.refl _ w) (.cells (opC o) 31))
  have hFl : (pa 1).frs.length ≤ 10000000000000 := by have := ((hR 1 (by omega)).1.fine (hR 1 (by omega)).2).frs; omega
  have hRl : (ra 1).frs.length ≤ 100000000 := by have := (hR 1 (by omega)).2.frs; omega
  have hF : Fr (fun _ => False) w (w.alloc (.cells (opC o) 31)) := Fr.alloc (Fr.refl _ w) _
  have HW : Hd _ := h.keep hF
  have HB : Hd _ := heap_alloc_last w (.cells (opC o) 31)
  clear h hF hR hU hP hT
  obtain ⟨c0, c1, c2, c3, -, -⟩ := HW.out.heads
  obtain ⟨p0, -, p2, p3, p4, p5, p6, p7, p8⟩ := op_cells HB.out
  rw [hk] at p0
  go_enter Try.func16, Try.ntmps16
  go_wp2_with fail
  clear p0 p2 p3 p4 p5 p6 p7 p8 c0 c1 c2 c3
  generalize w.alloc (.cells (opC o) 31) = w1 at *
  clear HB
  refine (show Calls Try.prog 9 #[ptr (pb 1)] w1 _ from push_any (pb 1) (pg 1) (pa 1) w1 (HW.out.pm 1 (by omega)) hFl).mono ?_
  rintro e w2 ⟨g2, rfl, hM2, hF2, hE2⟩
  have HW2 : Hd _ := HW.out.pcall (i := 1) (by omega) hM2 hF2 hE2
  have HT2 : Hd _ := HT.out.pcall (i := 1) (by omega) hF2 hE2
  clear HW hM2 hF2 hE2
  go_wp2_with fail
  refine (show Calls Try.prog 15 #[rptr (rb 1)] w2 _ from rpush_any (rb 1) (rg 1) (ra 1) w2 (HW2.out.rm 1 (by omega)) hRl).mono ?_
  rintro e w4 ⟨rfl, g4, hM4, hF4, hE4⟩
  have HW4 : Hd _ := HW2.out.rcall (i := 1) (by omega) hM4 hF4 hE4
  have HT4 : Hd _ := HT2.out.rcall (i := 1) (by omega) hF4 hE4
  clear HW2 hM4 hF4 hE4
  go_wp2_with fail
  go_ret
  exact ⟨by simp, StP.step (by omega) HW4.out HR.out (HR.out 1 (by omega)).1.push (HR.out 1 (by omega)).2.push HU.out HP.out HT4.out⟩

set_option maxRecDepth 100000 in
set_option maxHeartbeats 2000000 in
theorem frames_pop1 (w0 w : World) (wb : Nat) (N : Nat) (hN : N ≤ 2000000) (ob : Nat) (x : Obj) (hst : StP w0 wb N ob x w) (o : OpR) (hk : o.kind = 3) :
    Calls Try.prog 16 #[ptr wb, opV o, vI 1] w fun e w' => e = .returned (.bool true) ∧ StP w0 wb (N + 1) ob x w' := by
  obtain ⟨pb, rb, pg, rg, pa, ra, lv, mv, us, us', h, hR, hU, hP, hT⟩ := hst
  have HR : Hd _ := hR
  have HU : Hd _ := hU
  have HP : Hd _ := hP
  have HT : Hd _ := hT.keep (Fr.alloc (Fr.refl _ w) (.cells (opC o) 31))
  have HFI : Hd (Fine N (pa 1)) := (hR 1 (by omega)).1.fine (hR 1 (by omega)).2
  have HRW : Hd (RWf (ra 1)) := (hR 1 (by omega)).1.wf
  have HRL : Hd (Rel (pa 1) (ra 1)) := (hR 1 (by omega)).1
  have HRB : Hd (RB N (ra 1)) := (hR 1 (by omega)).2
  have hF : Fr (fun _ => False) w (w.alloc (.cells (opC o) 31)) := Fr.alloc (Fr.refl _ w) _
  have HW : Hd _ := h.keep hF
  have HB : Hd _ := heap_alloc_last w (.cells (opC o) 31)
  clear h hF hR hU hP hT
  obtain ⟨c0, c1, c2, c3, -, -⟩ := HW.out.heads
  obtain ⟨p0, -, p2, p3, p4, p5, p6, p7, p8⟩ := op_cells HB.out
  rw [hk] at p0
  go_enter Try.func16, Try.ntmps16
  go_wp2_with fail
  clear p0 p2 p3 p4 p5 p6 p7 p8 c0 c1 c2 c3
  generalize w.alloc (.cells (opC o) 31) = w1 at *
  clear HB
  refine (show Calls Try.prog 13 #[ptr (pb 1)] w1 _ from pop_x (pb 1) (pg 1) (pa 1) w1 (HW.out.pm 1 (by omega)) HFI.out (by omega)).mono ?_
  rintro e w2 ⟨g2, rfl, hM2, hF2, hE2⟩
  have HW2 : Hd _ := HW.out.pcall (i := 1) (by omega) hM2 hF2 hE2
  have HT2 : Hd _ := HT.out.pcall (i := 1) (by omega) hF2 hE2
  clear HW hM2 hF2 hE2
  go_wp2_with fail
  refine (show Calls Try.prog 28 #[rptr (rb 1)] w2 _ from rpop_any (rb 1) (rg 1) (ra 1) w2 (HW2.out.rm 1 (by omega)) HRW.out (by have := HRB.out.cells; omega) (by have := HRB.out.frs; omega) (fun l hl => by have := HRB.out.each l hl; omega)).mono ?_
  rintro e w4 ⟨rfl, g4, hM4, hF4, hE4⟩
  have HW4 : Hd _ := HW2.out.rcall (i := 1) (by omega) hM4 hF4 hE4
  have HT4 : Hd _ := HT2.out.rcall (i := 1) (by omega) hF4 hE4
  clear HW2 hM4 hF4 hE4
  obtain ⟨he, hr⟩ := HRL.out.pop
  rw [he]
  have HR4 : Hd _ := hr
  clear he hr
  go_wp2_with fail
  go_ret
  exact ⟨by simp, StP.step (by omega) HW4.out HR.out HR4.out (HRB.out.pop.mono (by omega)) HU.out HP.out HT4.out⟩

set_option maxRecDepth 100000 in
set_option maxHeartbeats 2000000 in
theorem frames_make1 (w0 w : World) (wb : Nat) (N : Nat) (hN : N ≤ 2000000) (ob : Nat) (x : Obj) (hst : StP w0 wb N ob x w) (o : OpR) (hk : o.kind = 4) :
    Calls Try.prog 16 #[ptr wb, opV o, vI 1] w fun e w' => e = .returned (.bool true) ∧ StP w0 wb (N + 1) ob x w' := by
  obtain ⟨pb, rb, pg, rg, pa, ra, lv, mv, us, us', h, hR, hU, hP, hT⟩ := hst
  have HR : Hd _ := hR
  have HU : Hd _ := hU
  have HP : Hd _ := hP
  have HT : Hd _ := hT.keep (Fr.alloc (Fr.refl _ w) (.cells (opC o) 31))
  have HFI : Hd (Fine N (pa 1)) := (hR 1 (by omega)).1.fine (hR 1 (by omega)).2
  have HRB : Hd (RB N (ra 1)) := (hR 1 (by omega)).2
  have HRL : Hd (Rel (pa 1) (ra 1)) := (hR 1 (by omega)).1
  have hob : (pg 1).own w.heap.size = 0 := h.zero.1 1 (by omega) _ (Nat.le_refl _)
  have hF : Fr (fun _ => False) w (w.alloc (.cells (opC o) 31)) := Fr.alloc (Fr.refl _ w) _
  have HW : Hd _ := h.keep hF
  have HB : Hd _ := heap_alloc_last w (.cells (opC o) 31)
  clear h hF hR hU hP hT
  obtain ⟨c0, c1, c2, c3, -, -⟩ := HW.out.heads
  obtain ⟨p0, -, p2, p3, p4, p5, p6, p7, p8⟩ := op_cells HB.out
  rw [hk] at p0
  go_enter Try.func16, Try.ntmps16
  go_wp2_with fail
  clear p0 p2 p3 p4 p5 p6 p7 p8 c0 c1 c2 c3
  obtain ⟨op, hoe⟩ : ∃ op, op = w.heap.size := ⟨_, rfl⟩
  rw [← hoe] at HB hob ⊢
  generalize w.alloc (.cells (opC o) 31) = w1 at *
  clear hoe
  refine (show Calls Try.prog 10 #[ptr (pb 1), vI o.n, .bool o.heap] w1 _ from make_x (pb 1) (pg 1) (pa 1) o.n o.heap w1 (HW.out.pm 1 (by omega)) HFI.out (by omega)).mono ?_
  rintro e w2 ⟨g2, rfl, hM2, hF2, hE2⟩
  have HW2 : Hd _ := HW.out.pcall (i := 1) (by omega) hM2 hF2 hE2
  have HT2 : Hd _ := HT.out.pcall (i := 1) (by omega) hF2 hE2
  have HB2 : Hd _ := (hF2.block _ (heap_lt HB.out) (fun e => e hob)).trans HB.out
  clear HW HB hM2 hF2 hE2
  obtain ⟨-, -, p2, p3, -, -, -, -, -⟩ := op_cells HB2.out
  go_wp2_with fail
  clear p2 p3 HB2
  refine (show Calls Try.prog 29 #[rptr (rb 1), vI o.n, .bool o.heap] w2 _ from rmake_any (rb 1) (rg 1) (ra 1) o.n o.heap w2 (HW2.out.rm 1 (by omega)) (by have := HRB.out.cells; omega) (by have := HRB.out.frs; omega) (fun l hl => by have := HRB.out.each l hl; omega)).mono ?_
  rintro e w4 ⟨rfl, g4, hM4, hF4, hE4⟩
  have HW4 : Hd _ := HW2.out.rcall (i := 1) (by omega) hM4 hF4 hE4
  have HT4 : Hd _ := HT2.out.rcall (i := 1) (by omega) hF4 hE4
  clear HW2 hM4 hF4 hE4
  obtain ⟨he, hr⟩ := HRL.out.make o.n o.heap
  rw [he]
  have HR4 : Hd _ := hr
  clear he hr
  go_wp2_with fail
  go_ret
  exact ⟨by simp, StP.step (by omega) HW4.out HR.out HR4.out (HRB.out.make o.n o.heap) HU.out HP.out HT4.out⟩

end Go.Proofs.Ytmdlebolmhnhaab
