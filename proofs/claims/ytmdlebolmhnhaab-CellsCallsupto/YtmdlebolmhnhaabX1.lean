import Derived.Test.YtmdlebolmhnhaabW1
namespace Go.Proofs.Ytmdlebolmhnhaab
open Go.RowKit (wrap32 wrap64)
open Go.Maps (Keyed)
set_option linter.unusedVariables false
set_option linter.unusedSimpArgs false

section
variable {w0 w w' : World} {wb : Nat} {pb rb : Nat → Nat} {pg : Nat → Gh} {rg : Nat → RG} {pa : Nat → Abs} {ra : Nat → RA} {lv mv : Value} {us us' : List (Value × List Int)}

theorem Wd.heads (h : Wd w0 w wb pb rb pg rg pa ra lv mv us us') :
    w.cell? ⟨wb, 0, none⟩ = some (ptr (pb 0)) ∧ w.cell? ⟨wb, 1, none⟩ = some (ptr (pb 1)) ∧ w.cell? ⟨wb, 2, none⟩ = some (rptr (rb 0)) ∧ w.cell? ⟨wb, 3, none⟩ = some (rptr (rb 1)) ∧ w.cell? ⟨wb, 4, none⟩ = some lv ∧ w.cell? ⟨wb, 5, none⟩ = some mv := by
  simp only [cell_of h.blk]
  exact ⟨rfl, rfl, rfl, rfl, rfl, rfl⟩
end

set_option maxRecDepth 100000 in
set_option maxHeartbeats 4000000 in
/-- values, of the calls that only read. -/
theorem values_read0 (w0 w : World) (wb : Nat) (pb rb : Nat → Nat) (pg : Nat → Gh) (rg : Nat → RG) (pa : Nat → Abs) (ra : Nat → RA) (lv mv : Value) (us us' : List (Value × List Int)) (h : Wd w0 w wb pb rb pg rg pa ra lv mv us us') (hrel : Rel (pa 0) (ra 0)) (hlen : (ra 0).cells.length ≤ 16000000) (hgl : (ra 0).gl.length ≤ 16) (o : OpR) (h1 : o.kind ≠ 1) (h6 : o.kind ≠ 6) (h8 : o.kind ≠ 8) :
    Calls Try.prog 17 #[ptr wb, opV o, vI 0] w fun e w' => e = .returned (.bool true) ∧ Fr (fun _ => False) w w' := by
  have hF : Fr (fun _ => False) w (w.alloc (.cells (opC o) 31)) := Fr.alloc (Fr.refl _ w) _
  have HW : Hd _ := h.keep hF
  have HB : Hd _ := heap_alloc_last w (.cells (opC o) 31)
  have HF : Hd _ := hF
  have HR : Hd _ := hrel
  clear h hF hrel
  have hma : (pa 0).made ≤ 1000000000000000 := by have := HR.out.made; omega
  obtain ⟨c0, c1, c2, c3, -, -⟩ := HW.out.heads
  obtain ⟨p0, -, p2, p3, p4, p5, p6, p7, p8⟩ := op_cells HB.out
  have e1 := eqb_false h1
  have e6 := eqb_false h6
  have e8 := eqb_false h8
  by_cases h5 : o.kind = 5
  · rw [h5] at p0
    go_enter Try.func17, Try.ntmps17
    go_wp2_with fail
    clear p0 p2 p3 p4 p5 p6 p7 p8 c0 c1 c2 c3
    generalize w.alloc (.cells (opC o) 31) = w1 at *
    obtain ⟨ob, hob⟩ : ∃ ob, ob = w.heap.size := ⟨_, rfl⟩
    rw [← hob] at HB ⊢
    clear hob
    refine (show Calls Try.prog 12 #[ptr (pb 0), vv o.v, vI o.n] w1 _ from load_any (pb 0) (pg 0) (pa 0) o.v o.n w1 (HW.out.pm 0 (by omega)) hma).mono ?_
    rintro e w2 ⟨rfl, hF2⟩
    obtain ⟨lx, hlx⟩ : ∃ lx, loadX (pa 0) o.v o.n = lx := ⟨_, rfl⟩
    have HLX : Hd (rloadX (ra 0) o.v o.n = lx) := by unfold Hd; rw [← HR.out.load]; exact hlx
    rw [hlx]
    clear hlx
    obtain ⟨y, er⟩ := lx
    have hFa : Fr (fun _ => False) w1 (w2.alloc (.cells #[vI y.1, vI y.2] 28)) := Fr.alloc hF2 _
    have HW3 : Hd _ := HW.out.keep hFa
    have HB3 : Hd _ := (hFa.block _ (heap_lt HB.out) (fun h => h)).trans HB.out
    have HV3 : Hd _ := heap_alloc_last w2 (.cells #[vI y.1, vI y.2] 28)
    have HF3 : Hd _ := HF.out.trans hFa
    clear hF2 hFa HW HB HF
    obtain ⟨p0, -, p2, p3, p4, p5, p6, p7, p8⟩ := op_cells HB3.out
    go_wp2_with fail
    clear p0 p2 p3 p4 p5 p6 p7 p8
    generalize w2.alloc (.cells #[vI y.1, vI y.2] 28) = w3 at *
    obtain ⟨vb, hvb⟩ : ∃ vb, vb = w2.heap.size := ⟨_, rfl⟩
    rw [← hvb] at HV3 ⊢
    clear hvb
    refine (show Calls Try.prog 22 #[rptr (rb 0), vv o.v, vI o.n] w3 _ from rload_any (rb 0) (rg 0) (ra 0) o.v o.n w3 (HW3.out.rm 0 (by omega)) (by omega)).mono ?_
    rintro e w4 ⟨rfl, hF4⟩
    rw [HLX.out]
    have hFb : Fr (fun _ => False) w3 (w4.alloc (.cells #[vI y.1, vI y.2] 28)) := Fr.alloc hF4 _
    have V5 := (hFb.block _ (heap_lt HV3.out) (fun h => h)).trans HV3.out
    have U5 := heap_alloc_last w4 (.cells #[vI y.1, vI y.2] 28)
    have HF5 : Hd _ := HF3.out.trans hFb
    have a0 : (w4.alloc (.cells #[vI y.1, vI y.2] 28)).cell? ⟨vb, 0, none⟩ = some (vI y.1) := by rw [cell_of V5]; rfl
    have a1 : (w4.alloc (.cells #[vI y.1, vI y.2] 28)).cell? ⟨vb, 1, none⟩ = some (vI y.2) := by rw [cell_of V5]; rfl
    clear hF4 hFb V5 U5 HW3 HB3 HV3 HF3
    go_wp2_with fail
    go_ret
    exact ⟨by simp, HF5.out⟩
  · by_cases h7 : o.kind = 7
    · rw [h7] at p0
      go_enter Try.func17, Try.ntmps17
      go_wp2_with fail
      clear p0 p2 p3 p4 p5 p6 p7 p8 c0 c1 c2 c3
      generalize w.alloc (.cells (opC o) 31) = w1 at *
      obtain ⟨ob, hob⟩ : ∃ ob, ob = w.heap.size := ⟨_, rfl⟩
      rw [← hob] at HB ⊢
      clear hob
      refine (show Calls Try.prog 23 #[ptr (pb 0), vI o.n] w1 _ from global_any (pb 0) (pg 0) (pa 0) o.n w1 (HW.out.pm 0 (by omega))).mono ?_
      rintro e w2 ⟨rfl, hF2⟩
      obtain ⟨lx, hlx⟩ : ∃ lx, globalX (pa 0) o.n = lx := ⟨_, rfl⟩
      have HLX : Hd (rglobalX (ra 0) o.n = lx) := by unfold Hd; rw [← HR.out.global]; exact hlx
      rw [hlx]
      clear hlx
      obtain ⟨y, er⟩ := lx
      have hFa : Fr (fun _ => False) w1 (w2.alloc (.cells #[vI y.1, vI y.2] 28)) := Fr.alloc hF2 _
      have HW3 : Hd _ := HW.out.keep hFa
      have HB3 : Hd _ := (hFa.block _ (heap_lt HB.out) (fun h => h)).trans HB.out
      have HV3 : Hd _ := heap_alloc_last w2 (.cells #[vI y.1, vI y.2] 28)
      have HF3 : Hd _ := HF.out.trans hFa
      clear hF2 hFa HW HB HF
      obtain ⟨p0, -, p2, p3, p4, p5, p6, p7, p8⟩ := op_cells HB3.out
      go_wp2_with fail
      clear p0 p2 p3 p4 p5 p6 p7 p8
      generalize w2.alloc (.cells #[vI y.1, vI y.2] 28) = w3 at *
      obtain ⟨vb, hvb⟩ : ∃ vb, vb = w2.heap.size := ⟨_, rfl⟩
      rw [← hvb] at HV3 ⊢
      clear hvb
      refine (show Calls Try.prog 24 #[rptr (rb 0), vI o.n] w3 _ from rglobal_any (rb 0) (rg 0) (ra 0) o.n w3 (HW3.out.rm 0 (by omega)) (by omega)).mono ?_
      rintro e w4 ⟨rfl, hF4⟩
      rw [HLX.out]
      have hFb : Fr (fun _ => False) w3 (w4.alloc (.cells #[vI y.1, vI y.2] 28)) := Fr.alloc hF4 _
      have V5 := (hFb.block _ (heap_lt HV3.out) (fun h => h)).trans HV3.out
      have U5 := heap_alloc_last w4 (.cells #[vI y.1, vI y.2] 28)
      have HF5 : Hd _ := HF3.out.trans hFb
      have a0 : (w4.alloc (.cells #[vI y.1, vI y.2] 28)).cell? ⟨vb, 0, none⟩ = some (vI y.1) := by rw [cell_of V5]; rfl
      have a1 : (w4.alloc (.cells #[vI y.1, vI y.2] 28)).cell? ⟨vb, 1, none⟩ = some (vI y.2) := by rw [cell_of V5]; rfl
      clear hF4 hFb V5 U5 HW3 HB3 HV3 HF3
      go_wp2_with fail
      go_ret
      exact ⟨by simp, HF5.out⟩
    · have e5 := eqb_false h5
      have e7 := eqb_false h7
      by_cases h11 : o.kind = 11
      · rw [h11] at p0
        go_enter Try.func17, Try.ntmps17
        go_wp2_with fail
        clear p0 p2 p3 p4 p5 p6 p7 p8 c0 c1 c2 c3
        have hop : Value.agg #[vI 11, vI o.on, vI o.n, Value.bool o.heap, vI o.v.fst, vI o.v.snd, vI o.w.fst, vI o.w.snd, o.cells] = opV o := by
          rw [← h11]
        rw [hop]
        refine (nothing_any o _).mono ?_
        rintro e w2 ⟨rfl, hF2⟩
        have HF5 : Hd _ := HF.out.trans hF2
        clear HW HB hF2
        go_wp2_with fail
        go_ret
        exact ⟨by simp, HF5.out⟩
      · have e11 := eqb_false h11
        go_enter Try.func17, Try.ntmps17
        go_wp2_with fail
        go_ret
        exact ⟨by simp, HF.out⟩

set_option maxRecDepth 100000 in
set_option maxHeartbeats 4000000 in
/-- values, of the calls that only read. -/
theorem values_read1 (w0 w : World) (wb : Nat) (pb rb : Nat → Nat) (pg : Nat → Gh) (rg : Nat → RG) (pa : Nat → Abs) (ra : Nat → RA) (lv mv : Value) (us us' : List (Value × List Int)) (h : Wd w0 w wb pb rb pg rg pa ra lv mv us us') (hrel : Rel (pa 1) (ra 1)) (hlen : (ra 1).cells.length ≤ 16000000) (hgl : (ra 1).gl.length ≤ 16) (o : OpR) (h1 : o.kind ≠ 1) (h6 : o.kind ≠ 6) (h8 : o.kind ≠ 8) :
    Calls Try.prog 17 #[ptr wb, opV o, vI 1] w fun e w' => e = .returned (.bool true) ∧ Fr (fun _ => False) w w' := by
  have hF : Fr (fun _ => False) w (w.alloc (.cells (opC o) 31)) := Fr.alloc (Fr.refl _ w) _
  have HW : Hd _ := h.keep hF
  have HB : Hd _ := heap_alloc_last w (.cells (opC o) 31)
  have HF : Hd _ := hF
  have HR : Hd _ := hrel
  clear h hF hrel
  have hma : (pa 1).made ≤ 1000000000000000 := by have := HR.out.made; omega
  obtain ⟨c0, c1, c2, c3, -, -⟩ := HW.out.heads
  obtain ⟨p0, -, p2, p3, p4, p5, p6, p7, p8⟩ := op_cells HB.out
  have e1 := eqb_false h1
  have e6 := eqb_false h6
  have e8 := eqb_false h8
  by_cases h5 : o.kind = 5
  · rw [h5] at p0
    go_enter Try.func17, Try.ntmps17
    go_wp2_with fail
    clear p0 p2 p3 p4 p5 p6 p7 p8 c0 c1 c2 c3
    generalize w.alloc (.cells (opC o) 31) = w1 at *
    obtain ⟨ob, hob⟩ : ∃ ob, ob = w.heap.size := ⟨_, rfl⟩
    rw [← hob] at HB ⊢
    clear hob
    refine (show Calls Try.prog 12 #[ptr (pb 1), vv o.v, vI o.n] w1 _ from load_any (pb 1) (pg 1) (pa 1) o.v o.n w1 (HW.out.pm 1 (by omega)) hma).mono ?_
    rintro e w2 ⟨rfl, hF2⟩
    obtain ⟨lx, hlx⟩ : ∃ lx, loadX (pa 1) o.v o.n = lx := ⟨_, rfl⟩
    have HLX : Hd (rloadX (ra 1) o.v o.n = lx) := by unfold Hd; rw [← HR.out.load]; exact hlx
    rw [hlx]
    clear hlx
    obtain ⟨y, er⟩ := lx
    have hFa : Fr (fun _ => False) w1 (w2.alloc (.cells #[vI y.1, vI y.2] 28)) := Fr.alloc hF2 _
    have HW3 : Hd _ := HW.out.keep hFa
    have HB3 : Hd _ := (hFa.block _ (heap_lt HB.out) (fun h => h)).trans HB.out
    have HV3 : Hd _ := heap_alloc_last w2 (.cells #[vI y.1, vI y.2] 28)
    have HF3 : Hd _ := HF.out.trans hFa
    clear hF2 hFa HW HB HF
    obtain ⟨p0, -, p2, p3, p4, p5, p6, p7, p8⟩ := op_cells HB3.out
    go_wp2_with fail
    clear p0 p2 p3 p4 p5 p6 p7 p8
    generalize w2.alloc (.cells #[vI y.1, vI y.2] 28) = w3 at *
    obtain ⟨vb, hvb⟩ : ∃ vb, vb = w2.heap.size := ⟨_, rfl⟩
    rw [← hvb] at HV3 ⊢
    clear hvb
    refine (show Calls Try.prog 22 #[rptr (rb 1), vv o.v, vI o.n] w3 _ from rload_any (rb 1) (rg 1) (ra 1) o.v o.n w3 (HW3.out.rm 1 (by omega)) (by omega)).mono ?_
    rintro e w4 ⟨rfl, hF4⟩
    rw [HLX.out]
    have hFb : Fr (fun _ => False) w3 (w4.alloc (.cells #[vI y.1, vI y.2] 28)) := Fr.alloc hF4 _
    have V5 := (hFb.block _ (heap_lt HV3.out) (fun h => h)).trans HV3.out
    have U5 := heap_alloc_last w4 (.cells #[vI y.1, vI y.2] 28)
    have HF5 : Hd _ := HF3.out.trans hFb
    have a0 : (w4.alloc (.cells #[vI y.1, vI y.2] 28)).cell? ⟨vb, 0, none⟩ = some (vI y.1) := by rw [cell_of V5]; rfl
    have a1 : (w4.alloc (.cells #[vI y.1, vI y.2] 28)).cell? ⟨vb, 1, none⟩ = some (vI y.2) := by rw [cell_of V5]; rfl
    clear hF4 hFb V5 U5 HW3 HB3 HV3 HF3
    go_wp2_with fail
    go_ret
    exact ⟨by simp, HF5.out⟩
  · by_cases h7 : o.kind = 7
    · rw [h7] at p0
      go_enter Try.func17, Try.ntmps17
      go_wp2_with fail
      clear p0 p2 p3 p4 p5 p6 p7 p8 c0 c1 c2 c3
      generalize w.alloc (.cells (opC o) 31) = w1 at *
      obtain ⟨ob, hob⟩ : ∃ ob, ob = w.heap.size := ⟨_, rfl⟩
      rw [← hob] at HB ⊢
      clear hob
      refine (show Calls Try.prog 23 #[ptr (pb 1), vI o.n] w1 _ from global_any (pb 1) (pg 1) (pa 1) o.n w1 (HW.out.pm 1 (by omega))).mono ?_
      rintro e w2 ⟨rfl, hF2⟩
      obtain ⟨lx, hlx⟩ : ∃ lx, globalX (pa 1) o.n = lx := ⟨_, rfl⟩
      have HLX : Hd (rglobalX (ra 1) o.n = lx) := by unfold Hd; rw [← HR.out.global]; exact hlx
      rw [hlx]
      clear hlx
      obtain ⟨y, er⟩ := lx
      have hFa : Fr (fun _ => False) w1 (w2.alloc (.cells #[vI y.1, vI y.2] 28)) := Fr.alloc hF2 _
      have HW3 : Hd _ := HW.out.keep hFa
      have HB3 : Hd _ := (hFa.block _ (heap_lt HB.out) (fun h => h)).trans HB.out
      have HV3 : Hd _ := heap_alloc_last w2 (.cells #[vI y.1, vI y.2] 28)
      have HF3 : Hd _ := HF.out.trans hFa
      clear hF2 hFa HW HB HF
      obtain ⟨p0, -, p2, p3, p4, p5, p6, p7, p8⟩ := op_cells HB3.out
      go_wp2_with fail
      clear p0 p2 p3 p4 p5 p6 p7 p8
      generalize w2.alloc (.cells #[vI y.1, vI y.2] 28) = w3 at *
      obtain ⟨vb, hvb⟩ : ∃ vb, vb = w2.heap.size := ⟨_, rfl⟩
      rw [← hvb] at HV3 ⊢
      clear hvb
      refine (show Calls Try.prog 24 #[rptr (rb 1), vI o.n] w3 _ from rglobal_any (rb 1) (rg 1) (ra 1) o.n w3 (HW3.out.rm 1 (by omega)) (by omega)).mono ?_
      rintro e w4 ⟨rfl, hF4⟩
      rw [HLX.out]
      have hFb : Fr (fun _ => False) w3 (w4.alloc (.cells #[vI y.1, vI y.2] 28)) := Fr.alloc hF4 _
      have V5 := (hFb.block _ (heap_lt HV3.out) (fun h => h)).trans HV3.out
      have U5 := heap_alloc_last w4 (.cells #[vI y.1, vI y.2] 28)
      have HF5 : Hd _ := HF3.out.trans hFb
      have a0 : (w4.alloc (.cells #[vI y.1, vI y.2] 28)).cell? ⟨vb, 0, none⟩ = some (vI y.1) := by rw [cell_of V5]; rfl
      have a1 : (w4.alloc (.cells #[vI y.1, vI y.2] 28)).cell? ⟨vb, 1, none⟩ = some (vI y.2) := by rw [cell_of V5]; rfl
      clear hF4 hFb V5 U5 HW3 HB3 HV3 HF3
      go_wp2_with fail
      go_ret
      exact ⟨by simp, HF5.out⟩
    · have e5 := eqb_false h5
      have e7 := eqb_false h7
      by_cases h11 : o.kind = 11
      · rw [h11] at p0
        go_enter Try.func17, Try.ntmps17
        go_wp2_with fail
        clear p0 p2 p3 p4 p5 p6 p7 p8 c0 c1 c2 c3
        have hop : Value.agg #[vI 11, vI o.on, vI o.n, Value.bool o.heap, vI o.v.fst, vI o.v.snd, vI o.w.fst, vI o.w.snd, o.cells] = opV o := by
          rw [← h11]
        rw [hop]
        refine (nothing_any o _).mono ?_
        rintro e w2 ⟨rfl, hF2⟩
        have HF5 : Hd _ := HF.out.trans hF2
        clear HW HB hF2
        go_wp2_with fail
        go_ret
        exact ⟨by simp, HF5.out⟩
      · have e11 := eqb_false h11
        go_enter Try.func17, Try.ntmps17
        go_wp2_with fail
        go_ret
        exact ⟨by simp, HF.out⟩

end Go.Proofs.Ytmdlebolmhnhaab
