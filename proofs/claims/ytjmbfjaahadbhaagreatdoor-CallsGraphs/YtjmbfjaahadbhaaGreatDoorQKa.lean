import Derived.Test.YtjmbfjaahadbhaaGreatDoorQK6J
set_option linter.unusedVariables false
set_option linter.unusedSimpArgs false
namespace Go.Proofs.YtjmbfjaahadbhaaGreatDoor
open Go.RowKit (wrap32 wrap64)

/-- What a head comes to. -/
def smallB (P R V : Int) : Bool := decide (0 ≤ P) && (decide (P ≤ 8) && (decide (P ≤ V) && (decide (0 ≤ R) && (decide (R ≤ 4) && decide (V ≤ 255)))))
def headE2 (P R V n E : Int) : Int := mustE (decide (1 ≤ n)) 19 (mustE (smallB P R V && decide (n ≤ 4096)) 20 E)
def headL (P R V n L E : Int) : Int := if headE2 P R V n E = 0 then L + V else L
def headE (P R V n L E : Int) : Int := mustE (decide (headL P R V n L E + 1 ≤ 1048576)) 21 (headE2 P R V n E)

theorem mustE_bad (e E : Int) (he : e ≠ 0) : mustE false e E ≠ 0 := by
  unfold mustE
  by_cases h : E = 0
  · simp [h, he]
  · simp [h]
theorem mustE_ne (ok : Bool) (e E : Int) (h : E ≠ 0) : mustE ok e E ≠ 0 := by
  unfold mustE
  simp [h]

set_option maxRecDepth 100000 in
set_option maxHeartbeats 4000000 in
theorem rhead (rb : Nat) (G : Int) (fv : Value) (w : World) (L E : Int) (h : RW rb G fv w L E) (hL0 : 0 ≤ L) (hL1 : L ≤ 1000000000000) (P R V n : Int) (a : Option Addr) (l c : Nat) :
    Calls Tryz.prog 50 #[.pointer (some ⟨rb, 0, none⟩), .agg #[vI P, vI R, vI V, .slice a l c], vI n] w fun r w' => r = .returned (.tuple #[]) ∧ RW rb G fv w' (headL P R V n L E) (headE P R V n L E) ∧ Fr (fun k => k = rb) w w' := by
  have hrb : rb < w.heap.size := h.cells.2.2.2.2.2
  have hps : ¬ w.heap.size = rb := by omega
  have hfa : Fr (fun k => k = rb) w (w.alloc (.cells #[vI P, vI R, vI V, .slice a l c] 41)) := Fr.alloc (Fr.refl _ _) _
  have h1 : RW rb G fv (w.alloc (.cells #[vI P, vI R, vI V, .slice a l c] 41)) L E := h.fr (Fr.alloc (Fr.refl (fun _ => False) w) _) (fun h => h)
  have hx1 : (w.alloc (.cells #[vI P, vI R, vI V, .slice a l c] 41)).heap[w.heap.size]? = some (.cells #[vI P, vI R, vI V, .slice a l c] 41) := heap_alloc_last w _
  have HX1 : Hd _ := hx1
  have H1 : Hd _ := h1
  clear h hx1 h1
  have hres : ∀ (w' : World) (L' : Int) (S : Bool), headL P R V n L E = L' → (smallB P R V && decide (n ≤ 4096)) = S → RW rb G fv w' L' (mustE (decide (L' + 1 ≤ 1048576)) 21 (mustE (decide (1 ≤ n)) 19 (mustE S 20 E))) → RW rb G fv w' (headL P R V n L E) (headE P R V n L E) := by
    intro w' L' S e1 e2 hr
    unfold headE headE2
    rw [e1, e2]
    exact hr
  have HRES : Hd _ := hres
  clear hres
  by_cases q0 : 0 ≤ P
  rotate_left
  · have HS : Hd ((smallB P R V && decide (n ≤ 4096)) = false) := by unfold Hd smallB; simp; omega
    go_enter Tryz.func50, Tryz.ntmps50
    go_wp2_with fail
    refine (rmust rb G fv _ L E H1.out false 20).mono ?_
    rintro e w2 ⟨rfl, h2, hf2⟩
    have hx2 : w2.heap[w.heap.size]? = some (.cells #[vI P, vI R, vI V, .slice a l c] 41) := by
      rw [hf2.block _ (Array.getElem?_eq_some_iff.1 HX1.out).1 hps]; exact HX1.out
    have hfb : Fr (fun k => k = rb) w w2 := hfa.trans hf2
    clear hf2 hfa
    go_wp2_with fail
    refine (rmust rb G fv w2 L _ h2 (decide (1 ≤ n)) 19).mono ?_
    rintro e w3 ⟨rfl, h3, hf3⟩
    have hx3 : w3.heap[w.heap.size]? = some (.cells #[vI P, vI R, vI V, .slice a l c] 41) := by
      rw [hf3.block _ (Array.getElem?_eq_some_iff.1 hx2).1 hps]; exact hx2
    have hfc : Fr (fun k => k = rb) w w3 := hfb.trans hf3
    clear hf3 hfb hx2 h2
    obtain ⟨-, -, r2, r3, rz, rlt⟩ := h3.cells
    have hE : ¬ mustE (decide (1 ≤ n)) 19 (mustE false 20 E) = 0 := mustE_ne _ _ _ (mustE_bad 20 E (by decide))
    have HLL : Hd (headL P R V n L E = L) := by unfold Hd headL headE2; rw [HS.out, if_neg hE]
    have hE' : (mustE (decide (1 ≤ n)) 19 (mustE false 20 E) == 0) = false := by simpa using hE
    have hq := hE'
    go_wp2_with fail
    refine (rmust rb G fv w3 L _ h3 (decide (L + 1 ≤ 1048576)) 21).mono ?_
    rintro e w4 ⟨rfl, h4, hf4⟩
    go_wp2_with fail
    go_end0
    exact ⟨rfl, HRES.out _ _ _ HLL.out HS.out h4, hfc.trans hf4⟩
  by_cases q1 : P ≤ 8
  rotate_left
  · have HS : Hd ((smallB P R V && decide (n ≤ 4096)) = false) := by unfold Hd smallB; simp; omega
    go_enter Tryz.func50, Tryz.ntmps50
    go_wp2_with fail
    refine (rmust rb G fv _ L E H1.out false 20).mono ?_
    rintro e w2 ⟨rfl, h2, hf2⟩
    have hx2 : w2.heap[w.heap.size]? = some (.cells #[vI P, vI R, vI V, .slice a l c] 41) := by
      rw [hf2.block _ (Array.getElem?_eq_some_iff.1 HX1.out).1 hps]; exact HX1.out
    have hfb : Fr (fun k => k = rb) w w2 := hfa.trans hf2
    clear hf2 hfa
    go_wp2_with fail
    refine (rmust rb G fv w2 L _ h2 (decide (1 ≤ n)) 19).mono ?_
    rintro e w3 ⟨rfl, h3, hf3⟩
    have hx3 : w3.heap[w.heap.size]? = some (.cells #[vI P, vI R, vI V, .slice a l c] 41) := by
      rw [hf3.block _ (Array.getElem?_eq_some_iff.1 hx2).1 hps]; exact hx2
    have hfc : Fr (fun k => k = rb) w w3 := hfb.trans hf3
    clear hf3 hfb hx2 h2
    obtain ⟨-, -, r2, r3, rz, rlt⟩ := h3.cells
    have hE : ¬ mustE (decide (1 ≤ n)) 19 (mustE false 20 E) = 0 := mustE_ne _ _ _ (mustE_bad 20 E (by decide))
    have HLL : Hd (headL P R V n L E = L) := by unfold Hd headL headE2; rw [HS.out, if_neg hE]
    have hE' : (mustE (decide (1 ≤ n)) 19 (mustE false 20 E) == 0) = false := by simpa using hE
    have hq := hE'
    go_wp2_with fail
    refine (rmust rb G fv w3 L _ h3 (decide (L + 1 ≤ 1048576)) 21).mono ?_
    rintro e w4 ⟨rfl, h4, hf4⟩
    go_wp2_with fail
    go_end0
    exact ⟨rfl, HRES.out _ _ _ HLL.out HS.out h4, hfc.trans hf4⟩
  by_cases q2 : P ≤ V
  rotate_left
  · have HS : Hd ((smallB P R V && decide (n ≤ 4096)) = false) := by unfold Hd smallB; simp; omega
    go_enter Tryz.func50, Tryz.ntmps50
    go_wp2_with fail
    refine (rmust rb G fv _ L E H1.out false 20).mono ?_
    rintro e w2 ⟨rfl, h2, hf2⟩
    have hx2 : w2.heap[w.heap.size]? = some (.cells #[vI P, vI R, vI V, .slice a l c] 41) := by
      rw [hf2.block _ (Array.getElem?_eq_some_iff.1 HX1.out).1 hps]; exact HX1.out
    have hfb : Fr (fun k => k = rb) w w2 := hfa.trans hf2
    clear hf2 hfa
    go_wp2_with fail
    refine (rmust rb G fv w2 L _ h2 (decide (1 ≤ n)) 19).mono ?_
    rintro e w3 ⟨rfl, h3, hf3⟩
    have hx3 : w3.heap[w.heap.size]? = some (.cells #[vI P, vI R, vI V, .slice a l c] 41) := by
      rw [hf3.block _ (Array.getElem?_eq_some_iff.1 hx2).1 hps]; exact hx2
    have hfc : Fr (fun k => k = rb) w w3 := hfb.trans hf3
    clear hf3 hfb hx2 h2
    obtain ⟨-, -, r2, r3, rz, rlt⟩ := h3.cells
    have hE : ¬ mustE (decide (1 ≤ n)) 19 (mustE false 20 E) = 0 := mustE_ne _ _ _ (mustE_bad 20 E (by decide))
    have HLL : Hd (headL P R V n L E = L) := by unfold Hd headL headE2; rw [HS.out, if_neg hE]
    have hE' : (mustE (decide (1 ≤ n)) 19 (mustE false 20 E) == 0) = false := by simpa using hE
    have hq := hE'
    go_wp2_with fail
    refine (rmust rb G fv w3 L _ h3 (decide (L + 1 ≤ 1048576)) 21).mono ?_
    rintro e w4 ⟨rfl, h4, hf4⟩
    go_wp2_with fail
    go_end0
    exact ⟨rfl, HRES.out _ _ _ HLL.out HS.out h4, hfc.trans hf4⟩
  by_cases q3 : 0 ≤ R
  rotate_left
  · have HS : Hd ((smallB P R V && decide (n ≤ 4096)) = false) := by unfold Hd smallB; simp; omega
    go_enter Tryz.func50, Tryz.ntmps50
    go_wp2_with fail
    refine (rmust rb G fv _ L E H1.out false 20).mono ?_
    rintro e w2 ⟨rfl, h2, hf2⟩
    have hx2 : w2.heap[w.heap.size]? = some (.cells #[vI P, vI R, vI V, .slice a l c] 41) := by
      rw [hf2.block _ (Array.getElem?_eq_some_iff.1 HX1.out).1 hps]; exact HX1.out
    have hfb : Fr (fun k => k = rb) w w2 := hfa.trans hf2
    clear hf2 hfa
    go_wp2_with fail
    refine (rmust rb G fv w2 L _ h2 (decide (1 ≤ n)) 19).mono ?_
    rintro e w3 ⟨rfl, h3, hf3⟩
    have hx3 : w3.heap[w.heap.size]? = some (.cells #[vI P, vI R, vI V, .slice a l c] 41) := by
      rw [hf3.block _ (Array.getElem?_eq_some_iff.1 hx2).1 hps]; exact hx2
    have hfc : Fr (fun k => k = rb) w w3 := hfb.trans hf3
    clear hf3 hfb hx2 h2
    obtain ⟨-, -, r2, r3, rz, rlt⟩ := h3.cells
    have hE : ¬ mustE (decide (1 ≤ n)) 19 (mustE false 20 E) = 0 := mustE_ne _ _ _ (mustE_bad 20 E (by decide))
    have HLL : Hd (headL P R V n L E = L) := by unfold Hd headL headE2; rw [HS.out, if_neg hE]
    have hE' : (mustE (decide (1 ≤ n)) 19 (mustE false 20 E) == 0) = false := by simpa using hE
    have hq := hE'
    go_wp2_with fail
    refine (rmust rb G fv w3 L _ h3 (decide (L + 1 ≤ 1048576)) 21).mono ?_
    rintro e w4 ⟨rfl, h4, hf4⟩
    go_wp2_with fail
    go_end0
    exact ⟨rfl, HRES.out _ _ _ HLL.out HS.out h4, hfc.trans hf4⟩
  by_cases q4 : R ≤ 4
  rotate_left
  · have HS : Hd ((smallB P R V && decide (n ≤ 4096)) = false) := by unfold Hd smallB; simp; omega
    go_enter Tryz.func50, Tryz.ntmps50
    go_wp2_with fail
    refine (rmust rb G fv _ L E H1.out false 20).mono ?_
    rintro e w2 ⟨rfl, h2, hf2⟩
    have hx2 : w2.heap[w.heap.size]? = some (.cells #[vI P, vI R, vI V, .slice a l c] 41) := by
      rw [hf2.block _ (Array.getElem?_eq_some_iff.1 HX1.out).1 hps]; exact HX1.out
    have hfb : Fr (fun k => k = rb) w w2 := hfa.trans hf2
    clear hf2 hfa
    go_wp2_with fail
    refine (rmust rb G fv w2 L _ h2 (decide (1 ≤ n)) 19).mono ?_
    rintro e w3 ⟨rfl, h3, hf3⟩
    have hx3 : w3.heap[w.heap.size]? = some (.cells #[vI P, vI R, vI V, .slice a l c] 41) := by
      rw [hf3.block _ (Array.getElem?_eq_some_iff.1 hx2).1 hps]; exact hx2
    have hfc : Fr (fun k => k = rb) w w3 := hfb.trans hf3
    clear hf3 hfb hx2 h2
    obtain ⟨-, -, r2, r3, rz, rlt⟩ := h3.cells
    have hE : ¬ mustE (decide (1 ≤ n)) 19 (mustE false 20 E) = 0 := mustE_ne _ _ _ (mustE_bad 20 E (by decide))
    have HLL : Hd (headL P R V n L E = L) := by unfold Hd headL headE2; rw [HS.out, if_neg hE]
    have hE' : (mustE (decide (1 ≤ n)) 19 (mustE false 20 E) == 0) = false := by simpa using hE
    have hq := hE'
    go_wp2_with fail
    refine (rmust rb G fv w3 L _ h3 (decide (L + 1 ≤ 1048576)) 21).mono ?_
    rintro e w4 ⟨rfl, h4, hf4⟩
    go_wp2_with fail
    go_end0
    exact ⟨rfl, HRES.out _ _ _ HLL.out HS.out h4, hfc.trans hf4⟩
  by_cases q5 : V ≤ 255
  rotate_left
  · have HS : Hd ((smallB P R V && decide (n ≤ 4096)) = false) := by unfold Hd smallB; simp; omega
    go_enter Tryz.func50, Tryz.ntmps50
    go_wp2_with fail
    refine (rmust rb G fv _ L E H1.out false 20).mono ?_
    rintro e w2 ⟨rfl, h2, hf2⟩
    have hx2 : w2.heap[w.heap.size]? = some (.cells #[vI P, vI R, vI V, .slice a l c] 41) := by
      rw [hf2.block _ (Array.getElem?_eq_some_iff.1 HX1.out).1 hps]; exact HX1.out
    have hfb : Fr (fun k => k = rb) w w2 := hfa.trans hf2
    clear hf2 hfa
    go_wp2_with fail
    refine (rmust rb G fv w2 L _ h2 (decide (1 ≤ n)) 19).mono ?_
    rintro e w3 ⟨rfl, h3, hf3⟩
    have hx3 : w3.heap[w.heap.size]? = some (.cells #[vI P, vI R, vI V, .slice a l c] 41) := by
      rw [hf3.block _ (Array.getElem?_eq_some_iff.1 hx2).1 hps]; exact hx2
    have hfc : Fr (fun k => k = rb) w w3 := hfb.trans hf3
    clear hf3 hfb hx2 h2
    obtain ⟨-, -, r2, r3, rz, rlt⟩ := h3.cells
    have hE : ¬ mustE (decide (1 ≤ n)) 19 (mustE false 20 E) = 0 := mustE_ne _ _ _ (mustE_bad 20 E (by decide))
    have HLL : Hd (headL P R V n L E = L) := by unfold Hd headL headE2; rw [HS.out, if_neg hE]
    have hE' : (mustE (decide (1 ≤ n)) 19 (mustE false 20 E) == 0) = false := by simpa using hE
    have hq := hE'
    go_wp2_with fail
    refine (rmust rb G fv w3 L _ h3 (decide (L + 1 ≤ 1048576)) 21).mono ?_
    rintro e w4 ⟨rfl, h4, hf4⟩
    go_wp2_with fail
    go_end0
    exact ⟨rfl, HRES.out _ _ _ HLL.out HS.out h4, hfc.trans hf4⟩
  by_cases q6 : n ≤ 4096
  rotate_left
  · have HS : Hd ((smallB P R V && decide (n ≤ 4096)) = false) := by unfold Hd smallB; simp; omega
    go_enter Tryz.func50, Tryz.ntmps50
    go_wp2_with fail
    refine (rmust rb G fv _ L E H1.out false 20).mono ?_
    rintro e w2 ⟨rfl, h2, hf2⟩
    have hx2 : w2.heap[w.heap.size]? = some (.cells #[vI P, vI R, vI V, .slice a l c] 41) := by
      rw [hf2.block _ (Array.getElem?_eq_some_iff.1 HX1.out).1 hps]; exact HX1.out
    have hfb : Fr (fun k => k = rb) w w2 := hfa.trans hf2
    clear hf2 hfa
    go_wp2_with fail
    refine (rmust rb G fv w2 L _ h2 (decide (1 ≤ n)) 19).mono ?_
    rintro e w3 ⟨rfl, h3, hf3⟩
    have hx3 : w3.heap[w.heap.size]? = some (.cells #[vI P, vI R, vI V, .slice a l c] 41) := by
      rw [hf3.block _ (Array.getElem?_eq_some_iff.1 hx2).1 hps]; exact hx2
    have hfc : Fr (fun k => k = rb) w w3 := hfb.trans hf3
    clear hf3 hfb hx2 h2
    obtain ⟨-, -, r2, r3, rz, rlt⟩ := h3.cells
    have hE : ¬ mustE (decide (1 ≤ n)) 19 (mustE false 20 E) = 0 := mustE_ne _ _ _ (mustE_bad 20 E (by decide))
    have HLL : Hd (headL P R V n L E = L) := by unfold Hd headL headE2; rw [HS.out, if_neg hE]
    have hE' : (mustE (decide (1 ≤ n)) 19 (mustE false 20 E) == 0) = false := by simpa using hE
    have hq := hE'
    go_wp2_with fail
    refine (rmust rb G fv w3 L _ h3 (decide (L + 1 ≤ 1048576)) 21).mono ?_
    rintro e w4 ⟨rfl, h4, hf4⟩
    go_wp2_with fail
    go_end0
    exact ⟨rfl, HRES.out _ _ _ HLL.out HS.out h4, hfc.trans hf4⟩
  have HS : Hd ((smallB P R V && decide (n ≤ 4096)) = true) := by unfold Hd smallB; simp; omega
  go_enter Tryz.func50, Tryz.ntmps50
  go_wp2_with fail
  refine (rmust rb G fv _ L E H1.out true 20).mono ?_
  rintro e w2 ⟨rfl, h2, hf2⟩
  have hx2 : w2.heap[w.heap.size]? = some (.cells #[vI P, vI R, vI V, .slice a l c] 41) := by
    rw [hf2.block _ (Array.getElem?_eq_some_iff.1 HX1.out).1 hps]; exact HX1.out
  have hfb : Fr (fun k => k = rb) w w2 := hfa.trans hf2
  clear hf2 hfa
  go_wp2_with fail
  refine (rmust rb G fv w2 L _ h2 (decide (1 ≤ n)) 19).mono ?_
  rintro e w3 ⟨rfl, h3, hf3⟩
  have hx3 : w3.heap[w.heap.size]? = some (.cells #[vI P, vI R, vI V, .slice a l c] 41) := by
    rw [hf3.block _ (Array.getElem?_eq_some_iff.1 hx2).1 hps]; exact hx2
  have hfc : Fr (fun k => k = rb) w w3 := hfb.trans hf3
  clear hf3 hfb hx2 h2
  obtain ⟨-, -, r2, r3, rz, rlt⟩ := h3.cells
  by_cases hE : mustE (decide (1 ≤ n)) 19 (mustE true 20 E) = 0
  · have HLL : Hd (headL P R V n L E = L + V) := by unfold Hd headL headE2; rw [HS.out, if_pos hE]
    have f2 : w3.cell? ⟨w.heap.size, 2, none⟩ = some (vI V) := by unfold World.cell?; simp [hx3]
    have hE' : (mustE (decide (1 ≤ n)) 19 (mustE true 20 E) == 0) = true := by simpa using hE
    have hxl : w.heap.size < w3.heap.size := cell_lt f2
    go_wp2_with fail
    go_region
    have h5 := (h3.setL (L + V))
    have h6 := h5.fr (Fr.drew (Fr.refl (fun _ => False) _)) (fun h => h)
    have hfd : Fr (fun k => k = rb) w (w3.setCell ⟨rb, 2, none⟩ (vI (L + V))).drew := (Fr.setCell hfc _ _ (Or.inl rfl)).drew
    generalize (w3.setCell ⟨rb, 2, none⟩ (vI (L + V))).drew = w5 at h6 hfd ⊢
    clear r2 r3 rz rlt h3 hfc f2 hx3 h5 hxl
    obtain ⟨-, -, r2, r3, rz, rlt⟩ := h6.cells
    go_wp2_with fail
    refine (rmust rb G fv w5 (L + V) _ h6 (decide (L + V + 1 ≤ 1048576)) 21).mono ?_
    rintro e w6 ⟨rfl, h7, hf7⟩
    go_wp2_with fail
    go_end0
    exact ⟨rfl, HRES.out _ _ _ HLL.out HS.out h7, hfd.trans hf7⟩
  · have HLL : Hd (headL P R V n L E = L) := by unfold Hd headL headE2; rw [HS.out, if_neg hE]
    have hE' : (mustE (decide (1 ≤ n)) 19 (mustE true 20 E) == 0) = false := by simpa using hE
    go_wp2_with fail
    refine (rmust rb G fv w3 L _ h3 (decide (L + 1 ≤ 1048576)) 21).mono ?_
    rintro e w4 ⟨rfl, h4, hf4⟩
    go_wp2_with fail
    go_end0
    exact ⟨rfl, HRES.out _ _ _ HLL.out HS.out h4, hfc.trans hf4⟩

end Go.Proofs.YtjmbfjaahadbhaaGreatDoor
