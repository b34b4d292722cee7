import Derived.Test.YtingenonbkencaaDoorQK8J
import Derived.Test.YtingenonbkencaaDoorQK2J
import Derived.Test.YtingenonbkencaaDoorQF2J
set_option linter.unusedVariables false
set_option linter.unusedSimpArgs false
namespace Go.Proofs.YtingenonbkencaaDoor
open Go.RowKit (wrap32 wrap64)
set_option maxRecDepth 100000
set_option maxHeartbeats 2000000
def opB (op : Int) : Bool := decide (1 ≤ op) && decide (op ≤ 17)
def lastB (last : Bool) (op : Int) : Bool := !last || (op == 13 || op == 15)
def opL (op L : Int) : Int := if op = 6 then L + 1 else L
def opE (op : Int) (pl last : Bool) (L E : Int) : Int := mustE (decide (opL op L + 1 ≤ 1048576)) 21 (mustE (lastB last op) 19 (mustE pl 1 (mustE (opB op) 12 E)))
theorem partsB_in (op : Int) : (!(partsB op).toList.isEmpty) = opB op := by
 by_cases h : 1 ≤ op ∧ op ≤ 17
 ·have e : opB op = true := by unfold opB; simp [h.1, h.2]
  rw [e]
  rcases (show op = 1 ∨ op = 2 ∨ op = 3 ∨ op = 4 ∨ op = 5 ∨ op = 6 ∨ op = 7 ∨ op = 8 ∨ op = 9 ∨ op = 10 ∨ op = 11 ∨ op = 12 ∨ op = 13 ∨ op = 14 ∨ op = 15 ∨ op = 16 ∨ op = 17 by omega) with rfl | rfl | rfl | rfl | rfl | rfl | rfl | rfl | rfl | rfl | rfl | rfl | rfl | rfl | rfl | rfl | rfl <;>
   (simp [partsB, partsN, ByteArray.toList, ByteArray.toList.loop, ByteArray.size])
 ·have e : opB op = false := by unfold opB; simp; omega
  rw [partsB_out op h, e]
  simp [ByteArray.toList, ByteArray.toList.loop, ByteArray.size]
theorem rop (rb : Nat) (G : Int) (fv : Value) (w : World) (L E : Int) (h : RW rb G fv w L E) (hL0 : 0 ≤ L) (hL1 : L ≤ 1000000000000) (op zr zs zt zn : Int) (aa ra : Option Addr) (la ca lr cr : Nat) (last : Bool) :
 Calls Tryd.prog 69 #[.pointer (some ⟨rb, 0, none⟩), .agg #[vI op, vI zr, vI zs, vI zt, vI zn, .slice aa la ca, .slice ra lr cr], .bool last] w fun r w' => r = .returned (.tuple #[]) ∧ RW rb G fv w' (opL op L) (opE op (plainB op zr zs zt zn la lr) last L E) ∧ Fr (fun k => k = rb) w w' := by
 have hne : (!(partsB op).toList.isEmpty) = opB op := partsB_in op
 have hrb : rb < w.heap.size := h.cells.2.2.2.2.2
 go_enter Tryd.func69, Tryd.ntmps69
 go_wp2_with fail
 refine (rparts op _).mono ?_
 rintro e w1 ⟨rfl, hf1⟩
 have hfa : Fr (fun k => k = rb) w w1 := (Fr.alloc (Fr.refl (fun k => k = rb) w) _).trans (hf1.mono (fun _ _ h => h.elim))
 have h1 : RW rb G fv w1 L E := h.fr ((Fr.alloc (Fr.refl (fun _ => False) w) _).trans hf1) (fun h => h)
 have hx1 : w1.heap[w.heap.size]? = some (.cells #[vI op, vI zr, vI zs, vI zt, vI zn, .slice aa la ca, .slice ra lr cr] 71) := by
  rw [hf1.block _ (by simp) (fun h => h)]
  exact heap_alloc_last w _
 clear hf1 h
 generalize partsB op = pb at hne ⊢
 go_wp2_with fail
 refine (rmust rb G fv w1 L E h1 (opB op) 12).mono ?_
 rintro e w2 ⟨rfl, h2, hf2⟩
 have hps : ¬ w.heap.size = rb := by omega
 have hx2 : w2.heap[w.heap.size]? = some (.cells #[vI op, vI zr, vI zs, vI zt, vI zn, .slice aa la ca, .slice ra lr cr] 71) := by
  rw [hf2.block _ (Array.getElem?_eq_some_iff.1 hx1).1 hps]; exact hx1
 have hfb : Fr (fun k => k = rb) w w2 := hfa.trans hf2
 clear hne hf2 hfa hx1 h1
 have cc : ∀ {v : World}, v.heap[w.heap.size]? = some (.cells #[vI op, vI zr, vI zs, vI zt, vI zn, .slice aa la ca, .slice ra lr cr] 71) → v.cell? ⟨w.heap.size, 0, none⟩ = some (vI op) ∧ v.cell? ⟨w.heap.size, 1, none⟩ = some (vI zr) ∧ v.cell? ⟨w.heap.size, 2, none⟩ = some (vI zs) ∧ v.cell? ⟨w.heap.size, 3, none⟩ = some (vI zt) ∧ v.cell? ⟨w.heap.size, 4, none⟩ = some (vI zn) ∧ v.cell? ⟨w.heap.size, 5, none⟩ = some (.slice aa la ca) ∧ v.cell? ⟨w.heap.size, 6, none⟩ = some (.slice ra lr cr) := by
  intro v hv
  refine ⟨?_, ?_, ?_, ?_, ?_, ?_, ?_⟩ <;> (unfold World.cell?; simp [hv])
 have CC : Hd _ := @cc
 clear cc
 obtain ⟨d0, d1, d2, d3, d4, d5, d6⟩ := CC.out hx2
 go_wp2_with fail
 refine (rplain w2 op zr zs zt zn aa ra la ca lr cr).mono ?_
 rintro e w3 ⟨rfl, hf3⟩
 have hx3 : w3.heap[w.heap.size]? = some (.cells #[vI op, vI zr, vI zs, vI zt, vI zn, .slice aa la ca, .slice ra lr cr] 71) := by
  rw [hf3.block _ (Array.getElem?_eq_some_iff.1 hx2).1 (fun h => h)]; exact hx2
 have h3 := h2.fr hf3 (fun h => h)
 have hfc : Fr (fun k => k = rb) w w3 := hfb.trans (hf3.mono (fun _ _ h => h.elim))
 clear d0 d1 d2 d3 d4 d5 d6 hf3 hfb hx2 h2
 go_wp2_with fail
 refine (rmust rb G fv w3 L _ h3 (plainB op zr zs zt zn la lr) 1).mono ?_
 rintro e w4 ⟨rfl, h4, hf4⟩
 have hx4 : w4.heap[w.heap.size]? = some (.cells #[vI op, vI zr, vI zs, vI zt, vI zn, .slice aa la ca, .slice ra lr cr] 71) := by
  rw [hf4.block _ (Array.getElem?_eq_some_iff.1 hx3).1 hps]; exact hx3
 have hfd : Fr (fun k => k = rb) w w4 := hfc.trans hf4
 clear hf4 hfc hx3 h3
 obtain ⟨d0, -⟩ := CC.out hx4
 obtain ⟨E4, HE4⟩ : ∃ E4, Hd (mustE (plainB op zr zs zt zn la lr) 1 (mustE (opB op) 12 E) = E4) := ⟨_, rfl⟩
 rw [HE4.out] at h4
 -- ways
 have hres : ∀ (w' : World) (L' : Int) (B : Bool), opL op L = L' → lastB last op = B → RW rb G fv w' L' (mustE (decide (L' + 1 ≤ 1048576)) 21 (mustE B 19 E4)) → RW rb G fv w' (opL op L) (opE op (plainB op zr zs zt zn la lr) last L E) := by
  intro w' L' B e1 e2 hr
  unfold opE
  rw [HE4.out, e1, e2]
  exact hr
 have HRES : Hd _ := hres
 clear hres HE4
 cases last with
 | false =>
   by_cases h6 : op = 6
   ·have hB : Hd (lastB false op = true) := by unfold Hd lastB; rfl
    have hL : Hd (opL op L = L + 1) := by unfold Hd opL; rw [if_pos h6]
    subst h6
    go_wp2_with fail
    refine (rmust rb G fv w4 L E4 h4 true 19).mono ?_
    rintro e w5 ⟨rfl, h5, hf5⟩
    have hx5 := hx4
    rw [← hf5.block _ (Array.getElem?_eq_some_iff.1 hx4).1 hps] at hx5
    have hfe : Fr (fun k => k = rb) w w5 := hfd.trans hf5
    clear hf5 hfd hx4 h4 d0
    obtain ⟨d0, -⟩ := CC.out hx5
    obtain ⟨-, -, r2, r3, rz, rlt⟩ := h5.cells
    go_wp2_with fail
    have h6' := h5.setL (L + 1)
    have hff : Fr (fun k => k = rb) w (w5.setCell ⟨rb, 2, none⟩ (vI (L + 1))) := Fr.setCell hfe _ _ (Or.inl rfl)
    generalize w5.setCell ⟨rb, 2, none⟩ (vI (L + 1)) = w6 at h6' hff ⊢
    clear r2 r3 rz rlt h5 hfe d0
    obtain ⟨-, -, r2, r3, rz, rlt⟩ := h6'.cells
    refine (rmust rb G fv w6 (L + 1) _ h6' (decide (L + 1 + 1 ≤ 1048576)) 21).mono ?_
    rintro e w7 ⟨rfl, h7, hf7⟩
    go_wp2_with fail
    go_end0
    exact ⟨rfl, HRES.out _ _ _ hL.out hB.out h7, hff.trans hf7⟩
   ·have hB : Hd (lastB false op = true) := by unfold Hd lastB; rfl
    have hL : Hd (opL op L = L) := by unfold Hd opL; rw [if_neg h6]
    have h6' : (op == 6) = false := by simpa using h6
    go_wp2_with fail
    refine (rmust rb G fv w4 L E4 h4 true 19).mono ?_
    rintro e w5 ⟨rfl, h5, hf5⟩
    have hx5 := hx4
    rw [← hf5.block _ (Array.getElem?_eq_some_iff.1 hx4).1 hps] at hx5
    have hfe : Fr (fun k => k = rb) w w5 := hfd.trans hf5
    clear hf5 hfd hx4 h4 d0
    obtain ⟨d0, -⟩ := CC.out hx5
    obtain ⟨-, -, r2, r3, rz, rlt⟩ := h5.cells
    go_wp2_with fail
    refine (rmust rb G fv w5 L _ h5 (decide (L + 1 ≤ 1048576)) 21).mono ?_
    rintro e w7 ⟨rfl, h7, hf7⟩
    go_wp2_with fail
    go_end0
    exact ⟨rfl, HRES.out _ _ _ hL.out hB.out h7, hfe.trans hf7⟩
 | true =>
   by_cases h13 : op = 13
   ·have h6 : ¬ op = 6 := by omega
    subst h13
    have hB : Hd (lastB true 13 = true) := by unfold Hd lastB; rfl
    have hL : Hd (opL 13 L = L) := by unfold Hd opL; rw [if_neg h6]
    go_wp2_with fail
    refine (rmust rb G fv w4 L E4 h4 true 19).mono ?_
    rintro e w5 ⟨rfl, h5, hf5⟩
    have hx5 := hx4
    rw [← hf5.block _ (Array.getElem?_eq_some_iff.1 hx4).1 hps] at hx5
    have hfe : Fr (fun k => k = rb) w w5 := hfd.trans hf5
    clear hf5 hfd hx4 h4 d0
    obtain ⟨d0, -⟩ := CC.out hx5
    obtain ⟨-, -, r2, r3, rz, rlt⟩ := h5.cells
    go_wp2_with fail
    refine (rmust rb G fv w5 L _ h5 (decide (L + 1 ≤ 1048576)) 21).mono ?_
    rintro e w7 ⟨rfl, h7, hf7⟩
    go_wp2_with fail
    go_end0
    exact ⟨rfl, HRES.out _ _ _ hL.out hB.out h7, hfe.trans hf7⟩
   ·have h13' : (op == 13) = false := by simpa using h13
    by_cases h15 : op = 15
    ·have h6 : ¬ op = 6 := by omega
     subst h15
     have hB : Hd (lastB true 15 = true) := by unfold Hd lastB; rfl
     have hL : Hd (opL 15 L = L) := by unfold Hd opL; rw [if_neg h6]
     go_wp2_with fail
     refine (rmust rb G fv w4 L E4 h4 true 19).mono ?_
     rintro e w5 ⟨rfl, h5, hf5⟩
     have hx5 := hx4
     rw [← hf5.block _ (Array.getElem?_eq_some_iff.1 hx4).1 hps] at hx5
     have hfe : Fr (fun k => k = rb) w w5 := hfd.trans hf5
     clear hf5 hfd hx4 h4 d0
     obtain ⟨d0, -⟩ := CC.out hx5
     obtain ⟨-, -, r2, r3, rz, rlt⟩ := h5.cells
     go_wp2_with fail
     refine (rmust rb G fv w5 L _ h5 (decide (L + 1 ≤ 1048576)) 21).mono ?_
     rintro e w7 ⟨rfl, h7, hf7⟩
     go_wp2_with fail
     go_end0
     exact ⟨rfl, HRES.out _ _ _ hL.out hB.out h7, hfe.trans hf7⟩
    ·have h15' : (op == 15) = false := by simpa using h15
     by_cases h6 : op = 6
     ·have hB : Hd (lastB true op = false) := by unfold Hd lastB; rw [h13', h15']; rfl
      have hL : Hd (opL op L = L + 1) := by unfold Hd opL; rw [if_pos h6]
      subst h6
      go_wp2_with fail
      refine (rmust rb G fv w4 L E4 h4 false 19).mono ?_
      rintro e w5 ⟨rfl, h5, hf5⟩
      have hx5 := hx4
      rw [← hf5.block _ (Array.getElem?_eq_some_iff.1 hx4).1 hps] at hx5
      have hfe : Fr (fun k => k = rb) w w5 := hfd.trans hf5
      clear hf5 hfd hx4 h4 d0
      obtain ⟨d0, -⟩ := CC.out hx5
      obtain ⟨-, -, r2, r3, rz, rlt⟩ := h5.cells
      go_wp2_with fail
      have h6' := h5.setL (L + 1)
      have hff : Fr (fun k => k = rb) w (w5.setCell ⟨rb, 2, none⟩ (vI (L + 1))) := Fr.setCell hfe _ _ (Or.inl rfl)
      generalize w5.setCell ⟨rb, 2, none⟩ (vI (L + 1)) = w6 at h6' hff ⊢
      clear r2 r3 rz rlt h5 hfe d0
      obtain ⟨-, -, r2, r3, rz, rlt⟩ := h6'.cells
      refine (rmust rb G fv w6 (L + 1) _ h6' (decide (L + 1 + 1 ≤ 1048576)) 21).mono ?_
      rintro e w7 ⟨rfl, h7, hf7⟩
      go_wp2_with fail
      go_end0
      exact ⟨rfl, HRES.out _ _ _ hL.out hB.out h7, hff.trans hf7⟩
     ·have hB : Hd (lastB true op = false) := by unfold Hd lastB; rw [h13', h15']; rfl
      have hL : Hd (opL op L = L) := by unfold Hd opL; rw [if_neg h6]
      have h6' : (op == 6) = false := by simpa using h6
      go_wp2_with fail
      refine (rmust rb G fv w4 L E4 h4 false 19).mono ?_
      rintro e w5 ⟨rfl, h5, hf5⟩
      have hx5 := hx4
      rw [← hf5.block _ (Array.getElem?_eq_some_iff.1 hx4).1 hps] at hx5
      have hfe : Fr (fun k => k = rb) w w5 := hfd.trans hf5
      clear hf5 hfd hx4 h4 d0
      obtain ⟨d0, -⟩ := CC.out hx5
      obtain ⟨-, -, r2, r3, rz, rlt⟩ := h5.cells
      go_wp2_with fail
      refine (rmust rb G fv w5 L _ h5 (decide (L + 1 ≤ 1048576)) 21).mono ?_
      rintro e w7 ⟨rfl, h7, hf7⟩
      go_wp2_with fail
      go_end0
      exact ⟨rfl, HRES.out _ _ _ hL.out hB.out h7, hfe.trans hf7⟩
set_option maxRecDepth 100000
set_option maxHeartbeats 4000000
def smallB (P R V : Int) : Bool := decide (0 ≤ P) && (decide (P ≤ 8) && (decide (P ≤ V) && (decide (0 ≤ R) && (decide (R ≤ 4) && decide (V ≤ 255)))))
def headE2 (P R V n E : Int) : Int := mustE (decide (1 ≤ n)) 19 (mustE (smallB P R V && decide (n ≤ 4096)) 20 E)
def headL (P R V n L E : Int) : Int := if headE2 P R V n E = 0 then L + V else L
def headE (P R V n L E : Int) : Int := mustE (decide (headL P R V n L E + 1 ≤ 1048576)) 21 (headE2 P R V n E)
theorem mustE_bad (e E : Int) (he : e ≠ 0) : mustE false e E ≠ 0 := by
 unfold mustE
 by_cases h : E = 0
 ·simp [h, he]
 ·simp [h]
theorem mustE_ne (ok : Bool) (e E : Int) (h : E ≠ 0) : mustE ok e E ≠ 0 := by
 unfold mustE
 simp [h]
theorem rhead (rb : Nat) (G : Int) (fv : Value) (w : World) (L E : Int) (h : RW rb G fv w L E) (hL0 : 0 ≤ L) (hL1 : L ≤ 1000000000000) (P R V n : Int) (a : Option Addr) (l c : Nat) :
 Calls Tryd.prog 55 #[.pointer (some ⟨rb, 0, none⟩), .agg #[vI P, vI R, vI V, .slice a l c], vI n] w fun r w' => r = .returned (.tuple #[]) ∧ RW rb G fv w' (headL P R V n L E) (headE P R V n L E) ∧ Fr (fun k => k = rb) w w' := by
 have hrb : rb < w.heap.size := h.cells.2.2.2.2.2
 have hps : ¬ w.heap.size = rb := by omega
 have hfa : Fr (fun k => k = rb) w (w.alloc (.cells #[vI P, vI R, vI V, .slice a l c] 67)) := Fr.alloc (Fr.refl _ _) _
 have h1 : RW rb G fv (w.alloc (.cells #[vI P, vI R, vI V, .slice a l c] 67)) L E := h.fr (Fr.alloc (Fr.refl (fun _ => False) w) _) (fun h => h)
 have hx1 : (w.alloc (.cells #[vI P, vI R, vI V, .slice a l c] 67)).heap[w.heap.size]? = some (.cells #[vI P, vI R, vI V, .slice a l c] 67) := heap_alloc_last w _
 have HX1 : Hd _ := hx1
 have H1 : Hd _ := h1
 clear h hx1 h1
 have hres : ∀ (w' : World) (L' : Int) (S : Bool), headL P R V n L E = L' → (smallB P R V && decide (n ≤ 4096)) = S → RW rb G fv w' L' (mustE (decide (L' + 1 ≤ 1048576)) 21 (mustE (decide (1 ≤ n)) 19 (mustE S 20 E))) → RW rb G fv w' (headL P R V n L E) (headE P R V n L E) := by
  intro w' L' S e1 e2 hr
  unfold headE headE2
  rw [e1, e2]
  exact hr
 have HRES : Hd _ := hres
 clear hres
 by_cases q0 : 0 ≤ P
 rotate_left
 ·have HS : Hd ((smallB P R V && decide (n ≤ 4096)) = false) := by unfold Hd smallB; simp; omega
  go_enter Tryd.func55, Tryd.ntmps55
  go_wp2_with fail
  refine (rmust rb G fv _ L E H1.out false 20).mono ?_
  rintro e w2 ⟨rfl, h2, hf2⟩
  have hx2 : w2.heap[w.heap.size]? = some (.cells #[vI P, vI R, vI V, .slice a l c] 67) := by
   rw [hf2.block _ (Array.getElem?_eq_some_iff.1 HX1.out).1 hps]; exact HX1.out
  have hfb : Fr (fun k => k = rb) w w2 := hfa.trans hf2
  clear hf2 hfa
  go_wp2_with fail
  refine (rmust rb G fv w2 L _ h2 (decide (1 ≤ n)) 19).mono ?_
  rintro e w3 ⟨rfl, h3, hf3⟩
  have hx3 : w3.heap[w.heap.size]? = some (.cells #[vI P, vI R, vI V, .slice a l c] 67) := by
   rw [hf3.block _ (Array.getElem?_eq_some_iff.1 hx2).1 hps]; exact hx2
  have hfc : Fr (fun k => k = rb) w w3 := hfb.trans hf3
  clear hf3 hfb hx2 h2
  obtain ⟨-, -, r2, r3, rz, rlt⟩ := h3.cells
  have hE : ¬ mustE (decide (1 ≤ n)) 19 (mustE false 20 E) = 0 := mustE_ne _ _ _ (mustE_bad 20 E (by decide))
  have HLL : Hd (headL P R V n L E = L) := by unfold Hd headL headE2; rw [HS.out, if_neg hE]
  have hE' : (mustE (decide (1 ≤ n)) 19 (mustE false 20 E) == 0) = false := by simpa using hE
  have hq := hE'
  go_wp2_with fail
  refine (rmust rb G fv w3 L _ h3 (decide (L + 1 ≤ 1048576)) 21).mono ?_
  rintro e w4 ⟨rfl, h4, hf4⟩
  go_wp2_with fail
  go_end0
  exact ⟨rfl, HRES.out _ _ _ HLL.out HS.out h4, hfc.trans hf4⟩
 by_cases q1 : P ≤ 8
 rotate_left
 ·have HS : Hd ((smallB P R V && decide (n ≤ 4096)) = false) := by unfold Hd smallB; simp; omega
  go_enter Tryd.func55, Tryd.ntmps55
  go_wp2_with fail
  refine (rmust rb G fv _ L E H1.out false 20).mono ?_
  rintro e w2 ⟨rfl, h2, hf2⟩
  have hx2 : w2.heap[w.heap.size]? = some (.cells #[vI P, vI R, vI V, .slice a l c] 67) := by
   rw [hf2.block _ (Array.getElem?_eq_some_iff.1 HX1.out).1 hps]; exact HX1.out
  have hfb : Fr (fun k => k = rb) w w2 := hfa.trans hf2
  clear hf2 hfa
  go_wp2_with fail
  refine (rmust rb G fv w2 L _ h2 (decide (1 ≤ n)) 19).mono ?_
  rintro e w3 ⟨rfl, h3, hf3⟩
  have hx3 : w3.heap[w.heap.size]? = some (.cells #[vI P, vI R, vI V, .slice a l c] 67) := by
   rw [hf3.block _ (Array.getElem?_eq_some_iff.1 hx2).1 hps]; exact hx2
  have hfc : Fr (fun k => k = rb) w w3 := hfb.trans hf3
  clear hf3 hfb hx2 h2
  obtain ⟨-, -, r2, r3, rz, rlt⟩ := h3.cells
  have hE : ¬ mustE (decide (1 ≤ n)) 19 (mustE false 20 E) = 0 := mustE_ne _ _ _ (mustE_bad 20 E (by decide))
  have HLL : Hd (headL P R V n L E = L) := by unfold Hd headL headE2; rw [HS.out, if_neg hE]
  have hE' : (mustE (decide (1 ≤ n)) 19 (mustE false 20 E) == 0) = false := by simpa using hE
  have hq := hE'
  go_wp2_with fail
  refine (rmust rb G fv w3 L _ h3 (decide (L + 1 ≤ 1048576)) 21).mono ?_
  rintro e w4 ⟨rfl, h4, hf4⟩
  go_wp2_with fail
  go_end0
  exact ⟨rfl, HRES.out _ _ _ HLL.out HS.out h4, hfc.trans hf4⟩
 by_cases q2 : P ≤ V
 rotate_left
 ·have HS : Hd ((smallB P R V && decide (n ≤ 4096)) = false) := by unfold Hd smallB; simp; omega
  go_enter Tryd.func55, Tryd.ntmps55
  go_wp2_with fail
  refine (rmust rb G fv _ L E H1.out false 20).mono ?_
  rintro e w2 ⟨rfl, h2, hf2⟩
  have hx2 : w2.heap[w.heap.size]? = some (.cells #[vI P, vI R, vI V, .slice a l c] 67) := by
   rw [hf2.block _ (Array.getElem?_eq_some_iff.1 HX1.out).1 hps]; exact HX1.out
  have hfb : Fr (fun k => k = rb) w w2 := hfa.trans hf2
  clear hf2 hfa
  go_wp2_with fail
  refine (rmust rb G fv w2 L _ h2 (decide (1 ≤ n)) 19).mono ?_
  rintro e w3 ⟨rfl, h3, hf3⟩
  have hx3 : w3.heap[w.heap.size]? = some (.cells #[vI P, vI R, vI V, .slice a l c] 67) := by
   rw [hf3.block _ (Array.getElem?_eq_some_iff.1 hx2).1 hps]; exact hx2
  have hfc : Fr (fun k => k = rb) w w3 := hfb.trans hf3
  clear hf3 hfb hx2 h2
  obtain ⟨-, -, r2, r3, rz, rlt⟩ := h3.cells
  have hE : ¬ mustE (decide (1 ≤ n)) 19 (mustE false 20 E) = 0 := mustE_ne _ _ _ (mustE_bad 20 E (by decide))
  have HLL : Hd (headL P R V n L E = L) := by unfold Hd headL headE2; rw [HS.out, if_neg hE]
  have hE' : (mustE (decide (1 ≤ n)) 19 (mustE false 20 E) == 0) = false := by simpa using hE
  have hq := hE'
  go_wp2_with fail
  refine (rmust rb G fv w3 L _ h3 (decide (L + 1 ≤ 1048576)) 21).mono ?_
  rintro e w4 ⟨rfl, h4, hf4⟩
  go_wp2_with fail
  go_end0
  exact ⟨rfl, HRES.out _ _ _ HLL.out HS.out h4, hfc.trans hf4⟩
 by_cases q3 : 0 ≤ R
 rotate_left
 ·have HS : Hd ((smallB P R V && decide (n ≤ 4096)) = false) := by unfold Hd smallB; simp; omega
  go_enter Tryd.func55, Tryd.ntmps55
  go_wp2_with fail
  refine (rmust rb G fv _ L E H1.out false 20).mono ?_
  rintro e w2 ⟨rfl, h2, hf2⟩
  have hx2 : w2.heap[w.heap.size]? = some (.cells #[vI P, vI R, vI V, .slice a l c] 67) := by
   rw [hf2.block _ (Array.getElem?_eq_some_iff.1 HX1.out).1 hps]; exact HX1.out
  have hfb : Fr (fun k => k = rb) w w2 := hfa.trans hf2
  clear hf2 hfa
  go_wp2_with fail
  refine (rmust rb G fv w2 L _ h2 (decide (1 ≤ n)) 19).mono ?_
  rintro e w3 ⟨rfl, h3, hf3⟩
  have hx3 : w3.heap[w.heap.size]? = some (.cells #[vI P, vI R, vI V, .slice a l c] 67) := by
   rw [hf3.block _ (Array.getElem?_eq_some_iff.1 hx2).1 hps]; exact hx2
  have hfc : Fr (fun k => k = rb) w w3 := hfb.trans hf3
  clear hf3 hfb hx2 h2
  obtain ⟨-, -, r2, r3, rz, rlt⟩ := h3.cells
  have hE : ¬ mustE (decide (1 ≤ n)) 19 (mustE false 20 E) = 0 := mustE_ne _ _ _ (mustE_bad 20 E (by decide))
  have HLL : Hd (headL P R V n L E = L) := by unfold Hd headL headE2; rw [HS.out, if_neg hE]
  have hE' : (mustE (decide (1 ≤ n)) 19 (mustE false 20 E) == 0) = false := by simpa using hE
  have hq := hE'
  go_wp2_with fail
  refine (rmust rb G fv w3 L _ h3 (decide (L + 1 ≤ 1048576)) 21).mono ?_
  rintro e w4 ⟨rfl, h4, hf4⟩
  go_wp2_with fail
  go_end0
  exact ⟨rfl, HRES.out _ _ _ HLL.out HS.out h4, hfc.trans hf4⟩
 by_cases q4 : R ≤ 4
 rotate_left
 ·have HS : Hd ((smallB P R V && decide (n ≤ 4096)) = false) := by unfold Hd smallB; simp; omega
  go_enter Tryd.func55, Tryd.ntmps55
  go_wp2_with fail
  refine (rmust rb G fv _ L E H1.out false 20).mono ?_
  rintro e w2 ⟨rfl, h2, hf2⟩
  have hx2 : w2.heap[w.heap.size]? = some (.cells #[vI P, vI R, vI V, .slice a l c] 67) := by
   rw [hf2.block _ (Array.getElem?_eq_some_iff.1 HX1.out).1 hps]; exact HX1.out
  have hfb : Fr (fun k => k = rb) w w2 := hfa.trans hf2
  clear hf2 hfa
  go_wp2_with fail
  refine (rmust rb G fv w2 L _ h2 (decide (1 ≤ n)) 19).mono ?_
  rintro e w3 ⟨rfl, h3, hf3⟩
  have hx3 : w3.heap[w.heap.size]? = some (.cells #[vI P, vI R, vI V, .slice a l c] 67) := by
   rw [hf3.block _ (Array.getElem?_eq_some_iff.1 hx2).1 hps]; exact hx2
  have hfc : Fr (fun k => k = rb) w w3 := hfb.trans hf3
  clear hf3 hfb hx2 h2
  obtain ⟨-, -, r2, r3, rz, rlt⟩ := h3.cells
  have hE : ¬ mustE (decide (1 ≤ n)) 19 (mustE false 20 E) = 0 := mustE_ne _ _ _ (mustE_bad 20 E (by decide))
  have HLL : Hd (headL P R V n L E = L) := by unfold Hd headL headE2; rw [HS.out, if_neg hE]
  have hE' : (mustE (decide (1 ≤ n)) 19 (mustE false 20 E) == 0) = false := by simpa using hE
  have hq := hE'
  go_wp2_with fail
  refine (rmust rb G fv w3 L _ h3 (decide (L + 1 ≤ 1048576)) 21).mono ?_
  rintro e w4 ⟨rfl, h4, hf4⟩
  go_wp2_with fail
  go_end0
  exact ⟨rfl, HRES.out _ _ _ HLL.out HS.out h4, hfc.trans hf4⟩
 by_cases q5 : V ≤ 255
 rotate_left
 ·have HS : Hd ((smallB P R V && decide (n ≤ 4096)) = false) := by unfold Hd smallB; simp; omega
  go_enter Tryd.func55, Tryd.ntmps55
  go_wp2_with fail
  refine (rmust rb G fv _ L E H1.out false 20).mono ?_
  rintro e w2 ⟨rfl, h2, hf2⟩
  have hx2 : w2.heap[w.heap.size]? = some (.cells #[vI P, vI R, vI V, .slice a l c] 67) := by
   rw [hf2.block _ (Array.getElem?_eq_some_iff.1 HX1.out).1 hps]; exact HX1.out
  have hfb : Fr (fun k => k = rb) w w2 := hfa.trans hf2
  clear hf2 hfa
  go_wp2_with fail
  refine (rmust rb G fv w2 L _ h2 (decide (1 ≤ n)) 19).mono ?_
  rintro e w3 ⟨rfl, h3, hf3⟩
  have hx3 : w3.heap[w.heap.size]? = some (.cells #[vI P, vI R, vI V, .slice a l c] 67) := by
   rw [hf3.block _ (Array.getElem?_eq_some_iff.1 hx2).1 hps]; exact hx2
  have hfc : Fr (fun k => k = rb) w w3 := hfb.trans hf3
  clear hf3 hfb hx2 h2
  obtain ⟨-, -, r2, r3, rz, rlt⟩ := h3.cells
  have hE : ¬ mustE (decide (1 ≤ n)) 19 (mustE false 20 E) = 0 := mustE_ne _ _ _ (mustE_bad 20 E (by decide))
  have HLL : Hd (headL P R V n L E = L) := by unfold Hd headL headE2; rw [HS.out, if_neg hE]
  have hE' : (mustE (decide (1 ≤ n)) 19 (mustE false 20 E) == 0) = false := by simpa using hE
  have hq := hE'
  go_wp2_with fail
  refine (rmust rb G fv w3 L _ h3 (decide (L + 1 ≤ 1048576)) 21).mono ?_
  rintro e w4 ⟨rfl, h4, hf4⟩
  go_wp2_with fail
  go_end0
  exact ⟨rfl, HRES.out _ _ _ HLL.out HS.out h4, hfc.trans hf4⟩
 by_cases q6 : n ≤ 4096
 rotate_left
 ·have HS : Hd ((smallB P R V && decide (n ≤ 4096)) = false) := by unfold Hd smallB; simp; omega
  go_enter Tryd.func55, Tryd.ntmps55
  go_wp2_with fail
  refine (rmust rb G fv _ L E H1.out false 20).mono ?_
  rintro e w2 ⟨rfl, h2, hf2⟩
  have hx2 : w2.heap[w.heap.size]? = some (.cells #[vI P, vI R, vI V, .slice a l c] 67) := by
   rw [hf2.block _ (Array.getElem?_eq_some_iff.1 HX1.out).1 hps]; exact HX1.out
  have hfb : Fr (fun k => k = rb) w w2 := hfa.trans hf2
  clear hf2 hfa
  go_wp2_with fail
  refine (rmust rb G fv w2 L _ h2 (decide (1 ≤ n)) 19).mono ?_
  rintro e w3 ⟨rfl, h3, hf3⟩
  have hx3 : w3.heap[w.heap.size]? = some (.cells #[vI P, vI R, vI V, .slice a l c] 67) := by
   rw [hf3.block _ (Array.getElem?_eq_some_iff.1 hx2).1 hps]; exact hx2
  have hfc : Fr (fun k => k = rb) w w3 := hfb.trans hf3
  clear hf3 hfb hx2 h2
  obtain ⟨-, -, r2, r3, rz, rlt⟩ := h3.cells
  have hE : ¬ mustE (decide (1 ≤ n)) 19 (mustE false 20 E) = 0 := mustE_ne _ _ _ (mustE_bad 20 E (by decide))
  have HLL : Hd (headL P R V n L E = L) := by unfold Hd headL headE2; rw [HS.out, if_neg hE]
  have hE' : (mustE (decide (1 ≤ n)) 19 (mustE false 20 E) == 0) = false := by simpa using hE
  have hq := hE'
  go_wp2_with fail
  refine (rmust rb G fv w3 L _ h3 (decide (L + 1 ≤ 1048576)) 21).mono ?_
  rintro e w4 ⟨rfl, h4, hf4⟩
  go_wp2_with fail
  go_end0
  exact ⟨rfl, HRES.out _ _ _ HLL.out HS.out h4, hfc.trans hf4⟩
 have HS : Hd ((smallB P R V && decide (n ≤ 4096)) = true) := by unfold Hd smallB; simp; omega
 go_enter Tryd.func55, Tryd.ntmps55
 go_wp2_with fail
 refine (rmust rb G fv _ L E H1.out true 20).mono ?_
 rintro e w2 ⟨rfl, h2, hf2⟩
 have hx2 : w2.heap[w.heap.size]? = some (.cells #[vI P, vI R, vI V, .slice a l c] 67) := by
  rw [hf2.block _ (Array.getElem?_eq_some_iff.1 HX1.out).1 hps]; exact HX1.out
 have hfb : Fr (fun k => k = rb) w w2 := hfa.trans hf2
 clear hf2 hfa
 go_wp2_with fail
 refine (rmust rb G fv w2 L _ h2 (decide (1 ≤ n)) 19).mono ?_
 rintro e w3 ⟨rfl, h3, hf3⟩
 have hx3 : w3.heap[w.heap.size]? = some (.cells #[vI P, vI R, vI V, .slice a l c] 67) := by
  rw [hf3.block _ (Array.getElem?_eq_some_iff.1 hx2).1 hps]; exact hx2
 have hfc : Fr (fun k => k = rb) w w3 := hfb.trans hf3
 clear hf3 hfb hx2 h2
 obtain ⟨-, -, r2, r3, rz, rlt⟩ := h3.cells
 by_cases hE : mustE (decide (1 ≤ n)) 19 (mustE true 20 E) = 0
 ·have HLL : Hd (headL P R V n L E = L + V) := by unfold Hd headL headE2; rw [HS.out, if_pos hE]
  have f2 : w3.cell? ⟨w.heap.size, 2, none⟩ = some (vI V) := by unfold World.cell?; simp [hx3]
  have hE' : (mustE (decide (1 ≤ n)) 19 (mustE true 20 E) == 0) = true := by simpa using hE
  have hxl : w.heap.size < w3.heap.size := cell_lt f2
  go_wp2_with fail
  go_region
  have h5 := (h3.setL (L + V))
  have h6 := h5.fr (Fr.drew (Fr.refl (fun _ => False) _)) (fun h => h)
  have hfd : Fr (fun k => k = rb) w (w3.setCell ⟨rb, 2, none⟩ (vI (L + V))).drew := (Fr.setCell hfc _ _ (Or.inl rfl)).drew
  generalize (w3.setCell ⟨rb, 2, none⟩ (vI (L + V))).drew = w5 at h6 hfd ⊢
  clear r2 r3 rz rlt h3 hfc f2 hx3 h5 hxl
  obtain ⟨-, -, r2, r3, rz, rlt⟩ := h6.cells
  go_wp2_with fail
  refine (rmust rb G fv w5 (L + V) _ h6 (decide (L + V + 1 ≤ 1048576)) 21).mono ?_
  rintro e w6 ⟨rfl, h7, hf7⟩
  go_wp2_with fail
  go_end0
  exact ⟨rfl, HRES.out _ _ _ HLL.out HS.out h7, hfd.trans hf7⟩
 ·have HLL : Hd (headL P R V n L E = L) := by unfold Hd headL headE2; rw [HS.out, if_neg hE]
  have hE' : (mustE (decide (1 ≤ n)) 19 (mustE true 20 E) == 0) = false := by simpa using hE
  go_wp2_with fail
  refine (rmust rb G fv w3 L _ h3 (decide (L + 1 ≤ 1048576)) 21).mono ?_
  rintro e w4 ⟨rfl, h4, hf4⟩
  go_wp2_with fail
  go_end0
  exact ⟨rfl, HRES.out _ _ _ HLL.out HS.out h4, hfc.trans hf4⟩
set_option maxRecDepth 100000
set_option maxHeartbeats 1000000
abbrev u8v (c : UInt8) : Value := .int .u8 c.toNat
def leBytes : Nat → Nat → List UInt8
 | 0, _ => []
 | k + 1, n => UInt8.ofNat (n % 256) :: leBytes k (n / 256)
theorem leBytes_length : ∀ (k n : Nat), (leBytes k n).length = k
 | 0, _ => rfl
 | k + 1, n => by simp [leBytes, leBytes_length k]
theorem leBytes_get : ∀ (k n j : Nat), j < k → (leBytes k n)[j]? = some (UInt8.ofNat (n / 256 ^ j % 256))
 | 0, _, _, h => absurd h (Nat.not_lt_zero _)
 | k + 1, n, 0, _ => by simp [leBytes]
 | k + 1, n, j + 1, h => by
   simp only [leBytes, List.getElem?_cons_succ]
   rw [leBytes_get k (n / 256) j (by omega), Nat.div_div_eq_div_mul, Nat.pow_succ, Nat.mul_comm]
theorem leBytes_take (k n j : Nat) (h : j < k) : (leBytes k n).take (j + 1) = (leBytes k n).take j ++ [UInt8.ofNat (n / 256 ^ j % 256)] := by
 rw [List.take_add_one, leBytes_get k n j h]
 rfl
structure Row (w : World) (wb g0 K : Nat) (l : List UInt8) (bv : Value) : Prop where
 var : w.heap[wb]? = some (.cells #[bv] 53)
 own : w.ownsRow K 5 1 bv l.length (l.map u8v) ∨ (bv = .slice (some ⟨g0, 0, none⟩) l.length l.length ∧ ∀ j u, (l.map u8v)[j]? = some u → w.cell? ⟨g0, j, none⟩ = some u)
 g0K : g0 < K
 g0w : g0 ≠ wb
 wK : wb < K
 Kw : K ≤ w.heap.size
theorem Row.alloc {w : World} {wb g0 K : Nat} {l : List UInt8} {bv : Value} (h : Row w wb g0 K l bv) (o : Obj) : Row (w.alloc o) wb g0 K l bv := by
 have e : ∀ k, k < K → (w.alloc o).heap[k]? = w.heap[k]? := fun k hk => Go.RowKit.Below.heap_alloc w o k (Nat.lt_of_lt_of_le hk h.Kw)
 refine ⟨by rw [e wb h.wK]; exact h.var, ?_, h.g0K, h.g0w, h.wK, by have := h.Kw; simp; omega⟩
 rcases h.own with k | ⟨k1, k2⟩
 ·exact Or.inl (k.alloc o)
 ·exact Or.inr ⟨k1, fun j u hu => by rw [World.cell?_of_block (a := ⟨g0, j, none⟩) (e g0 h.g0K)]; exact k2 j u hu⟩
theorem Row.fr {S : Nat → Prop} {w w' : World} {wb g0 K : Nat} {l : List UInt8} {bv : Value} (h : Row w wb g0 K l bv) (f : Fr S w w') (h1 : ¬ S wb) (h2 : ¬ S g0) (h3 : ∀ k, K ≤ k → ¬ S k) : Row w' wb g0 K l bv := by
 have hKw := h.Kw
 have hwK := h.wK
 have hgK := h.g0K
 refine ⟨by rw [f.block wb (by omega) h1]; exact h.var, ?_, h.g0K, h.g0w, h.wK, Nat.le_trans hKw f.size⟩
 rcases h.own with k | ⟨k1, k2⟩
 ·exact Or.inl (ownsRow_fr k f (fun g e => h3 g (World.ownsRow.lt k g e).1))
 ·exact Or.inr ⟨k1, fun j u hu => by rw [f.cell (by omega) h2]; exact k2 j u hu⟩
theorem addr_add (g j : Nat) : (⟨g, 0, none⟩ : Addr).add j = ⟨g, j, none⟩ := by unfold Addr.add; split <;> simp_all
theorem row_append {w : World} {wb g0 K : Nat} {l : List UInt8} {bv : Value} (h : Row w wb g0 K l bv) (ty : TypeId) (ad : Addr) (cc : Nat) (c : Value) (hc : ∀ j u, [c][j]? = some u → w.cell? (ad.add j) = some u) (h1 : ∀ u ∈ [c], u.oneCell' = true) (hl : l.length + 1 ≤ 1000000000000) :
 ∃ v1 w6 r, (Builtin.append_ #[22, 22] ty #[bv, .slice (some ad) 1 cc]).run Tryd.prog w = .ok v1 w6 ∧ w6.ownsRow K 5 1 v1 (l.length + 1) (l.map u8v ++ [c]) ∧ w.grownBy w6 r ∧ (∀ g, r = some g → K ≤ g) := by
 obtain ⟨i5, hi5, hz5, hs5, hb5⟩ := info_parts (P := Tryd.prog) (e := 5) (z := .int .u8 0) (size := 1) (bytes := 1) (by kernel_rfl)
 have hm : l.length + 1 ≤ maxLen := by unfold maxLen; omega
 rcases h.own with k | ⟨rfl, k2⟩
 ·obtain ⟨v1, w6, hr, r1, r2, -⟩ := run_append_own (P := Tryd.prog) w K 22 ty 5 i5 (.int .u8 0) 1 1 Tryd.underlying22 hi5 hz5 hs5 hb5 rfl (by omega) bv l.length _ k ad 1 cc [c] rfl hc h1 hm (by omega) h.Kw
  exact ⟨v1, w6, _, hr, r1, r2, fun g e => (World.ownsRow.lt k g e).1⟩
 ·have hr := run_append_grow (P := Tryd.prog) w 22 ty 5 i5 (.int .u8 0) Tryd.underlying22 hi5 hz5 ⟨g0, 0, none⟩ l.length l.length (l.map u8v) (by rw [hs5]; simp) (fun j u hu => by rw [addr_add]; exact k2 j u hu) ad 1 cc [c] (by rw [hs5]; rfl) hc (by omega) (by omega) (by rw [hb5]; exact growslice_fits (by omega) (by omega))
  have hge := grownCap_ge w (l.length + 1) l.length 5
  have hcm : grownCap w (l.length + 1) l.length 5 ≤ maxLen := grownCap_le_maxLen w (l.length + 1) l.length 5 hm
  refine ⟨_, _, none, hr, ⟨by simp, .inr ⟨w.heap.size, _, _, rfl, h.Kw, heap_alloc_last w.drew _, hge, hcm, ?_, ?_⟩⟩, ⟨rfl, rfl, rfl, by simp, fun k hk _ => Go.RowKit.Below.heap_alloc w.drew _ k hk⟩, fun g e => by cases e⟩
  ·have : (Builtin.zeroCells (Value.int .u8 0).cells (grownCap w (l.length + 1) l.length 5 - (l.length + 1))).size = grownCap w (l.length + 1) l.length 5 - (l.length + 1) := by
    rw [size_zeroCells]; rw [show (Value.int IntKind.u8 0).cells.size = 1 from rfl]; omega
   simp only [Array.size_append, List.size_toArray, this, List.length_map, List.length_cons, List.length_nil]
   omega
  ·simp only [Array.toList_append]
   rw [List.take_append_of_le_length (by simp), List.take_of_length_le (by simp)]
theorem wpList_row {w : World} {wb g0 K : Nat} {l : List UInt8} {bv : Value} {ops : Array Oper} {rest : List Oper} {o : Oper} {a : Act} {Q : Exit → Act → World → Prop} (hgd : o.guard = none) (s x : Operand)
 (ho : o.op = .call { callee := .builtin .append, args := #[s, x], argTypes := #[22, 22] }) (h : Row w wb g0 K l bv) (hs : a.eval s = bv) (ad : Addr) (cc : Nat) (c : Value) (hx : a.eval x = .slice (some ad) 1 cc)
 (hc : ∀ j u, [c][j]? = some u → w.cell? (ad.add j) = some u) (h1 : ∀ u ∈ [c], u.oneCell' = true) (hl : l.length + 1 ≤ 1000000000000)
 (hk : ∀ v1 w6 r, w6.ownsRow K 5 1 v1 (l.length + 1) (l.map u8v ++ [c]) → w.grownBy w6 r → (∀ g, r = some g → K ≤ g) → wpList Tryd.prog ops Q rest (a.put o.dst v1) w6) : wpList Tryd.prog ops Q (o :: rest) a w :=
 wpList_plain hgd fun _ hK => by
  obtain ⟨v1, w6, r, hr, h2, h3, h4⟩ := row_append h o.type ad cc c hc h1 hl
  unfold Oper.wp execOp
  simp only [ho, resolve, invoke, builtin, Sem.run_bind, Sem.run_pure, Result.andThen_ok, List.map_toArray, List.map_cons, List.map_nil, hs, hx, hr]
  exact hK _ _ (hk v1 w6 r h2 h3 h4)
theorem Row.push {w w6 : World} {wb g0 K : Nat} {l : List UInt8} {bv v1 : Value} {c : UInt8} {r : Option Nat} (h : Row w wb g0 K l bv)
 (hown : w6.ownsRow K 5 1 v1 (l.length + 1) (l.map u8v ++ [u8v c])) (hg : w.grownBy w6 r) (hr : ∀ g, r = some g → K ≤ g) : Row (w6.setCell ⟨wb, 0, none⟩ v1) wb g0 K (l ++ [c]) v1 ∧ Fr (fun k => k = wb ∨ K ≤ k) w (w6.setCell ⟨wb, 0, none⟩ v1) := by
 have hKw := h.Kw
 have hwK := h.wK
 have hvar6 : w6.heap[wb]? = some (.cells #[bv] 53) := by rw [hg.block wb (by omega) (fun e => by have := hr wb e.symm; omega)]; exact h.var
 have hbw : ∀ g, v1.ownBlock = some g → g ≠ wb := fun g e hw => by have := (World.ownsRow.lt hown g e).1; omega
 refine ⟨⟨?_, Or.inl ?_, h.g0K, h.g0w, hwK, by have := hg.size; simp; omega⟩, ?_⟩
 ·unfold World.setCell
  simp only [Array.getElem?_modify]
  rw [if_pos trivial, hvar6]
  rfl
 ·have e1 : (l ++ [c]).length = l.length + 1 := by simp
  rw [e1, List.map_append]
  have hf : Fr (fun j => j = wb) w6 (w6.setCell ⟨wb, 0, none⟩ v1) := Fr.setCell (Fr.refl (fun j => j = wb) w6) _ _ (Or.inl rfl)
  exact ownsRow_fr hown hf (fun g e => hbw g e)
 ·exact Fr.setCell ((grown_fr hg).mono (fun j hj e => Or.inr (hr j e))) _ _ (Or.inl (Or.inl rfl))
theorem writes_any (wb g0 K : Nat) (l : List UInt8) (bv : Value) (p : Addr) (at' v : Int) (size : Nat) (w : World) (hp : w.cell? p = some (vI v)) (hs : size ≤ 8) (hr : Row w wb g0 K l bv) (hl : l.length + size ≤ 1000000000000) :
 Calls Tryd.prog 34 #[.pointer (some ⟨wb, 0, none⟩), .pointer (some p), .int .i64 at', .int .i64 size] w fun e w' =>
  e = .returned (.tuple #[]) ∧ (∃ bv', Row w' wb g0 K (l ++ leBytes size (IntKind.u64.wrap v).toNat) bv') ∧ Fr (fun k => k = wb ∨ K ≤ k) w w' := by
 have hN0 : 0 ≤ IntKind.u64.wrap v := by rw [IntKind.wrap_u64]; omega
 obtain ⟨N, hN⟩ := Int.eq_ofNat_of_zero_le hN0
 have HN : Hd (IntKind.u64.wrap v = N) := hN
 go_enter Tryd.func34, Tryd.ntmps34
 go_wp2_with fail
 obtain ⟨i5, hi5, hz5, hs5, hb5⟩ := info_parts (P := Tryd.prog) (e := 5) (z := .int .u8 0) (size := 1) (bytes := 1) (by kernel_rfl)
 go_loopw [8, 14] (fun nv i wr => ∃ (k : Nat) (bv' : Value), k ≤ size ∧ i = .int .i64 k ∧ nv = .int .u64 ((N / 256 ^ k : Nat) : Int) ∧ Row wr wb g0 K (l ++ (leBytes size N).take k) bv' ∧ Fr (fun k => k = wb ∨ K ≤ k) w wr) (fun _ i _ => match i with | .int _ q => size - q.toNat | _ => 0)
 case atStart => exact ⟨0, bv, Nat.zero_le _, rfl, by simp, by simpa using hr, Fr.refl _ _⟩
 case round =>
  obtain ⟨k, bv', hk, rfl, rfl, hrow, hfr⟩ := hrel
  by_cases hlt : k < size
  ·have hKw := hrow.Kw
   have hcw : wr.cell? ⟨wb, 0, none⟩ = some bv' := by unfold World.cell?; simp [hrow.var]
   have hwb : wb < wr.heap.size := by have := hrow.wK; omega
   have hll : (l ++ (leBytes size N).take k).length = l.length + k := by simp [leBytes_length]; omega
   have hcell1 : ∀ (j : Nat) (u : Value), [Value.int .u8 ((N : Int) / 256 ^ k % 256)][j]? = some u → (wr.alloc (.cells #[.int .u8 ((N : Int) / 256 ^ k % 256)] 5)).cell? ((⟨wr.heap.size, 0, none⟩ : Addr).add j) = some u := by
    intro j u hu
    have hadd : (⟨wr.heap.size, 0, none⟩ : Addr).add j = ⟨wr.heap.size, j, none⟩ := by unfold Addr.add; split <;> simp_all
    rw [hadd, World.cell?_alloc_new]
    simpa using hu
   have hval : Hd (Value.int .u8 ((N : Int) / 256 ^ k % 256) = u8v (UInt8.ofNat (N / 256 ^ k % 256))) := by
    unfold Hd
    simp
   have hl' : (l ++ (leBytes size N).take k).length + 1 ≤ 1000000000000 := by rw [hll]; omega
   go_wp2_with ((
    at_builtin
    refine wpList_row rfl (.tmp 20) (.tmp 23) rfl (hrow.alloc _) rfl ⟨wr.heap.size, 0, none⟩ 1 (.int .u8 ((N : Int) / 256 ^ k % 256)) rfl hcell1 (by intro u hu; simp at hu; subst hu; rfl) hl' ?_
    intro v1 w6 r hown6 hgrow6 hr6
    rw [hll] at hown6
    obtain ⟨a', c', hv1⟩ : ∃ a' c', v1 = .slice a' (l.length + k + 1) c' := by
     rcases hown6.2 with ⟨e1, e2⟩ | ⟨g, cap, cur, e1, -⟩
     ·omega
     ·exact ⟨_, _, e1⟩
    subst hv1
    have hw6 : w6.heap[wb]? = some (.cells #[bv'] 53) := by
     rw [hgrow6.block wb (by simp; omega) (fun e => by have := hr6 wb e.symm; have := hrow.wK; omega), Go.RowKit.Below.heap_alloc _ _ _ hwb]; exact hrow.var
    have hc6 : w6.cell? ⟨wb, 0, none⟩ = some bv' := by unfold World.cell?; simp [hw6]
    have hz6 : w6.frozen? ⟨wb, 0, none⟩ = false := by unfold World.frozen?; simp [hw6]
    have hlt6 : wb < w6.heap.size := (Array.getElem?_eq_some_iff.1 hw6).1))
   rw [hval.out] at hown6
   rw [← hll] at hown6
   obtain ⟨hr2, hf2⟩ := (hrow.alloc (.cells #[.int .u8 ((N : Int) / 256 ^ k % 256)] 5)).push hown6 hgrow6 hr6
   rw [hll] at hr2 hf2
   refine ⟨⟨k + 1, .slice a' (l.length + k + 1) c', by omega, by simp, ?_, ?_, ?_⟩, by simp; omega⟩
   ·rw [Nat.pow_succ, ← Nat.div_div_eq_div_mul]; simp
   ·rw [leBytes_take size N k hlt, ← List.append_assoc]
    exact hr2
   ·exact hfr.trans ((Fr.alloc (Fr.refl _ wr) _).trans hf2)
  ·have hks : k = size := by omega
   subst hks
   go_wp2_with fail
   go_end0
   refine ⟨rfl, ⟨bv', ?_⟩, hfr⟩
   rw [HN.out, Int.toNat_natCast]
   rw [List.take_of_length_le (by rw [leBytes_length]; exact Nat.le_refl _)] at hrow
   exact hrow
def writerFn (wb : Nat) : Value := .func (.func 34) #[.pointer (some ⟨wb, 0, none⟩)] #[]
def writing (b wb g0 K : Nat) : Mode b where
 σ := Nat × List UInt8
 S := fun k => k = wb ∨ K ≤ k
 N := fun k => k = 0 ∨ k = wb ∨ k = g0 ∨ K ≤ k
 fn := writerFn wb
 I := fun st p w => p = st.2.length ∧ st.2.length + 8 * st.1 ≤ 1000000000000 ∧ 0 < K ∧ 0 < wb ∧ b ≠ 0 ∧ b < K ∧ b ≠ wb ∧ g0 ≠ b ∧ Tab w ∧ ∃ bv, Row w wb g0 K st.2 bv
 eff := fun st _ size v => if st.1 = 0 then .error (-1, -1) else .ok (v, (st.1 - 1, st.2 ++ leBytes size (IntKind.u64.wrap v).toNat))
 tab := fun _ _ _ h => h.2.2.2.2.2.2.2.2.1
 stable := fun st p w w' h f => by
  obtain ⟨h1, h2, h3, h4, h5, h6, h7, h8, h9, bv, k⟩ := h
  exact ⟨h1, h2, h3, h4, h5, h6, h7, h8, h9.fr f (fun e => h5 e.symm), bv, k.fr f (fun e => h7 e.symm) h8 (fun j hj e => by omega)⟩
end Go.Proofs.YtingenonbkencaaDoor
