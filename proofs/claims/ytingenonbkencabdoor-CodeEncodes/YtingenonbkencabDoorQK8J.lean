import Derived.Test.YtingenonbkencabDoorQK5a
import Derived.Test.YtingenonbkencabDoorQK5b
import Derived.Test.YtingenonbkencabDoorQK5c
import Derived.Test.YtingenonbkencabDoorQK5d
import Derived.Test.YtingenonbkencabDoorQK5e
import Derived.Test.YtingenonbkencabDoorQK5f
import Derived.Test.YtingenonbkencabDoorQD2J
import Derived.Test.YtingenonbkencabDoorQK7
set_option linter.unusedVariables false
set_option linter.unusedSimpArgs false
namespace Go.Proofs.YtingenonbkencabDoor
open Go.RowKit (wrap32 wrap64)
def plainB (op zr zs zt zn : Int) (la lr : Nat) : Bool := (tested (namesB op)).all fun p => (zzOf (zeros6 zr zs zt zn la lr) p.1 == 0) || p.2
theorem rplain (w : World) (op zr zs zt zn : Int) (aa ra : Option Addr) (la ca lr cr : Nat) :
 Calls Tryd.prog 76 #[.agg #[vI op, vI zr, vI zs, vI zt, vI zn, .slice aa la ca, .slice ra lr cr]] w fun e w' => e = .returned (.bool (plainB op zr zs zt zn la lr)) ∧ Fr (fun _ => False) w w' := by
 by_cases h : 1 ≤ op ∧ op ≤ 17
 ·rcases (show op = 1 ∨ op = 2 ∨ op = 3 ∨ op = 4 ∨ op = 5 ∨ op = 6 ∨ op = 7 ∨ op = 8 ∨ op = 9 ∨ op = 10 ∨ op = 11 ∨ op = 12 ∨ op = 13 ∨ op = 14 ∨ op = 15 ∨ op = 16 ∨ op = 17 by omega) with rfl | rfl | rfl | rfl | rfl | rfl | rfl | rfl | rfl | rfl | rfl | rfl | rfl | rfl | rfl | rfl | rfl
  ·exact plain_1 w 1 zr zs zt zn aa ra la ca lr cr (fun _ => rfl)
  ·exact plain_2 w 2 zr zs zt zn aa ra la ca lr cr (fun _ => rfl)
  ·exact plain_3 w 3 zr zs zt zn aa ra la ca lr cr (fun _ => rfl)
  ·exact plain_4 w 4 zr zs zt zn aa ra la ca lr cr (fun _ => rfl)
  ·exact plain_5 w 5 zr zs zt zn aa ra la ca lr cr (fun _ => rfl)
  ·exact plain_6 w 6 zr zs zt zn aa ra la ca lr cr (fun _ => rfl)
  ·exact plain_7 w 7 zr zs zt zn aa ra la ca lr cr (fun _ => rfl)
  ·exact plain_8 w 8 zr zs zt zn aa ra la ca lr cr (fun _ => rfl)
  ·exact plain_9 w 9 zr zs zt zn aa ra la ca lr cr (fun _ => rfl)
  ·exact plain_10 w 10 zr zs zt zn aa ra la ca lr cr (fun _ => rfl)
  ·exact plain_11 w 11 zr zs zt zn aa ra la ca lr cr (fun _ => rfl)
  ·exact plain_12 w 12 zr zs zt zn aa ra la ca lr cr (fun _ => rfl)
  ·exact plain_13 w 13 zr zs zt zn aa ra la ca lr cr (fun _ => rfl)
  ·exact plain_14 w 14 zr zs zt zn aa ra la ca lr cr (fun _ => rfl)
  ·exact plain_15 w 15 zr zs zt zn aa ra la ca lr cr (fun _ => rfl)
  ·exact plain_16 w 16 zr zs zt zn aa ra la ca lr cr (fun _ => rfl)
  ·exact plain_17 w 17 zr zs zt zn aa ra la ca lr cr (fun _ => rfl)
 ·have hn : ∀ c, namesB op c = false := fun c => by
   have e := partsB_out op h
   have e2 : partsN op.toNat = #[] := congrArg ByteArray.data e
   unfold namesB
   rw [e2]
   rfl
  have hf : namesB op = fun _ => false := funext hn
  unfold plainB
  rw [hf]
  exact plain_no w op zr zs zt zn aa ra la ca lr cr hn
theorem plainB_nbK (k : Nat) (h : 1 ≤ k ∧ k ≤ 17) (s : WS) (la lr : Nat) : plainB k s.r s.s s.t s.n la lr = nbK k s la lr := by
 have hz : ∀ (nmf : UInt8 → Bool), ((tested nmf).all fun p => (zzOf (zeros6 s.r s.s s.t s.n la lr) p.1 == 0) || p.2) = (((s.r == 0) || nmf 82) && (((s.s == 0) || nmf 83) && (((s.t == 0) || nmf 84) && (((s.n == 0) || (nmf 105 || nmf 99 || nmf 102 || nmf 103 || nmf 70 || nmf 74)) && ((((la : Int) == 0) || (nmf 65 || nmf 86)) && ((((lr : Int) == 0) || nmf 66) && true)))))) := fun nmf => rfl
 unfold plainB
 rw [hz]
 rcases (show k = 1 ∨ k = 2 ∨ k = 3 ∨ k = 4 ∨ k = 5 ∨ k = 6 ∨ k = 7 ∨ k = 8 ∨ k = 9 ∨ k = 10 ∨ k = 11 ∨ k = 12 ∨ k = 13 ∨ k = 14 ∨ k = 15 ∨ k = 16 ∨ k = 17 by omega) with rfl | rfl | rfl | rfl | rfl | rfl | rfl | rfl | rfl | rfl | rfl | rfl | rfl | rfl | rfl | rfl | rfl
 all_goals
  simp only [namesB, Int.toNat_natCast, partsN, nbK]
  cases (s.r == 0) <;> cases (s.s == 0) <;> cases (s.t == 0) <;> cases (s.n == 0) <;> cases ((la : Int) == 0) <;> cases ((lr : Int) == 0) <;> rfl
set_option maxRecDepth 100000
set_option maxHeartbeats 2000000
def opB (op : Int) : Bool := decide (1 ≤ op) && decide (op ≤ 17)
def lastB (last : Bool) (op : Int) : Bool := !last || (op == 13 || op == 15)
def opL (op L : Int) : Int := if op = 6 then L + 1 else L
def opE (op : Int) (pl last : Bool) (L E : Int) : Int := mustE (decide (opL op L + 1 ≤ 1048576)) 21 (mustE (lastB last op) 19 (mustE pl 1 (mustE (opB op) 12 E)))
theorem partsB_in (op : Int) : (!(partsB op).toList.isEmpty) = opB op := by
 by_cases h : 1 ≤ op ∧ op ≤ 17
 ·have e : opB op = true := by unfold opB; simp [h.1, h.2]
  rw [e]
  rcases (show op = 1 ∨ op = 2 ∨ op = 3 ∨ op = 4 ∨ op = 5 ∨ op = 6 ∨ op = 7 ∨ op = 8 ∨ op = 9 ∨ op = 10 ∨ op = 11 ∨ op = 12 ∨ op = 13 ∨ op = 14 ∨ op = 15 ∨ op = 16 ∨ op = 17 by omega) with rfl | rfl | rfl | rfl | rfl | rfl | rfl | rfl | rfl | rfl | rfl | rfl | rfl | rfl | rfl | rfl | rfl <;>
   (simp [partsB, partsN, ByteArray.toList, ByteArray.toList.loop, ByteArray.size])
 ·have e : opB op = false := by unfold opB; simp; omega
  rw [partsB_out op h, e]
  simp [ByteArray.toList, ByteArray.toList.loop, ByteArray.size]
theorem rop (rb : Nat) (G : Int) (fv : Value) (w : World) (L E : Int) (h : RW rb G fv w L E) (hL0 : 0 ≤ L) (hL1 : L ≤ 1000000000000) (op zr zs zt zn : Int) (aa ra : Option Addr) (la ca lr cr : Nat) (last : Bool) :
 Calls Tryd.prog 68 #[.pointer (some ⟨rb, 0, none⟩), .agg #[vI op, vI zr, vI zs, vI zt, vI zn, .slice aa la ca, .slice ra lr cr], .bool last] w fun r w' => r = .returned (.tuple #[]) ∧ RW rb G fv w' (opL op L) (opE op (plainB op zr zs zt zn la lr) last L E) ∧ Fr (fun k => k = rb) w w' := by
 have hne : (!(partsB op).toList.isEmpty) = opB op := partsB_in op
 have hrb : rb < w.heap.size := h.cells.2.2.2.2.2
 go_enter Tryd.func68, Tryd.ntmps68
 go_wp2_with fail
 refine (rparts op _).mono ?_
 rintro e w1 ⟨rfl, hf1⟩
 have hfa : Fr (fun k => k = rb) w w1 := (Fr.alloc (Fr.refl (fun k => k = rb) w) _).trans (hf1.mono (fun _ _ h => h.elim))
 have h1 : RW rb G fv w1 L E := h.fr ((Fr.alloc (Fr.refl (fun _ => False) w) _).trans hf1) (fun h => h)
 have hx1 : w1.heap[w.heap.size]? = some (.cells #[vI op, vI zr, vI zs, vI zt, vI zn, .slice aa la ca, .slice ra lr cr] 57) := by
  rw [hf1.block _ (by simp) (fun h => h)]
  exact heap_alloc_last w _
 clear hf1 h
 generalize partsB op = pb at hne ⊢
 go_wp2_with fail
 refine (rmust rb G fv w1 L E h1 (opB op) 12).mono ?_
 rintro e w2 ⟨rfl, h2, hf2⟩
 have hps : ¬ w.heap.size = rb := by omega
 have hx2 : w2.heap[w.heap.size]? = some (.cells #[vI op, vI zr, vI zs, vI zt, vI zn, .slice aa la ca, .slice ra lr cr] 57) := by
  rw [hf2.block _ (Array.getElem?_eq_some_iff.1 hx1).1 hps]; exact hx1
 have hfb : Fr (fun k => k = rb) w w2 := hfa.trans hf2
 clear hne hf2 hfa hx1 h1
 have cc : ∀ {v : World}, v.heap[w.heap.size]? = some (.cells #[vI op, vI zr, vI zs, vI zt, vI zn, .slice aa la ca, .slice ra lr cr] 57) → v.cell? ⟨w.heap.size, 0, none⟩ = some (vI op) ∧ v.cell? ⟨w.heap.size, 1, none⟩ = some (vI zr) ∧ v.cell? ⟨w.heap.size, 2, none⟩ = some (vI zs) ∧ v.cell? ⟨w.heap.size, 3, none⟩ = some (vI zt) ∧ v.cell? ⟨w.heap.size, 4, none⟩ = some (vI zn) ∧ v.cell? ⟨w.heap.size, 5, none⟩ = some (.slice aa la ca) ∧ v.cell? ⟨w.heap.size, 6, none⟩ = some (.slice ra lr cr) := by
  intro v hv
  refine ⟨?_, ?_, ?_, ?_, ?_, ?_, ?_⟩ <;> (unfold World.cell?; simp [hv])
 have CC : Hd _ := @cc
 clear cc
 obtain ⟨d0, d1, d2, d3, d4, d5, d6⟩ := CC.out hx2
 go_wp2_with fail
 refine (rplain w2 op zr zs zt zn aa ra la ca lr cr).mono ?_
 rintro e w3 ⟨rfl, hf3⟩
 have hx3 : w3.heap[w.heap.size]? = some (.cells #[vI op, vI zr, vI zs, vI zt, vI zn, .slice aa la ca, .slice ra lr cr] 57) := by
  rw [hf3.block _ (Array.getElem?_eq_some_iff.1 hx2).1 (fun h => h)]; exact hx2
 have h3 := h2.fr hf3 (fun h => h)
 have hfc : Fr (fun k => k = rb) w w3 := hfb.trans (hf3.mono (fun _ _ h => h.elim))
 clear d0 d1 d2 d3 d4 d5 d6 hf3 hfb hx2 h2
 go_wp2_with fail
 refine (rmust rb G fv w3 L _ h3 (plainB op zr zs zt zn la lr) 1).mono ?_
 rintro e w4 ⟨rfl, h4, hf4⟩
 have hx4 : w4.heap[w.heap.size]? = some (.cells #[vI op, vI zr, vI zs, vI zt, vI zn, .slice aa la ca, .slice ra lr cr] 57) := by
  rw [hf4.block _ (Array.getElem?_eq_some_iff.1 hx3).1 hps]; exact hx3
 have hfd : Fr (fun k => k = rb) w w4 := hfc.trans hf4
 clear hf4 hfc hx3 h3
 obtain ⟨d0, -⟩ := CC.out hx4
 obtain ⟨E4, HE4⟩ : ∃ E4, Hd (mustE (plainB op zr zs zt zn la lr) 1 (mustE (opB op) 12 E) = E4) := ⟨_, rfl⟩
 rw [HE4.out] at h4
 -- ways
 have hres : ∀ (w' : World) (L' : Int) (B : Bool), opL op L = L' → lastB last op = B → RW rb G fv w' L' (mustE (decide (L' + 1 ≤ 1048576)) 21 (mustE B 19 E4)) → RW rb G fv w' (opL op L) (opE op (plainB op zr zs zt zn la lr) last L E) := by
  intro w' L' B e1 e2 hr
  unfold opE
  rw [HE4.out, e1, e2]
  exact hr
 have HRES : Hd _ := hres
 clear hres HE4
 cases last with
 | false =>
   by_cases h6 : op = 6
   ·have hB : Hd (lastB false op = true) := by unfold Hd lastB; rfl
    have hL : Hd (opL op L = L + 1) := by unfold Hd opL; rw [if_pos h6]
    subst h6
    go_wp2_with fail
    refine (rmust rb G fv w4 L E4 h4 true 19).mono ?_
    rintro e w5 ⟨rfl, h5, hf5⟩
    have hx5 := hx4
    rw [← hf5.block _ (Array.getElem?_eq_some_iff.1 hx4).1 hps] at hx5
    have hfe : Fr (fun k => k = rb) w w5 := hfd.trans hf5
    clear hf5 hfd hx4 h4 d0
    obtain ⟨d0, -⟩ := CC.out hx5
    obtain ⟨-, -, r2, r3, rz, rlt⟩ := h5.cells
    go_wp2_with fail
    have h6' := h5.setL (L + 1)
    have hff : Fr (fun k => k = rb) w (w5.setCell ⟨rb, 2, none⟩ (vI (L + 1))) := Fr.setCell hfe _ _ (Or.inl rfl)
    generalize w5.setCell ⟨rb, 2, none⟩ (vI (L + 1)) = w6 at h6' hff ⊢
    clear r2 r3 rz rlt h5 hfe d0
    obtain ⟨-, -, r2, r3, rz, rlt⟩ := h6'.cells
    refine (rmust rb G fv w6 (L + 1) _ h6' (decide (L + 1 + 1 ≤ 1048576)) 21).mono ?_
    rintro e w7 ⟨rfl, h7, hf7⟩
    go_wp2_with fail
    go_end0
    exact ⟨rfl, HRES.out _ _ _ hL.out hB.out h7, hff.trans hf7⟩
   ·have hB : Hd (lastB false op = true) := by unfold Hd lastB; rfl
    have hL : Hd (opL op L = L) := by unfold Hd opL; rw [if_neg h6]
    have h6' : (op == 6) = false := by simpa using h6
    go_wp2_with fail
    refine (rmust rb G fv w4 L E4 h4 true 19).mono ?_
    rintro e w5 ⟨rfl, h5, hf5⟩
    have hx5 := hx4
    rw [← hf5.block _ (Array.getElem?_eq_some_iff.1 hx4).1 hps] at hx5
    have hfe : Fr (fun k => k = rb) w w5 := hfd.trans hf5
    clear hf5 hfd hx4 h4 d0
    obtain ⟨d0, -⟩ := CC.out hx5
    obtain ⟨-, -, r2, r3, rz, rlt⟩ := h5.cells
    go_wp2_with fail
    refine (rmust rb G fv w5 L _ h5 (decide (L + 1 ≤ 1048576)) 21).mono ?_
    rintro e w7 ⟨rfl, h7, hf7⟩
    go_wp2_with fail
    go_end0
    exact ⟨rfl, HRES.out _ _ _ hL.out hB.out h7, hfe.trans hf7⟩
 | true =>
   by_cases h13 : op = 13
   ·have h6 : ¬ op = 6 := by omega
    subst h13
    have hB : Hd (lastB true 13 = true) := by unfold Hd lastB; rfl
    have hL : Hd (opL 13 L = L) := by unfold Hd opL; rw [if_neg h6]
    go_wp2_with fail
    refine (rmust rb G fv w4 L E4 h4 true 19).mono ?_
    rintro e w5 ⟨rfl, h5, hf5⟩
    have hx5 := hx4
    rw [← hf5.block _ (Array.getElem?_eq_some_iff.1 hx4).1 hps] at hx5
    have hfe : Fr (fun k => k = rb) w w5 := hfd.trans hf5
    clear hf5 hfd hx4 h4 d0
    obtain ⟨d0, -⟩ := CC.out hx5
    obtain ⟨-, -, r2, r3, rz, rlt⟩ := h5.cells
    go_wp2_with fail
    refine (rmust rb G fv w5 L _ h5 (decide (L + 1 ≤ 1048576)) 21).mono ?_
    rintro e w7 ⟨rfl, h7, hf7⟩
    go_wp2_with fail
    go_end0
    exact ⟨rfl, HRES.out _ _ _ hL.out hB.out h7, hfe.trans hf7⟩
   ·have h13' : (op == 13) = false := by simpa using h13
    by_cases h15 : op = 15
    ·have h6 : ¬ op = 6 := by omega
     subst h15
     have hB : Hd (lastB true 15 = true) := by unfold Hd lastB; rfl
     have hL : Hd (opL 15 L = L) := by unfold Hd opL; rw [if_neg h6]
     go_wp2_with fail
     refine (rmust rb G fv w4 L E4 h4 true 19).mono ?_
     rintro e w5 ⟨rfl, h5, hf5⟩
     have hx5 := hx4
     rw [← hf5.block _ (Array.getElem?_eq_some_iff.1 hx4).1 hps] at hx5
     have hfe : Fr (fun k => k = rb) w w5 := hfd.trans hf5
     clear hf5 hfd hx4 h4 d0
     obtain ⟨d0, -⟩ := CC.out hx5
     obtain ⟨-, -, r2, r3, rz, rlt⟩ := h5.cells
     go_wp2_with fail
     refine (rmust rb G fv w5 L _ h5 (decide (L + 1 ≤ 1048576)) 21).mono ?_
     rintro e w7 ⟨rfl, h7, hf7⟩
     go_wp2_with fail
     go_end0
     exact ⟨rfl, HRES.out _ _ _ hL.out hB.out h7, hfe.trans hf7⟩
    ·have h15' : (op == 15) = false := by simpa using h15
     by_cases h6 : op = 6
     ·have hB : Hd (lastB true op = false) := by unfold Hd lastB; rw [h13', h15']; rfl
      have hL : Hd (opL op L = L + 1) := by unfold Hd opL; rw [if_pos h6]
      subst h6
      go_wp2_with fail
      refine (rmust rb G fv w4 L E4 h4 false 19).mono ?_
      rintro e w5 ⟨rfl, h5, hf5⟩
      have hx5 := hx4
      rw [← hf5.block _ (Array.getElem?_eq_some_iff.1 hx4).1 hps] at hx5
      have hfe : Fr (fun k => k = rb) w w5 := hfd.trans hf5
      clear hf5 hfd hx4 h4 d0
      obtain ⟨d0, -⟩ := CC.out hx5
      obtain ⟨-, -, r2, r3, rz, rlt⟩ := h5.cells
      go_wp2_with fail
      have h6' := h5.setL (L + 1)
      have hff : Fr (fun k => k = rb) w (w5.setCell ⟨rb, 2, none⟩ (vI (L + 1))) := Fr.setCell hfe _ _ (Or.inl rfl)
      generalize w5.setCell ⟨rb, 2, none⟩ (vI (L + 1)) = w6 at h6' hff ⊢
      clear r2 r3 rz rlt h5 hfe d0
      obtain ⟨-, -, r2, r3, rz, rlt⟩ := h6'.cells
      refine (rmust rb G fv w6 (L + 1) _ h6' (decide (L + 1 + 1 ≤ 1048576)) 21).mono ?_
      rintro e w7 ⟨rfl, h7, hf7⟩
      go_wp2_with fail
      go_end0
      exact ⟨rfl, HRES.out _ _ _ hL.out hB.out h7, hff.trans hf7⟩
     ·have hB : Hd (lastB true op = false) := by unfold Hd lastB; rw [h13', h15']; rfl
      have hL : Hd (opL op L = L) := by unfold Hd opL; rw [if_neg h6]
      have h6' : (op == 6) = false := by simpa using h6
      go_wp2_with fail
      refine (rmust rb G fv w4 L E4 h4 false 19).mono ?_
      rintro e w5 ⟨rfl, h5, hf5⟩
      have hx5 := hx4
      rw [← hf5.block _ (Array.getElem?_eq_some_iff.1 hx4).1 hps] at hx5
      have hfe : Fr (fun k => k = rb) w w5 := hfd.trans hf5
      clear hf5 hfd hx4 h4 d0
      obtain ⟨d0, -⟩ := CC.out hx5
      obtain ⟨-, -, r2, r3, rz, rlt⟩ := h5.cells
      go_wp2_with fail
      refine (rmust rb G fv w5 L _ h5 (decide (L + 1 ≤ 1048576)) 21).mono ?_
      rintro e w7 ⟨rfl, h7, hf7⟩
      go_wp2_with fail
      go_end0
      exact ⟨rfl, HRES.out _ _ _ hL.out hB.out h7, hfe.trans hf7⟩
set_option maxRecDepth 100000
set_option maxHeartbeats 4000000
def smallB (P R V : Int) : Bool := decide (0 ≤ P) && (decide (P ≤ 8) && (decide (P ≤ V) && (decide (0 ≤ R) && (decide (R ≤ 4) && decide (V ≤ 255)))))
def headE2 (P R V n E : Int) : Int := mustE (decide (1 ≤ n)) 19 (mustE (smallB P R V && decide (n ≤ 4096)) 20 E)
def headL (P R V n L E : Int) : Int := if headE2 P R V n E = 0 then L + V else L
def headE (P R V n L E : Int) : Int := mustE (decide (headL P R V n L E + 1 ≤ 1048576)) 21 (headE2 P R V n E)
theorem mustE_bad (e E : Int) (he : e ≠ 0) : mustE false e E ≠ 0 := by
 unfold mustE
 by_cases h : E = 0
 ·simp [h, he]
 ·simp [h]
theorem mustE_ne (ok : Bool) (e E : Int) (h : E ≠ 0) : mustE ok e E ≠ 0 := by
 unfold mustE
 simp [h]
theorem rhead (rb : Nat) (G : Int) (fv : Value) (w : World) (L E : Int) (h : RW rb G fv w L E) (hL0 : 0 ≤ L) (hL1 : L ≤ 1000000000000) (P R V n : Int) (a : Option Addr) (l c : Nat) :
 Calls Tryd.prog 43 #[.pointer (some ⟨rb, 0, none⟩), .agg #[vI P, vI R, vI V, .slice a l c], vI n] w fun r w' => r = .returned (.tuple #[]) ∧ RW rb G fv w' (headL P R V n L E) (headE P R V n L E) ∧ Fr (fun k => k = rb) w w' := by
 have hrb : rb < w.heap.size := h.cells.2.2.2.2.2
 have hps : ¬ w.heap.size = rb := by omega
 have hfa : Fr (fun k => k = rb) w (w.alloc (.cells #[vI P, vI R, vI V, .slice a l c] 42)) := Fr.alloc (Fr.refl _ _) _
 have h1 : RW rb G fv (w.alloc (.cells #[vI P, vI R, vI V, .slice a l c] 42)) L E := h.fr (Fr.alloc (Fr.refl (fun _ => False) w) _) (fun h => h)
 have hx1 : (w.alloc (.cells #[vI P, vI R, vI V, .slice a l c] 42)).heap[w.heap.size]? = some (.cells #[vI P, vI R, vI V, .slice a l c] 42) := heap_alloc_last w _
 have HX1 : Hd _ := hx1
 have H1 : Hd _ := h1
 clear h hx1 h1
 have hres : ∀ (w' : World) (L' : Int) (S : Bool), headL P R V n L E = L' → (smallB P R V && decide (n ≤ 4096)) = S → RW rb G fv w' L' (mustE (decide (L' + 1 ≤ 1048576)) 21 (mustE (decide (1 ≤ n)) 19 (mustE S 20 E))) → RW rb G fv w' (headL P R V n L E) (headE P R V n L E) := by
  intro w' L' S e1 e2 hr
  unfold headE headE2
  rw [e1, e2]
  exact hr
 have HRES : Hd _ := hres
 clear hres
 by_cases q0 : 0 ≤ P
 rotate_left
 ·have HS : Hd ((smallB P R V && decide (n ≤ 4096)) = false) := by unfold Hd smallB; simp; omega
  go_enter Tryd.func43, Tryd.ntmps43
  go_wp2_with fail
  refine (rmust rb G fv _ L E H1.out false 20).mono ?_
  rintro e w2 ⟨rfl, h2, hf2⟩
  have hx2 : w2.heap[w.heap.size]? = some (.cells #[vI P, vI R, vI V, .slice a l c] 42) := by
   rw [hf2.block _ (Array.getElem?_eq_some_iff.1 HX1.out).1 hps]; exact HX1.out
  have hfb : Fr (fun k => k = rb) w w2 := hfa.trans hf2
  clear hf2 hfa
  go_wp2_with fail
  refine (rmust rb G fv w2 L _ h2 (decide (1 ≤ n)) 19).mono ?_
  rintro e w3 ⟨rfl, h3, hf3⟩
  have hx3 : w3.heap[w.heap.size]? = some (.cells #[vI P, vI R, vI V, .slice a l c] 42) := by
   rw [hf3.block _ (Array.getElem?_eq_some_iff.1 hx2).1 hps]; exact hx2
  have hfc : Fr (fun k => k = rb) w w3 := hfb.trans hf3
  clear hf3 hfb hx2 h2
  obtain ⟨-, -, r2, r3, rz, rlt⟩ := h3.cells
  have hE : ¬ mustE (decide (1 ≤ n)) 19 (mustE false 20 E) = 0 := mustE_ne _ _ _ (mustE_bad 20 E (by decide))
  have HLL : Hd (headL P R V n L E = L) := by unfold Hd headL headE2; rw [HS.out, if_neg hE]
  have hE' : (mustE (decide (1 ≤ n)) 19 (mustE false 20 E) == 0) = false := by simpa using hE
  have hq := hE'
  go_wp2_with fail
  refine (rmust rb G fv w3 L _ h3 (decide (L + 1 ≤ 1048576)) 21).mono ?_
  rintro e w4 ⟨rfl, h4, hf4⟩
  go_wp2_with fail
  go_end0
  exact ⟨rfl, HRES.out _ _ _ HLL.out HS.out h4, hfc.trans hf4⟩
 by_cases q1 : P ≤ 8
 rotate_left
 ·have HS : Hd ((smallB P R V && decide (n ≤ 4096)) = false) := by unfold Hd smallB; simp; omega
  go_enter Tryd.func43, Tryd.ntmps43
  go_wp2_with fail
  refine (rmust rb G fv _ L E H1.out false 20).mono ?_
  rintro e w2 ⟨rfl, h2, hf2⟩
  have hx2 : w2.heap[w.heap.size]? = some (.cells #[vI P, vI R, vI V, .slice a l c] 42) := by
   rw [hf2.block _ (Array.getElem?_eq_some_iff.1 HX1.out).1 hps]; exact HX1.out
  have hfb : Fr (fun k => k = rb) w w2 := hfa.trans hf2
  clear hf2 hfa
  go_wp2_with fail
  refine (rmust rb G fv w2 L _ h2 (decide (1 ≤ n)) 19).mono ?_
  rintro e w3 ⟨rfl, h3, hf3⟩
  have hx3 : w3.heap[w.heap.size]? = some (.cells #[vI P, vI R, vI V, .slice a l c] 42) := by
   rw [hf3.block _ (Array.getElem?_eq_some_iff.1 hx2).1 hps]; exact hx2
  have hfc : Fr (fun k => k = rb) w w3 := hfb.trans hf3
  clear hf3 hfb hx2 h2
  obtain ⟨-, -, r2, r3, rz, rlt⟩ := h3.cells
  have hE : ¬ mustE (decide (1 ≤ n)) 19 (mustE false 20 E) = 0 := mustE_ne _ _ _ (mustE_bad 20 E (by decide))
  have HLL : Hd (headL P R V n L E = L) := by unfold Hd headL headE2; rw [HS.out, if_neg hE]
  have hE' : (mustE (decide (1 ≤ n)) 19 (mustE false 20 E) == 0) = false := by simpa using hE
  have hq := hE'
  go_wp2_with fail
  refine (rmust rb G fv w3 L _ h3 (decide (L + 1 ≤ 1048576)) 21).mono ?_
  rintro e w4 ⟨rfl, h4, hf4⟩
  go_wp2_with fail
  go_end0
  exact ⟨rfl, HRES.out _ _ _ HLL.out HS.out h4, hfc.trans hf4⟩
 by_cases q2 : P ≤ V
 rotate_left
 ·have HS : Hd ((smallB P R V && decide (n ≤ 4096)) = false) := by unfold Hd smallB; simp; omega
  go_enter Tryd.func43, Tryd.ntmps43
  go_wp2_with fail
  refine (rmust rb G fv _ L E H1.out false 20).mono ?_
  rintro e w2 ⟨rfl, h2, hf2⟩
  have hx2 : w2.heap[w.heap.size]? = some (.cells #[vI P, vI R, vI V, .slice a l c] 42) := by
   rw [hf2.block _ (Array.getElem?_eq_some_iff.1 HX1.out).1 hps]; exact HX1.out
  have hfb : Fr (fun k => k = rb) w w2 := hfa.trans hf2
  clear hf2 hfa
  go_wp2_with fail
  refine (rmust rb G fv w2 L _ h2 (decide (1 ≤ n)) 19).mono ?_
  rintro e w3 ⟨rfl, h3, hf3⟩
  have hx3 : w3.heap[w.heap.size]? = some (.cells #[vI P, vI R, vI V, .slice a l c] 42) := by
   rw [hf3.block _ (Array.getElem?_eq_some_iff.1 hx2).1 hps]; exact hx2
  have hfc : Fr (fun k => k = rb) w w3 := hfb.trans hf3
  clear hf3 hfb hx2 h2
  obtain ⟨-, -, r2, r3, rz, rlt⟩ := h3.cells
  have hE : ¬ mustE (decide (1 ≤ n)) 19 (mustE false 20 E) = 0 := mustE_ne _ _ _ (mustE_bad 20 E (by decide))
  have HLL : Hd (headL P R V n L E = L) := by unfold Hd headL headE2; rw [HS.out, if_neg hE]
  have hE' : (mustE (decide (1 ≤ n)) 19 (mustE false 20 E) == 0) = false := by simpa using hE
  have hq := hE'
  go_wp2_with fail
  refine (rmust rb G fv w3 L _ h3 (decide (L + 1 ≤ 1048576)) 21).mono ?_
  rintro e w4 ⟨rfl, h4, hf4⟩
  go_wp2_with fail
  go_end0
  exact ⟨rfl, HRES.out _ _ _ HLL.out HS.out h4, hfc.trans hf4⟩
 by_cases q3 : 0 ≤ R
 rotate_left
 ·have HS : Hd ((smallB P R V && decide (n ≤ 4096)) = false) := by unfold Hd smallB; simp; omega
  go_enter Tryd.func43, Tryd.ntmps43
  go_wp2_with fail
  refine (rmust rb G fv _ L E H1.out false 20).mono ?_
  rintro e w2 ⟨rfl, h2, hf2⟩
  have hx2 : w2.heap[w.heap.size]? = some (.cells #[vI P, vI R, vI V, .slice a l c] 42) := by
   rw [hf2.block _ (Array.getElem?_eq_some_iff.1 HX1.out).1 hps]; exact HX1.out
  have hfb : Fr (fun k => k = rb) w w2 := hfa.trans hf2
  clear hf2 hfa
  go_wp2_with fail
  refine (rmust rb G fv w2 L _ h2 (decide (1 ≤ n)) 19).mono ?_
  rintro e w3 ⟨rfl, h3, hf3⟩
  have hx3 : w3.heap[w.heap.size]? = some (.cells #[vI P, vI R, vI V, .slice a l c] 42) := by
   rw [hf3.block _ (Array.getElem?_eq_some_iff.1 hx2).1 hps]; exact hx2
  have hfc : Fr (fun k => k = rb) w w3 := hfb.trans hf3
  clear hf3 hfb hx2 h2
  obtain ⟨-, -, r2, r3, rz, rlt⟩ := h3.cells
  have hE : ¬ mustE (decide (1 ≤ n)) 19 (mustE false 20 E) = 0 := mustE_ne _ _ _ (mustE_bad 20 E (by decide))
  have HLL : Hd (headL P R V n L E = L) := by unfold Hd headL headE2; rw [HS.out, if_neg hE]
  have hE' : (mustE (decide (1 ≤ n)) 19 (mustE false 20 E) == 0) = false := by simpa using hE
  have hq := hE'
  go_wp2_with fail
  refine (rmust rb G fv w3 L _ h3 (decide (L + 1 ≤ 1048576)) 21).mono ?_
  rintro e w4 ⟨rfl, h4, hf4⟩
  go_wp2_with fail
  go_end0
  exact ⟨rfl, HRES.out _ _ _ HLL.out HS.out h4, hfc.trans hf4⟩
 by_cases q4 : R ≤ 4
 rotate_left
 ·have HS : Hd ((smallB P R V && decide (n ≤ 4096)) = false) := by unfold Hd smallB; simp; omega
  go_enter Tryd.func43, Tryd.ntmps43
  go_wp2_with fail
  refine (rmust rb G fv _ L E H1.out false 20).mono ?_
  rintro e w2 ⟨rfl, h2, hf2⟩
  have hx2 : w2.heap[w.heap.size]? = some (.cells #[vI P, vI R, vI V, .slice a l c] 42) := by
   rw [hf2.block _ (Array.getElem?_eq_some_iff.1 HX1.out).1 hps]; exact HX1.out
  have hfb : Fr (fun k => k = rb) w w2 := hfa.trans hf2
  clear hf2 hfa
  go_wp2_with fail
  refine (rmust rb G fv w2 L _ h2 (decide (1 ≤ n)) 19).mono ?_
  rintro e w3 ⟨rfl, h3, hf3⟩
  have hx3 : w3.heap[w.heap.size]? = some (.cells #[vI P, vI R, vI V, .slice a l c] 42) := by
   rw [hf3.block _ (Array.getElem?_eq_some_iff.1 hx2).1 hps]; exact hx2
  have hfc : Fr (fun k => k = rb) w w3 := hfb.trans hf3
  clear hf3 hfb hx2 h2
  obtain ⟨-, -, r2, r3, rz, rlt⟩ := h3.cells
  have hE : ¬ mustE (decide (1 ≤ n)) 19 (mustE false 20 E) = 0 := mustE_ne _ _ _ (mustE_bad 20 E (by decide))
  have HLL : Hd (headL P R V n L E = L) := by unfold Hd headL headE2; rw [HS.out, if_neg hE]
  have hE' : (mustE (decide (1 ≤ n)) 19 (mustE false 20 E) == 0) = false := by simpa using hE
  have hq := hE'
  go_wp2_with fail
  refine (rmust rb G fv w3 L _ h3 (decide (L + 1 ≤ 1048576)) 21).mono ?_
  rintro e w4 ⟨rfl, h4, hf4⟩
  go_wp2_with fail
  go_end0
  exact ⟨rfl, HRES.out _ _ _ HLL.out HS.out h4, hfc.trans hf4⟩
 by_cases q5 : V ≤ 255
 rotate_left
 ·have HS : Hd ((smallB P R V && decide (n ≤ 4096)) = false) := by unfold Hd smallB; simp; omega
  go_enter Tryd.func43, Tryd.ntmps43
  go_wp2_with fail
  refine (rmust rb G fv _ L E H1.out false 20).mono ?_
  rintro e w2 ⟨rfl, h2, hf2⟩
  have hx2 : w2.heap[w.heap.size]? = some (.cells #[vI P, vI R, vI V, .slice a l c] 42) := by
   rw [hf2.block _ (Array.getElem?_eq_some_iff.1 HX1.out).1 hps]; exact HX1.out
  have hfb : Fr (fun k => k = rb) w w2 := hfa.trans hf2
  clear hf2 hfa
  go_wp2_with fail
  refine (rmust rb G fv w2 L _ h2 (decide (1 ≤ n)) 19).mono ?_
  rintro e w3 ⟨rfl, h3, hf3⟩
  have hx3 : w3.heap[w.heap.size]? = some (.cells #[vI P, vI R, vI V, .slice a l c] 42) := by
   rw [hf3.block _ (Array.getElem?_eq_some_iff.1 hx2).1 hps]; exact hx2
  have hfc : Fr (fun k => k = rb) w w3 := hfb.trans hf3
  clear hf3 hfb hx2 h2
  obtain ⟨-, -, r2, r3, rz, rlt⟩ := h3.cells
  have hE : ¬ mustE (decide (1 ≤ n)) 19 (mustE false 20 E) = 0 := mustE_ne _ _ _ (mustE_bad 20 E (by decide))
  have HLL : Hd (headL P R V n L E = L) := by unfold Hd headL headE2; rw [HS.out, if_neg hE]
  have hE' : (mustE (decide (1 ≤ n)) 19 (mustE false 20 E) == 0) = false := by simpa using hE
  have hq := hE'
  go_wp2_with fail
  refine (rmust rb G fv w3 L _ h3 (decide (L + 1 ≤ 1048576)) 21).mono ?_
  rintro e w4 ⟨rfl, h4, hf4⟩
  go_wp2_with fail
  go_end0
  exact ⟨rfl, HRES.out _ _ _ HLL.out HS.out h4, hfc.trans hf4⟩
 by_cases q6 : n ≤ 4096
 rotate_left
 ·have HS : Hd ((smallB P R V && decide (n ≤ 4096)) = false) := by unfold Hd smallB; simp; omega
  go_enter Tryd.func43, Tryd.ntmps43
  go_wp2_with fail
  refine (rmust rb G fv _ L E H1.out false 20).mono ?_
  rintro e w2 ⟨rfl, h2, hf2⟩
  have hx2 : w2.heap[w.heap.size]? = some (.cells #[vI P, vI R, vI V, .slice a l c] 42) := by
   rw [hf2.block _ (Array.getElem?_eq_some_iff.1 HX1.out).1 hps]; exact HX1.out
  have hfb : Fr (fun k => k = rb) w w2 := hfa.trans hf2
  clear hf2 hfa
  go_wp2_with fail
  refine (rmust rb G fv w2 L _ h2 (decide (1 ≤ n)) 19).mono ?_
  rintro e w3 ⟨rfl, h3, hf3⟩
  have hx3 : w3.heap[w.heap.size]? = some (.cells #[vI P, vI R, vI V, .slice a l c] 42) := by
   rw [hf3.block _ (Array.getElem?_eq_some_iff.1 hx2).1 hps]; exact hx2
  have hfc : Fr (fun k => k = rb) w w3 := hfb.trans hf3
  clear hf3 hfb hx2 h2
  obtain ⟨-, -, r2, r3, rz, rlt⟩ := h3.cells
  have hE : ¬ mustE (decide (1 ≤ n)) 19 (mustE false 20 E) = 0 := mustE_ne _ _ _ (mustE_bad 20 E (by decide))
  have HLL : Hd (headL P R V n L E = L) := by unfold Hd headL headE2; rw [HS.out, if_neg hE]
  have hE' : (mustE (decide (1 ≤ n)) 19 (mustE false 20 E) == 0) = false := by simpa using hE
  have hq := hE'
  go_wp2_with fail
  refine (rmust rb G fv w3 L _ h3 (decide (L + 1 ≤ 1048576)) 21).mono ?_
  rintro e w4 ⟨rfl, h4, hf4⟩
  go_wp2_with fail
  go_end0
  exact ⟨rfl, HRES.out _ _ _ HLL.out HS.out h4, hfc.trans hf4⟩
 have HS : Hd ((smallB P R V && decide (n ≤ 4096)) = true) := by unfold Hd smallB; simp; omega
 go_enter Tryd.func43, Tryd.ntmps43
 go_wp2_with fail
 refine (rmust rb G fv _ L E H1.out true 20).mono ?_
 rintro e w2 ⟨rfl, h2, hf2⟩
 have hx2 : w2.heap[w.heap.size]? = some (.cells #[vI P, vI R, vI V, .slice a l c] 42) := by
  rw [hf2.block _ (Array.getElem?_eq_some_iff.1 HX1.out).1 hps]; exact HX1.out
 have hfb : Fr (fun k => k = rb) w w2 := hfa.trans hf2
 clear hf2 hfa
 go_wp2_with fail
 refine (rmust rb G fv w2 L _ h2 (decide (1 ≤ n)) 19).mono ?_
 rintro e w3 ⟨rfl, h3, hf3⟩
 have hx3 : w3.heap[w.heap.size]? = some (.cells #[vI P, vI R, vI V, .slice a l c] 42) := by
  rw [hf3.block _ (Array.getElem?_eq_some_iff.1 hx2).1 hps]; exact hx2
 have hfc : Fr (fun k => k = rb) w w3 := hfb.trans hf3
 clear hf3 hfb hx2 h2
 obtain ⟨-, -, r2, r3, rz, rlt⟩ := h3.cells
 by_cases hE : mustE (decide (1 ≤ n)) 19 (mustE true 20 E) = 0
 ·have HLL : Hd (headL P R V n L E = L + V) := by unfold Hd headL headE2; rw [HS.out, if_pos hE]
  have f2 : w3.cell? ⟨w.heap.size, 2, none⟩ = some (vI V) := by unfold World.cell?; simp [hx3]
  have hE' : (mustE (decide (1 ≤ n)) 19 (mustE true 20 E) == 0) = true := by simpa using hE
  have hxl : w.heap.size < w3.heap.size := cell_lt f2
  go_wp2_with fail
  go_region
  have h5 := (h3.setL (L + V))
  have h6 := h5.fr (Fr.drew (Fr.refl (fun _ => False) _)) (fun h => h)
  have hfd : Fr (fun k => k = rb) w (w3.setCell ⟨rb, 2, none⟩ (vI (L + V))).drew := (Fr.setCell hfc _ _ (Or.inl rfl)).drew
  generalize (w3.setCell ⟨rb, 2, none⟩ (vI (L + V))).drew = w5 at h6 hfd ⊢
  clear r2 r3 rz rlt h3 hfc f2 hx3 h5 hxl
  obtain ⟨-, -, r2, r3, rz, rlt⟩ := h6.cells
  go_wp2_with fail
  refine (rmust rb G fv w5 (L + V) _ h6 (decide (L + V + 1 ≤ 1048576)) 21).mono ?_
  rintro e w6 ⟨rfl, h7, hf7⟩
  go_wp2_with fail
  go_end0
  exact ⟨rfl, HRES.out _ _ _ HLL.out HS.out h7, hfd.trans hf7⟩
 ·have HLL : Hd (headL P R V n L E = L) := by unfold Hd headL headE2; rw [HS.out, if_neg hE]
  have hE' : (mustE (decide (1 ≤ n)) 19 (mustE true 20 E) == 0) = false := by simpa using hE
  go_wp2_with fail
  refine (rmust rb G fv w3 L _ h3 (decide (L + 1 ≤ 1048576)) 21).mono ?_
  rintro e w4 ⟨rfl, h4, hf4⟩
  go_wp2_with fail
  go_end0
  exact ⟨rfl, HRES.out _ _ _ HLL.out HS.out h4, hfc.trans hf4⟩
set_option maxRecDepth 100000
set_option maxHeartbeats 2000000
theorem rwanted_V (rb : Nat) (w : World) (P R V : Int) (a : Option Addr) (l c : Nat) (op zr zs zt zn : Int) (aa ra : Option Addr) (la ca lr cr : Nat) :
 Calls Tryd.prog 77 #[.pointer (some ⟨rb, 0, none⟩), .int .u8 86, .agg #[vI P, vI R, vI V, .slice a l c], .agg #[vI op, vI zr, vI zs, vI zt, vI zn, .slice aa la ca, .slice ra lr cr]] w fun r w' => r = .returned (vI R) ∧ Fr (fun _ => False) w w' := by
 go_enter Tryd.func77, Tryd.ntmps77
 go_wp2_with fail
 go_ret
 refine ⟨rfl, ?_⟩
 repeat first
  | exact Fr.refl _ _
  | refine Fr.drew ?_
  | refine Fr.alloc ?_ _
theorem rwanted_A (rb fk fo nf fc N : Nat) (G : Int) (w : World) (L E : Int) (h : RW rb G (.slice (some ⟨fk, fo, none⟩) nf fc) w L E) (hN : N < nf) (X : Int) (hX : w.cell? ⟨fk, fo + N * 4, none⟩ = some (vI X)) (P R V : Int) (a : Option Addr) (l c : Nat) (op zr zs zt : Int) (aa ra : Option Addr) (la ca lr cr : Nat) :
 Calls Tryd.prog 77 #[.pointer (some ⟨rb, 0, none⟩), .int .u8 65, .agg #[vI P, vI R, vI V, .slice a l c], .agg #[vI op, vI zr, vI zs, vI zt, vI N, .slice aa la ca, .slice ra lr cr]] w fun r w' => r = .returned (vI X) ∧ Fr (fun _ => False) w w' := by
 obtain ⟨c0, c1, -, -, hz, hlt⟩ := h.cells
 have hfl : fk < w.heap.size := cell_lt hX
 clear h
 go_enter Tryd.func77, Tryd.ntmps77
 go_wp2_with fail
 go_region
 go_wp2_with fail
 go_ret
 refine ⟨rfl, ?_⟩
 repeat first
  | exact Fr.refl _ _
  | refine Fr.drew ?_
  | refine Fr.alloc ?_ _
theorem rwanted_B (rb fk fo nf fc N : Nat) (G : Int) (w : World) (L E : Int) (h : RW rb G (.slice (some ⟨fk, fo, none⟩) nf fc) w L E) (hN : N < nf) (X : Int) (hX : w.cell? ⟨fk, fo + N * 4 + 1, none⟩ = some (vI X)) (P R V : Int) (a : Option Addr) (l c : Nat) (op zr zs zt : Int) (aa ra : Option Addr) (la ca lr cr : Nat) :
 Calls Tryd.prog 77 #[.pointer (some ⟨rb, 0, none⟩), .int .u8 66, .agg #[vI P, vI R, vI V, .slice a l c], .agg #[vI op, vI zr, vI zs, vI zt, vI N, .slice aa la ca, .slice ra lr cr]] w fun r w' => r = .returned (vI X) ∧ Fr (fun _ => False) w w' := by
 obtain ⟨c0, c1, -, -, hz, hlt⟩ := h.cells
 have hfl : fk < w.heap.size := cell_lt hX
 clear h
 go_enter Tryd.func77, Tryd.ntmps77
 go_wp2_with fail
 go_region
 go_wp2_with fail
 go_ret
 refine ⟨rfl, ?_⟩
 repeat first
  | exact Fr.refl _ _
  | refine Fr.drew ?_
  | refine Fr.alloc ?_ _
set_option maxRecDepth 100000
set_option maxHeartbeats 4000000
def varsE (V : Int) : List Int → Int → Int
 | [], E => E
 | v :: r, E => varsE V r (mustE (varB V v) 13 E)
def listE (m V : Int) (l : List Int) (E : Int) : Int := if E = 0 then varsE V l (mustE ((l.length : Int) == m) 15 E) else E
theorem rlist_A (rb : Nat) (G : Int) (fv : Value) (w : World) (L E : Int) (h : RW rb G fv w L E) (P R V : Int) (a : Option Addr) (fl c : Nat) (op zr zs zt zn : Int) (aa ra : Option Addr) (ca cr : Nat) (lr : Nat) (l : List Int) (hll : l.length ≤ 1000000000000000) (m : Int)
 (hIL : l ≠ [] → ∃ k o, aa = some ⟨k, o, none⟩ ∧ k < w.heap.size ∧ k ≠ rb ∧ ∀ j (h : j < l.length), w.cell? ⟨k, o + j, none⟩ = some (vI l[j]))
 (hw : E = 0 → ∀ w', Fr (fun _ => False) w w' → Calls Tryd.prog 77 #[.pointer (some ⟨rb, 0, none⟩), .int .u8 65, .agg #[vI P, vI R, vI V, .slice a fl c], .agg #[vI op, vI zr, vI zs, vI zt, vI zn, .slice aa l.length ca, .slice ra lr cr]] w' fun r w'' => r = .returned (vI m) ∧ Fr (fun _ => False) w' w'') :
 Calls Tryd.prog 70 #[.pointer (some ⟨rb, 0, none⟩), .int .u8 65, .agg #[vI P, vI R, vI V, .slice a fl c], .agg #[vI op, vI zr, vI zs, vI zt, vI zn, .slice aa l.length ca, .slice ra lr cr]] w fun r w' => r = .returned (.tuple #[]) ∧ RW rb G fv w' L (listE m V l E) ∧ Fr (fun k => k = rb) w w' := by
 have hrb : rb < w.heap.size := h.cells.2.2.2.2.2
 have hf1 : Fr (fun _ => False) w ((w.alloc (.cells #[vI P, vI R, vI V, .slice a fl c] 42)).alloc (.cells #[vI op, vI zr, vI zs, vI zt, vI zn, .slice aa l.length ca, .slice ra lr cr] 57)) := Fr.alloc (Fr.alloc (Fr.refl _ _) _) _
 have h1 : RW rb G fv ((w.alloc (.cells #[vI P, vI R, vI V, .slice a fl c] 42)).alloc (.cells #[vI op, vI zr, vI zs, vI zt, vI zn, .slice aa l.length ca, .slice ra lr cr] 57)) L E := h.fr hf1 (fun h => h)
 have hxa : ((w.alloc (.cells #[vI P, vI R, vI V, .slice a fl c] 42)).alloc (.cells #[vI op, vI zr, vI zs, vI zt, vI zn, .slice aa l.length ca, .slice ra lr cr] 57)).heap[w.heap.size]? = some (.cells #[vI P, vI R, vI V, .slice a fl c] 42) := by
  rw [Go.RowKit.Below.heap_alloc _ _ _ (by simp)]; exact heap_alloc_last w _
 have HIL : Hd _ := hIL
 have hsz : w.heap.size < ((w.alloc (.cells #[vI P, vI R, vI V, .slice a fl c] 42)).alloc (.cells #[vI op, vI zr, vI zs, vI zt, vI zn, .slice aa l.length ca, .slice ra lr cr] 57)).heap.size := by simp; omega
 obtain ⟨-, -, -, c3, hz, hlt⟩ := h1.cells
 by_cases hE : E = 0
 rotate_left
 ·have hE' : (E == 0) = false := by simpa using hE
  have hr : Hd (listE m V l E = E) := by unfold Hd listE; rw [if_neg hE]
  have H1 : Hd (RW rb G fv ((w.alloc (.cells #[vI P, vI R, vI V, .slice a fl c] 42)).alloc (.cells #[vI op, vI zr, vI zs, vI zt, vI zn, .slice aa l.length ca, .slice ra lr cr] 57)) L E) := h1
  clear h hIL hw h1 hxa
  go_enter Tryd.func70, Tryd.ntmps70
  go_wp2_with fail
  (try simp only [Exit.inBlock, Exit.then])
  refine bodyPost_ret (results_none rfl _ _ _) rfl ?_
  exact ⟨rfl, by rw [hr.out]; exact H1.out, hf1.mono (fun _ _ h => h.elim)⟩
 subst hE
 have hcall := hw rfl _ hf1
 have H1 : Hd (RW rb G fv ((w.alloc (.cells #[vI P, vI R, vI V, .slice a fl c] 42)).alloc (.cells #[vI op, vI zr, vI zs, vI zt, vI zn, .slice aa l.length ca, .slice ra lr cr] 57)) L 0) := h1
 have HXA : Hd _ := hxa
 clear h hIL hw h1 hxa
 go_enter Tryd.func70, Tryd.ntmps70
 go_wp2_with fail
 refine hcall.mono ?_
 rintro e w2 ⟨rfl, hf2⟩
 clear hcall
 have h2 : RW rb G fv w2 L 0 := RW.fr H1.out hf2 (fun h => h)
 go_wp2_with fail
 refine (rmust rb G fv w2 L 0 h2 ((l.length : Int) == m) 15).mono ?_
 rintro e w3 ⟨rfl, h3, hf3⟩
 have hf03 : Fr (fun k => k = rb) ((w.alloc (.cells #[vI P, vI R, vI V, .slice a fl c] 42)).alloc (.cells #[vI op, vI zr, vI zs, vI zt, vI zn, .slice aa l.length ca, .slice ra lr cr] 57)) w3 := (hf2.mono (fun _ _ h => h.elim)).trans hf3
 have hfw : Fr (fun k => k = rb) w w3 := (hf1.mono (fun _ _ h => h.elim)).trans hf03
 have hx3 : w3.heap[w.heap.size]? = some (.cells #[vI P, vI R, vI V, .slice a fl c] 42) := by rw [hf03.block _ hsz (by omega)]; exact HXA.out
 have HR : Hd (listE m V l 0 = varsE V l (mustE ((l.length : Int) == m) 15 0)) := by unfold Hd listE; rw [if_pos rfl]
 generalize mustE ((l.length : Int) == m) 15 0 = E0 at h3 HR
 clear c3 hz hlt h2 hf2 hf3 hf03 hf1 H1 HXA hsz
 have hxl : w.heap.size < w3.heap.size := (Array.getElem?_eq_some_iff.1 hx3).1
 go_wp2_with fail
 go_loopw [9] (fun i wr => ∃ (k : Nat) (E' : Int), k ≤ l.length ∧ i = .int .i64 k ∧ RW rb G fv wr L E' ∧ Fr (fun j => j = rb) w3 wr ∧ Hd (varsE V l E0 = varsE V (l.drop k) E')) (fun i _ => match i with | .int _ q => l.length - q.toNat | _ => 0)
 case atStart => exact ⟨0, E0, Nat.zero_le _, rfl, h3, Fr.refl _ _, rfl⟩
 case round =>
  obtain ⟨k, E', hk, rfl, hr, hfr, hv⟩ := hrel
  by_cases hlt : k < l.length
  ·obtain ⟨pk, po, rfl, hpk, hpb, hcs⟩ := HIL.out (by intro e; simp [e] at hlt)
   have hce : wr.cell? ⟨pk, po + k, none⟩ = some (vI l[k]) := ((hfw.trans hfr).cell hpk hpb).trans (hcs k hlt)
   have hxr : wr.heap[w.heap.size]? = some (.cells #[vI P, vI R, vI V, .slice a fl c] 42) := by rw [hfr.block _ hxl (by omega)]; exact hx3
   have f0 : wr.cell? ⟨w.heap.size, 0, none⟩ = some (vI P) := by unfold World.cell?; simp [hxr]
   have f1 : wr.cell? ⟨w.heap.size, 1, none⟩ = some (vI R) := by unfold World.cell?; simp [hxr]
   have f2 : wr.cell? ⟨w.heap.size, 2, none⟩ = some (vI V) := by unfold World.cell?; simp [hxr]
   have f3 : wr.cell? ⟨w.heap.size, 3, none⟩ = some (.slice a fl c) := by unfold World.cell?; simp [hxr]
   have hd : Hd (l.drop k = l[k] :: l.drop (k + 1)) := List.drop_eq_getElem_cons hlt
   have hN : Hd (varsE V l E0 = varsE V (l.drop (k + 1)) (mustE (varB V l[k]) 13 E')) := by unfold Hd; rw [hv.out, hd.out]; rfl
   generalize l[k] = u at hce hN
   have hpl : pk < wr.heap.size := cell_lt hce
   have HRR : Hd _ := hr
   clear hcs hxr hd hv hr
   go_wp2_with fail
   go_region_with ((
    go_at_call 69
    refine (rvariable rb G fv _ L E' (RW.fr HRR.out (Fr.drew (Fr.refl (fun _ => False) _)) (fun h => h)) P R V a fl c u).mono ?_
    rintro e w4 ⟨rfl, h4, hf4⟩
    have hf34 : Fr (fun j => j = rb) w3 w4 := (hfr.drew).trans hf4))
   all_goals
    go_wp2_with fail
    exact ⟨⟨k + 1, _, by omega, by simp, h4, hf34, hN⟩, by simp; omega⟩
  ·have hkl : k = l.length := by omega
   subst hkl
   have hF : Hd (listE m V l 0 = E') := by unfold Hd; rw [HR.out, hv.out, List.drop_length]; rfl
   clear hv
   go_wp2_with fail
   go_end0
   exact ⟨rfl, by rw [hF.out]; exact hr, hfw.trans hfr⟩
theorem rlist_V (rb : Nat) (G : Int) (fv : Value) (w : World) (L E : Int) (h : RW rb G fv w L E) (P R V : Int) (a : Option Addr) (fl c : Nat) (op zr zs zt zn : Int) (aa ra : Option Addr) (ca cr : Nat) (lr : Nat) (l : List Int) (hll : l.length ≤ 1000000000000000) (m : Int)
 (hIL : l ≠ [] → ∃ k o, aa = some ⟨k, o, none⟩ ∧ k < w.heap.size ∧ k ≠ rb ∧ ∀ j (h : j < l.length), w.cell? ⟨k, o + j, none⟩ = some (vI l[j]))
 (hw : E = 0 → ∀ w', Fr (fun _ => False) w w' → Calls Tryd.prog 77 #[.pointer (some ⟨rb, 0, none⟩), .int .u8 86, .agg #[vI P, vI R, vI V, .slice a fl c], .agg #[vI op, vI zr, vI zs, vI zt, vI zn, .slice aa l.length ca, .slice ra lr cr]] w' fun r w'' => r = .returned (vI m) ∧ Fr (fun _ => False) w' w'') :
 Calls Tryd.prog 70 #[.pointer (some ⟨rb, 0, none⟩), .int .u8 86, .agg #[vI P, vI R, vI V, .slice a fl c], .agg #[vI op, vI zr, vI zs, vI zt, vI zn, .slice aa l.length ca, .slice ra lr cr]] w fun r w' => r = .returned (.tuple #[]) ∧ RW rb G fv w' L (listE m V l E) ∧ Fr (fun k => k = rb) w w' := by
 have hrb : rb < w.heap.size := h.cells.2.2.2.2.2
 have hf1 : Fr (fun _ => False) w ((w.alloc (.cells #[vI P, vI R, vI V, .slice a fl c] 42)).alloc (.cells #[vI op, vI zr, vI zs, vI zt, vI zn, .slice aa l.length ca, .slice ra lr cr] 57)) := Fr.alloc (Fr.alloc (Fr.refl _ _) _) _
 have h1 : RW rb G fv ((w.alloc (.cells #[vI P, vI R, vI V, .slice a fl c] 42)).alloc (.cells #[vI op, vI zr, vI zs, vI zt, vI zn, .slice aa l.length ca, .slice ra lr cr] 57)) L E := h.fr hf1 (fun h => h)
 have hxa : ((w.alloc (.cells #[vI P, vI R, vI V, .slice a fl c] 42)).alloc (.cells #[vI op, vI zr, vI zs, vI zt, vI zn, .slice aa l.length ca, .slice ra lr cr] 57)).heap[w.heap.size]? = some (.cells #[vI P, vI R, vI V, .slice a fl c] 42) := by
  rw [Go.RowKit.Below.heap_alloc _ _ _ (by simp)]; exact heap_alloc_last w _
 have HIL : Hd _ := hIL
 have hsz : w.heap.size < ((w.alloc (.cells #[vI P, vI R, vI V, .slice a fl c] 42)).alloc (.cells #[vI op, vI zr, vI zs, vI zt, vI zn, .slice aa l.length ca, .slice ra lr cr] 57)).heap.size := by simp; omega
 obtain ⟨-, -, -, c3, hz, hlt⟩ := h1.cells
 by_cases hE : E = 0
 rotate_left
 ·have hE' : (E == 0) = false := by simpa using hE
  have hr : Hd (listE m V l E = E) := by unfold Hd listE; rw [if_neg hE]
  have H1 : Hd (RW rb G fv ((w.alloc (.cells #[vI P, vI R, vI V, .slice a fl c] 42)).alloc (.cells #[vI op, vI zr, vI zs, vI zt, vI zn, .slice aa l.length ca, .slice ra lr cr] 57)) L E) := h1
  clear h hIL hw h1 hxa
  go_enter Tryd.func70, Tryd.ntmps70
  go_wp2_with fail
  (try simp only [Exit.inBlock, Exit.then])
  refine bodyPost_ret (results_none rfl _ _ _) rfl ?_
  exact ⟨rfl, by rw [hr.out]; exact H1.out, hf1.mono (fun _ _ h => h.elim)⟩
 subst hE
 have hcall := hw rfl _ hf1
 have H1 : Hd (RW rb G fv ((w.alloc (.cells #[vI P, vI R, vI V, .slice a fl c] 42)).alloc (.cells #[vI op, vI zr, vI zs, vI zt, vI zn, .slice aa l.length ca, .slice ra lr cr] 57)) L 0) := h1
 have HXA : Hd _ := hxa
 clear h hIL hw h1 hxa
 go_enter Tryd.func70, Tryd.ntmps70
 go_wp2_with fail
 refine hcall.mono ?_
 rintro e w2 ⟨rfl, hf2⟩
 clear hcall
 have h2 : RW rb G fv w2 L 0 := RW.fr H1.out hf2 (fun h => h)
 go_wp2_with fail
 refine (rmust rb G fv w2 L 0 h2 ((l.length : Int) == m) 15).mono ?_
 rintro e w3 ⟨rfl, h3, hf3⟩
 have hf03 : Fr (fun k => k = rb) ((w.alloc (.cells #[vI P, vI R, vI V, .slice a fl c] 42)).alloc (.cells #[vI op, vI zr, vI zs, vI zt, vI zn, .slice aa l.length ca, .slice ra lr cr] 57)) w3 := (hf2.mono (fun _ _ h => h.elim)).trans hf3
 have hfw : Fr (fun k => k = rb) w w3 := (hf1.mono (fun _ _ h => h.elim)).trans hf03
 have hx3 : w3.heap[w.heap.size]? = some (.cells #[vI P, vI R, vI V, .slice a fl c] 42) := by rw [hf03.block _ hsz (by omega)]; exact HXA.out
 have HR : Hd (listE m V l 0 = varsE V l (mustE ((l.length : Int) == m) 15 0)) := by unfold Hd listE; rw [if_pos rfl]
 generalize mustE ((l.length : Int) == m) 15 0 = E0 at h3 HR
 clear c3 hz hlt h2 hf2 hf3 hf03 hf1 H1 HXA hsz
 have hxl : w.heap.size < w3.heap.size := (Array.getElem?_eq_some_iff.1 hx3).1
 go_wp2_with fail
 go_loopw [9] (fun i wr => ∃ (k : Nat) (E' : Int), k ≤ l.length ∧ i = .int .i64 k ∧ RW rb G fv wr L E' ∧ Fr (fun j => j = rb) w3 wr ∧ Hd (varsE V l E0 = varsE V (l.drop k) E')) (fun i _ => match i with | .int _ q => l.length - q.toNat | _ => 0)
 case atStart => exact ⟨0, E0, Nat.zero_le _, rfl, h3, Fr.refl _ _, rfl⟩
 case round =>
  obtain ⟨k, E', hk, rfl, hr, hfr, hv⟩ := hrel
  by_cases hlt : k < l.length
  ·obtain ⟨pk, po, rfl, hpk, hpb, hcs⟩ := HIL.out (by intro e; simp [e] at hlt)
   have hce : wr.cell? ⟨pk, po + k, none⟩ = some (vI l[k]) := ((hfw.trans hfr).cell hpk hpb).trans (hcs k hlt)
   have hxr : wr.heap[w.heap.size]? = some (.cells #[vI P, vI R, vI V, .slice a fl c] 42) := by rw [hfr.block _ hxl (by omega)]; exact hx3
   have f0 : wr.cell? ⟨w.heap.size, 0, none⟩ = some (vI P) := by unfold World.cell?; simp [hxr]
   have f1 : wr.cell? ⟨w.heap.size, 1, none⟩ = some (vI R) := by unfold World.cell?; simp [hxr]
   have f2 : wr.cell? ⟨w.heap.size, 2, none⟩ = some (vI V) := by unfold World.cell?; simp [hxr]
   have f3 : wr.cell? ⟨w.heap.size, 3, none⟩ = some (.slice a fl c) := by unfold World.cell?; simp [hxr]
   have hd : Hd (l.drop k = l[k] :: l.drop (k + 1)) := List.drop_eq_getElem_cons hlt
   have hN : Hd (varsE V l E0 = varsE V (l.drop (k + 1)) (mustE (varB V l[k]) 13 E')) := by unfold Hd; rw [hv.out, hd.out]; rfl
   generalize l[k] = u at hce hN
   have hpl : pk < wr.heap.size := cell_lt hce
   have HRR : Hd _ := hr
   clear hcs hxr hd hv hr
   go_wp2_with fail
   go_region_with ((
    go_at_call 69
    refine (rvariable rb G fv _ L E' (RW.fr HRR.out (Fr.drew (Fr.refl (fun _ => False) _)) (fun h => h)) P R V a fl c u).mono ?_
    rintro e w4 ⟨rfl, h4, hf4⟩
    have hf34 : Fr (fun j => j = rb) w3 w4 := (hfr.drew).trans hf4))
   all_goals
    go_wp2_with fail
    exact ⟨⟨k + 1, _, by omega, by simp, h4, hf34, hN⟩, by simp; omega⟩
  ·have hkl : k = l.length := by omega
   subst hkl
   have hF : Hd (listE m V l 0 = E') := by unfold Hd; rw [HR.out, hv.out, List.drop_length]; rfl
   clear hv
   go_wp2_with fail
   go_end0
   exact ⟨rfl, by rw [hF.out]; exact hr, hfw.trans hfr⟩
theorem rlist_B (rb : Nat) (G : Int) (fv : Value) (w : World) (L E : Int) (h : RW rb G fv w L E) (P R V : Int) (a : Option Addr) (fl c : Nat) (op zr zs zt zn : Int) (aa ra : Option Addr) (ca cr : Nat) (la : Nat) (l : List Int) (hll : l.length ≤ 1000000000000000) (m : Int)
 (hIL : l ≠ [] → ∃ k o, ra = some ⟨k, o, none⟩ ∧ k < w.heap.size ∧ k ≠ rb ∧ ∀ j (h : j < l.length), w.cell? ⟨k, o + j, none⟩ = some (vI l[j]))
 (hw : E = 0 → ∀ w', Fr (fun _ => False) w w' → Calls Tryd.prog 77 #[.pointer (some ⟨rb, 0, none⟩), .int .u8 66, .agg #[vI P, vI R, vI V, .slice a fl c], .agg #[vI op, vI zr, vI zs, vI zt, vI zn, .slice aa la ca, .slice ra l.length cr]] w' fun r w'' => r = .returned (vI m) ∧ Fr (fun _ => False) w' w'') :
 Calls Tryd.prog 70 #[.pointer (some ⟨rb, 0, none⟩), .int .u8 66, .agg #[vI P, vI R, vI V, .slice a fl c], .agg #[vI op, vI zr, vI zs, vI zt, vI zn, .slice aa la ca, .slice ra l.length cr]] w fun r w' => r = .returned (.tuple #[]) ∧ RW rb G fv w' L (listE m V l E) ∧ Fr (fun k => k = rb) w w' := by
 have hrb : rb < w.heap.size := h.cells.2.2.2.2.2
 have hf1 : Fr (fun _ => False) w ((w.alloc (.cells #[vI P, vI R, vI V, .slice a fl c] 42)).alloc (.cells #[vI op, vI zr, vI zs, vI zt, vI zn, .slice aa la ca, .slice ra l.length cr] 57)) := Fr.alloc (Fr.alloc (Fr.refl _ _) _) _
 have h1 : RW rb G fv ((w.alloc (.cells #[vI P, vI R, vI V, .slice a fl c] 42)).alloc (.cells #[vI op, vI zr, vI zs, vI zt, vI zn, .slice aa la ca, .slice ra l.length cr] 57)) L E := h.fr hf1 (fun h => h)
 have hxa : ((w.alloc (.cells #[vI P, vI R, vI V, .slice a fl c] 42)).alloc (.cells #[vI op, vI zr, vI zs, vI zt, vI zn, .slice aa la ca, .slice ra l.length cr] 57)).heap[w.heap.size]? = some (.cells #[vI P, vI R, vI V, .slice a fl c] 42) := by
  rw [Go.RowKit.Below.heap_alloc _ _ _ (by simp)]; exact heap_alloc_last w _
 have HIL : Hd _ := hIL
 have hsz : w.heap.size < ((w.alloc (.cells #[vI P, vI R, vI V, .slice a fl c] 42)).alloc (.cells #[vI op, vI zr, vI zs, vI zt, vI zn, .slice aa la ca, .slice ra l.length cr] 57)).heap.size := by simp; omega
 obtain ⟨-, -, -, c3, hz, hlt⟩ := h1.cells
 by_cases hE : E = 0
 rotate_left
 ·have hE' : (E == 0) = false := by simpa using hE
  have hr : Hd (listE m V l E = E) := by unfold Hd listE; rw [if_neg hE]
  have H1 : Hd (RW rb G fv ((w.alloc (.cells #[vI P, vI R, vI V, .slice a fl c] 42)).alloc (.cells #[vI op, vI zr, vI zs, vI zt, vI zn, .slice aa la ca, .slice ra l.length cr] 57)) L E) := h1
  clear h hIL hw h1 hxa
  go_enter Tryd.func70, Tryd.ntmps70
  go_wp2_with fail
  (try simp only [Exit.inBlock, Exit.then])
  refine bodyPost_ret (results_none rfl _ _ _) rfl ?_
  exact ⟨rfl, by rw [hr.out]; exact H1.out, hf1.mono (fun _ _ h => h.elim)⟩
 subst hE
 have hcall := hw rfl _ hf1
 have H1 : Hd (RW rb G fv ((w.alloc (.cells #[vI P, vI R, vI V, .slice a fl c] 42)).alloc (.cells #[vI op, vI zr, vI zs, vI zt, vI zn, .slice aa la ca, .slice ra l.length cr] 57)) L 0) := h1
 have HXA : Hd _ := hxa
 clear h hIL hw h1 hxa
 go_enter Tryd.func70, Tryd.ntmps70
 go_wp2_with fail
 refine hcall.mono ?_
 rintro e w2 ⟨rfl, hf2⟩
 clear hcall
 have h2 : RW rb G fv w2 L 0 := RW.fr H1.out hf2 (fun h => h)
 go_wp2_with fail
 refine (rmust rb G fv w2 L 0 h2 ((l.length : Int) == m) 15).mono ?_
 rintro e w3 ⟨rfl, h3, hf3⟩
 have hf03 : Fr (fun k => k = rb) ((w.alloc (.cells #[vI P, vI R, vI V, .slice a fl c] 42)).alloc (.cells #[vI op, vI zr, vI zs, vI zt, vI zn, .slice aa la ca, .slice ra l.length cr] 57)) w3 := (hf2.mono (fun _ _ h => h.elim)).trans hf3
 have hfw : Fr (fun k => k = rb) w w3 := (hf1.mono (fun _ _ h => h.elim)).trans hf03
 have hx3 : w3.heap[w.heap.size]? = some (.cells #[vI P, vI R, vI V, .slice a fl c] 42) := by rw [hf03.block _ hsz (by omega)]; exact HXA.out
 have HR : Hd (listE m V l 0 = varsE V l (mustE ((l.length : Int) == m) 15 0)) := by unfold Hd listE; rw [if_pos rfl]
 generalize mustE ((l.length : Int) == m) 15 0 = E0 at h3 HR
 clear c3 hz hlt h2 hf2 hf3 hf03 hf1 H1 HXA hsz
 have hxl : w.heap.size < w3.heap.size := (Array.getElem?_eq_some_iff.1 hx3).1
 go_wp2_with fail
 go_loopw [9] (fun i wr => ∃ (k : Nat) (E' : Int), k ≤ l.length ∧ i = .int .i64 k ∧ RW rb G fv wr L E' ∧ Fr (fun j => j = rb) w3 wr ∧ Hd (varsE V l E0 = varsE V (l.drop k) E')) (fun i _ => match i with | .int _ q => l.length - q.toNat | _ => 0)
 case atStart => exact ⟨0, E0, Nat.zero_le _, rfl, h3, Fr.refl _ _, rfl⟩
 case round =>
  obtain ⟨k, E', hk, rfl, hr, hfr, hv⟩ := hrel
  by_cases hlt : k < l.length
  ·obtain ⟨pk, po, rfl, hpk, hpb, hcs⟩ := HIL.out (by intro e; simp [e] at hlt)
   have hce : wr.cell? ⟨pk, po + k, none⟩ = some (vI l[k]) := ((hfw.trans hfr).cell hpk hpb).trans (hcs k hlt)
   have hxr : wr.heap[w.heap.size]? = some (.cells #[vI P, vI R, vI V, .slice a fl c] 42) := by rw [hfr.block _ hxl (by omega)]; exact hx3
   have f0 : wr.cell? ⟨w.heap.size, 0, none⟩ = some (vI P) := by unfold World.cell?; simp [hxr]
   have f1 : wr.cell? ⟨w.heap.size, 1, none⟩ = some (vI R) := by unfold World.cell?; simp [hxr]
   have f2 : wr.cell? ⟨w.heap.size, 2, none⟩ = some (vI V) := by unfold World.cell?; simp [hxr]
   have f3 : wr.cell? ⟨w.heap.size, 3, none⟩ = some (.slice a fl c) := by unfold World.cell?; simp [hxr]
   have hd : Hd (l.drop k = l[k] :: l.drop (k + 1)) := List.drop_eq_getElem_cons hlt
   have hN : Hd (varsE V l E0 = varsE V (l.drop (k + 1)) (mustE (varB V l[k]) 13 E')) := by unfold Hd; rw [hv.out, hd.out]; rfl
   generalize l[k] = u at hce hN
   have hpl : pk < wr.heap.size := cell_lt hce
   have HRR : Hd _ := hr
   clear hcs hxr hd hv hr
   go_wp2_with fail
   go_region_with ((
    go_at_call 69
    refine (rvariable rb G fv _ L E' (RW.fr HRR.out (Fr.drew (Fr.refl (fun _ => False) _)) (fun h => h)) P R V a fl c u).mono ?_
    rintro e w4 ⟨rfl, h4, hf4⟩
    have hf34 : Fr (fun j => j = rb) w3 w4 := (hfr.drew).trans hf4))
   all_goals
    go_wp2_with fail
    exact ⟨⟨k + 1, _, by omega, by simp, h4, hf34, hN⟩, by simp; omega⟩
  ·have hkl : k = l.length := by omega
   subst hkl
   have hF : Hd (listE m V l 0 = E') := by unfold Hd; rw [HR.out, hv.out, List.drop_length]; rfl
   clear hv
   go_wp2_with fail
   go_end0
   exact ⟨rfl, by rw [hF.out]; exact hr, hfw.trans hfr⟩
end Go.Proofs.YtingenonbkencabDoor
