import Derived.Test.YtingenonbkencaaDoorQK2J
import Derived.Test.YtingenonbkencaaDoorQE6J
set_option linter.unusedVariables false
set_option linter.unusedSimpArgs false
namespace Go.Proofs.YtingenonbkencaaDoor
open Go.RowKit (wrap32 wrap64)
set_option maxRecDepth 100000
set_option maxHeartbeats 1000000
def numB (lo hi v : Int) : Bool := decide (lo ≤ v) && decide (v < hi)
theorem rnumber_c (rb : Nat) (G : Int) (fa : Option Addr) (nf fc : Nat) (w : World) (L E : Int) (h : RW rb G (.slice fa nf fc) w L E) (v n : Int) :
 Calls Tryd.prog 79 #[.pointer (some ⟨rb, 0, none⟩), .int .u8 99, vI v, vI n] w fun r w' => r = .returned (.tuple #[]) ∧ RW rb G (.slice fa nf fc) w' L (mustE (numB 1 9 v) 17 E) ∧ Fr (fun k => k = rb) w w' := by
 obtain ⟨c0, c1, -, -, hz, hlt⟩ := h.cells
 have hm := rmust rb G (.slice fa nf fc) w L E h (numB 1 9 v) 17
 obtain ⟨B, hB⟩ : ∃ B, numB 1 9 v = B := ⟨_, rfl⟩
 have HV : Hd (numB 1 9 v = B) := hB
 rw [hB] at hm
 unfold numB at hB
 clear h
 by_cases h1 : 1 ≤ v
 ·by_cases h2 : v ≤ 8
  ·have hb : B = true := by rw [← hB]; simp; omega
   subst hb
   clear hB
   go_enter Tryd.func79, Tryd.ntmps79
   go_wp2_with fail
   refine hm.mono ?_
   rintro e w1 ⟨rfl, hr, hf⟩
   clear hm c0 c1
   go_wp2_with fail
   go_end0
   exact ⟨rfl, by rw [HV.out]; exact hr, hf⟩
  ·have hb : B = false := by rw [← hB]; simp; omega
   subst hb
   clear hB
   go_enter Tryd.func79, Tryd.ntmps79
   go_wp2_with fail
   refine hm.mono ?_
   rintro e w1 ⟨rfl, hr, hf⟩
   clear hm c0 c1
   go_wp2_with fail
   go_end0
   exact ⟨rfl, by rw [HV.out]; exact hr, hf⟩
 ·have hb : B = false := by rw [← hB]; simp; omega
  subst hb
  clear hB
  go_enter Tryd.func79, Tryd.ntmps79
  go_wp2_with fail
  refine hm.mono ?_
  rintro e w1 ⟨rfl, hr, hf⟩
  clear hm c0 c1
  go_wp2_with fail
  go_end0
  exact ⟨rfl, by rw [HV.out]; exact hr, hf⟩
theorem rnumber_f (rb : Nat) (G : Int) (fa : Option Addr) (nf fc : Nat) (w : World) (L E : Int) (h : RW rb G (.slice fa nf fc) w L E) (v n : Int) :
 Calls Tryd.prog 79 #[.pointer (some ⟨rb, 0, none⟩), .int .u8 102, vI v, vI n] w fun r w' => r = .returned (.tuple #[]) ∧ RW rb G (.slice fa nf fc) w' L (mustE (numB 0 8 v) 17 E) ∧ Fr (fun k => k = rb) w w' := by
 obtain ⟨c0, c1, -, -, hz, hlt⟩ := h.cells
 have hm := rmust rb G (.slice fa nf fc) w L E h (numB 0 8 v) 17
 obtain ⟨B, hB⟩ : ∃ B, numB 0 8 v = B := ⟨_, rfl⟩
 have HV : Hd (numB 0 8 v = B) := hB
 rw [hB] at hm
 unfold numB at hB
 clear h
 by_cases h1 : 0 ≤ v
 ·by_cases h2 : v < 8
  ·have hb : B = true := by rw [← hB]; simp; omega
   subst hb
   clear hB
   go_enter Tryd.func79, Tryd.ntmps79
   go_wp2_with fail
   refine hm.mono ?_
   rintro e w1 ⟨rfl, hr, hf⟩
   clear hm c0 c1
   go_wp2_with fail
   go_end0
   exact ⟨rfl, by rw [HV.out]; exact hr, hf⟩
  ·have hb : B = false := by rw [← hB]; simp; omega
   subst hb
   clear hB
   go_enter Tryd.func79, Tryd.ntmps79
   go_wp2_with fail
   refine hm.mono ?_
   rintro e w1 ⟨rfl, hr, hf⟩
   clear hm c0 c1
   go_wp2_with fail
   go_end0
   exact ⟨rfl, by rw [HV.out]; exact hr, hf⟩
 ·have hb : B = false := by rw [← hB]; simp; omega
  subst hb
  clear hB
  go_enter Tryd.func79, Tryd.ntmps79
  go_wp2_with fail
  refine hm.mono ?_
  rintro e w1 ⟨rfl, hr, hf⟩
  clear hm c0 c1
  go_wp2_with fail
  go_end0
  exact ⟨rfl, by rw [HV.out]; exact hr, hf⟩
theorem rnumber_g (rb : Nat) (G : Int) (fa : Option Addr) (nf fc : Nat) (w : World) (L E : Int) (h : RW rb G (.slice fa nf fc) w L E) (v n : Int) :
 Calls Tryd.prog 79 #[.pointer (some ⟨rb, 0, none⟩), .int .u8 103, vI v, vI n] w fun r w' => r = .returned (.tuple #[]) ∧ RW rb G (.slice fa nf fc) w' L (mustE (numB 0 G v) 18 E) ∧ Fr (fun k => k = rb) w w' := by
 obtain ⟨c0, c1, -, -, hz, hlt⟩ := h.cells
 have hm := rmust rb G (.slice fa nf fc) w L E h (numB 0 G v) 18
 obtain ⟨B, hB⟩ : ∃ B, numB 0 G v = B := ⟨_, rfl⟩
 have HV : Hd (numB 0 G v = B) := hB
 rw [hB] at hm
 unfold numB at hB
 clear h
 by_cases h1 : 0 ≤ v
 ·by_cases h2 : v < G
  ·have hb : B = true := by rw [← hB]; simp; omega
   subst hb
   clear hB
   go_enter Tryd.func79, Tryd.ntmps79
   go_wp2_with fail
   refine hm.mono ?_
   rintro e w1 ⟨rfl, hr, hf⟩
   clear hm c0 c1
   go_wp2_with fail
   go_end0
   exact ⟨rfl, by rw [HV.out]; exact hr, hf⟩
  ·have hb : B = false := by rw [← hB]; simp; omega
   subst hb
   clear hB
   go_enter Tryd.func79, Tryd.ntmps79
   go_wp2_with fail
   refine hm.mono ?_
   rintro e w1 ⟨rfl, hr, hf⟩
   clear hm c0 c1
   go_wp2_with fail
   go_end0
   exact ⟨rfl, by rw [HV.out]; exact hr, hf⟩
 ·have hb : B = false := by rw [← hB]; simp; omega
  subst hb
  clear hB
  go_enter Tryd.func79, Tryd.ntmps79
  go_wp2_with fail
  refine hm.mono ?_
  rintro e w1 ⟨rfl, hr, hf⟩
  clear hm c0 c1
  go_wp2_with fail
  go_end0
  exact ⟨rfl, by rw [HV.out]; exact hr, hf⟩
theorem rnumber_F (rb : Nat) (G : Int) (fa : Option Addr) (nf fc : Nat) (w : World) (L E : Int) (h : RW rb G (.slice fa nf fc) w L E) (v n : Int) :
 Calls Tryd.prog 79 #[.pointer (some ⟨rb, 0, none⟩), .int .u8 70, vI v, vI n] w fun r w' => r = .returned (.tuple #[]) ∧ RW rb G (.slice fa nf fc) w' L (mustE (numB 0 nf v) 14 E) ∧ Fr (fun k => k = rb) w w' := by
 obtain ⟨c0, c1, -, -, hz, hlt⟩ := h.cells
 have hm := rmust rb G (.slice fa nf fc) w L E h (numB 0 nf v) 14
 obtain ⟨B, hB⟩ : ∃ B, numB 0 nf v = B := ⟨_, rfl⟩
 have HV : Hd (numB 0 nf v = B) := hB
 rw [hB] at hm
 unfold numB at hB
 clear h
 by_cases h1 : 0 ≤ v
 ·by_cases h2 : v < nf
  ·have hb : B = true := by rw [← hB]; simp; omega
   subst hb
   clear hB
   go_enter Tryd.func79, Tryd.ntmps79
   go_wp2_with fail
   refine hm.mono ?_
   rintro e w1 ⟨rfl, hr, hf⟩
   clear hm c0 c1
   go_wp2_with fail
   go_end0
   exact ⟨rfl, by rw [HV.out]; exact hr, hf⟩
  ·have hb : B = false := by rw [← hB]; simp; omega
   subst hb
   clear hB
   go_enter Tryd.func79, Tryd.ntmps79
   go_wp2_with fail
   refine hm.mono ?_
   rintro e w1 ⟨rfl, hr, hf⟩
   clear hm c0 c1
   go_wp2_with fail
   go_end0
   exact ⟨rfl, by rw [HV.out]; exact hr, hf⟩
 ·have hb : B = false := by rw [← hB]; simp; omega
  subst hb
  clear hB
  go_enter Tryd.func79, Tryd.ntmps79
  go_wp2_with fail
  refine hm.mono ?_
  rintro e w1 ⟨rfl, hr, hf⟩
  clear hm c0 c1
  go_wp2_with fail
  go_end0
  exact ⟨rfl, by rw [HV.out]; exact hr, hf⟩
theorem rnumber_J (rb : Nat) (G : Int) (fa : Option Addr) (nf fc : Nat) (w : World) (L E : Int) (h : RW rb G (.slice fa nf fc) w L E) (v n : Int) :
 Calls Tryd.prog 79 #[.pointer (some ⟨rb, 0, none⟩), .int .u8 74, vI v, vI n] w fun r w' => r = .returned (.tuple #[]) ∧ RW rb G (.slice fa nf fc) w' L (mustE (numB 0 n v) 16 E) ∧ Fr (fun k => k = rb) w w' := by
 obtain ⟨c0, c1, -, -, hz, hlt⟩ := h.cells
 have hm := rmust rb G (.slice fa nf fc) w L E h (numB 0 n v) 16
 obtain ⟨B, hB⟩ : ∃ B, numB 0 n v = B := ⟨_, rfl⟩
 have HV : Hd (numB 0 n v = B) := hB
 rw [hB] at hm
 unfold numB at hB
 clear h
 by_cases h1 : 0 ≤ v
 ·by_cases h2 : v < n
  ·have hb : B = true := by rw [← hB]; simp; omega
   subst hb
   clear hB
   go_enter Tryd.func79, Tryd.ntmps79
   go_wp2_with fail
   refine hm.mono ?_
   rintro e w1 ⟨rfl, hr, hf⟩
   clear hm c0 c1
   go_wp2_with fail
   go_end0
   exact ⟨rfl, by rw [HV.out]; exact hr, hf⟩
  ·have hb : B = false := by rw [← hB]; simp; omega
   subst hb
   clear hB
   go_enter Tryd.func79, Tryd.ntmps79
   go_wp2_with fail
   refine hm.mono ?_
   rintro e w1 ⟨rfl, hr, hf⟩
   clear hm c0 c1
   go_wp2_with fail
   go_end0
   exact ⟨rfl, by rw [HV.out]; exact hr, hf⟩
 ·have hb : B = false := by rw [← hB]; simp; omega
  subst hb
  clear hB
  go_enter Tryd.func79, Tryd.ntmps79
  go_wp2_with fail
  refine hm.mono ?_
  rintro e w1 ⟨rfl, hr, hf⟩
  clear hm c0 c1
  go_wp2_with fail
  go_end0
  exact ⟨rfl, by rw [HV.out]; exact hr, hf⟩
theorem rnumber_i (rb : Nat) (G : Int) (fv : Value) (w : World) (L E : Int) (h : RW rb G fv w L E) (v n : Int) :
 Calls Tryd.prog 79 #[.pointer (some ⟨rb, 0, none⟩), .int .u8 105, vI v, vI n] w fun r w' => r = .returned (.tuple #[]) ∧ RW rb G fv w' L E ∧ Fr (fun k => k = rb) w w' := by
 have HH : Hd (RW rb G fv w L E) := h
 clear h
 go_enter Tryd.func79, Tryd.ntmps79
 go_wp2_with fail
 go_end0
 exact ⟨rfl, HH.out, Fr.refl _ _⟩
set_option maxRecDepth 100000
set_option maxHeartbeats 2000000
theorem askHead_at {b : Nat} (M : Mode b) (rm : M.σ → Nat) (hN : NextAt M rm) (x : WS × M.σ) (w : World) (h : On M w x) (hR : RoomGoes M rm) (hp : 4 ≤ rm x.2) :
 Calls Tryd.prog 63 #[.pointer (some ⟨b, 0, none⟩)] w (Ends M w (headX M x)) := by
 go_enter Tryd.func63, Tryd.ntmps63
 go_wp2_with fail
 refine (hN 149 (by simp [places]) x 1 _ (by omega) h (by omega) (by omega)).mono ?_
 rintro e w1 ⟨hf1, hres⟩
 cases hx1 : nextX M 149 1 x with
 | error z =>
   simp only [hx1] at hres
   subst hres
   go_wp2_with fail
   refine ⟨rfl, hf1, ?_⟩
   simp only [headX, hx1, bind, Except.bind]
 | ok y1 =>
 have HR1 : Hd (nextX M 149 1 x = .ok y1) := hx1
 simp only [hx1] at hres
 obtain ⟨rfl, hon1⟩ := hres
 go_wp2_with fail
 refine (hN 150 (by simp [places]) y1 1 _ (by have := hR _ _ _ _ HR1.out; omega) hon1 (by omega) (by omega)).mono ?_
 rintro e w2 ⟨hf2, hres⟩
 cases hx2 : nextX M 150 1 y1 with
 | error z =>
   simp only [hx2] at hres
   subst hres
   go_wp2_with fail
   refine ⟨rfl, hf1.trans hf2, ?_⟩
   simp only [headX, hx1, hx2, bind, Except.bind]
 | ok y2 =>
 have HR2 : Hd (nextX M 150 1 y1 = .ok y2) := hx2
 simp only [hx2] at hres
 obtain ⟨rfl, hon2⟩ := hres
 go_wp2_with fail
 refine (hN 151 (by simp [places]) y2 1 _ (by have := hR _ _ _ _ HR1.out; have := hR _ _ _ _ HR2.out; omega) hon2 (by omega) (by omega)).mono ?_
 rintro e w3 ⟨hf3, hres⟩
 cases hx3 : nextX M 151 1 y2 with
 | error z =>
   simp only [hx3] at hres
   subst hres
   go_wp2_with fail
   refine ⟨rfl, (hf1.trans hf2).trans hf3, ?_⟩
   simp only [headX, hx1, hx2, hx3, bind, Except.bind]
 | ok y3 =>
 have HR3 : Hd (nextX M 151 1 y2 = .ok y3) := hx3
 simp only [hx3] at hres
 obtain ⟨rfl, hon3⟩ := hres
 go_wp2_with fail
 refine (hN 153 (by simp [places]) y3 2 _ (by have := hR _ _ _ _ HR1.out; have := hR _ _ _ _ HR2.out; have := hR _ _ _ _ HR3.out; omega) hon3 (by omega) (by omega)).mono ?_
 rintro e w4 ⟨hf4, hres⟩
 have hf : Fr M.SB w w4 := ((hf1.trans hf2).trans hf3).trans hf4
 cases hx4 : nextX M 153 2 y3 with
 | error z =>
   simp only [hx4] at hres
   subst hres
   go_wp2_with fail
   refine ⟨rfl, hf, ?_⟩
   simp only [headX, hx1, hx2, hx3, hx4, bind, Except.bind]
 | ok y4 =>
 simp only [hx4] at hres
 obtain ⟨rfl, hon4⟩ := hres
 have c149 : w4.cell? ⟨b, 149, none⟩ = some (vI y4.1.fP) := hon4.1.facts.2.2.2.2.2.1
 have c150 : w4.cell? ⟨b, 150, none⟩ = some (vI y4.1.fR) := hon4.1.facts.2.2.2.2.2.2.1
 have c151 : w4.cell? ⟨b, 151, none⟩ = some (vI y4.1.fV) := hon4.1.facts.2.2.2.2.2.2.2.1
 have c153 : w4.cell? ⟨b, 153, none⟩ = some (vI y4.1.len) := hon4.1.facts.2.2.2.2.2.2.2.2.2.1
 have hX : headX M x = (headOk y4.1 x.1.at' >>= fun _ => locX M y4.1.fV x.1.at' y4) := by
  simp only [headX, hx1, hx2, hx3, hx4, bind, Except.bind]
 have HX : Hd (headX M x = (headOk y4.1 x.1.at' >>= fun _ => locX M y4.1.fV x.1.at' y4)) := hX
 clear hX hx1 hx2 hx3 hx4 hon1 hon2 hon3 hf1 hf2 hf3 hf4
 go_wp2_with fail
 refine (within_any _ _ _ _).mono ?_
 rintro e w' ⟨rfl, rfl⟩
 by_cases m1 : 0 ≤ y4.1.fV ∧ y4.1.fV ≤ 255
 rotate_left
 ·have n1 : Hd (¬ (0 ≤ y4.1.fV ∧ y4.1.fV ≤ 255)) := m1
  have m1' : decide (0 ≤ y4.1.fV ∧ y4.1.fV ≤ 255) = false := by simpa using m1
  rw [m1']
  go_wp2_with fail
  refine (must_false 20 x.1.at' _).mono ?_
  rintro e w' ⟨rfl, rfl⟩
  go_wp2_with fail
  refine ⟨rfl, hf, ?_⟩
  have hXk : headX M x = .error (20, x.1.at') := by rw [HX.out]; unfold headOk; rw [if_pos n1.out]; rfl
  simp only [hXk]
 have n1 : Hd (0 ≤ y4.1.fV ∧ y4.1.fV ≤ 255) := m1
 have m1' : decide (0 ≤ y4.1.fV ∧ y4.1.fV ≤ 255) = true := by simpa using m1
 rw [m1']
 go_wp2_with fail
 refine (must_true 20 x.1.at' _).mono ?_
 rintro e w' ⟨rfl, rfl⟩
 go_wp2_with fail
 refine wp_region_still_tail 11 mixed (by kernel_rfl) ?_
 simp only [List.take_succ_cons, List.take_zero, List.drop_succ_cons, List.drop_zero]
 repeat still_step
 generalize hmn : (if y4.1.fV < 8 then y4.1.fV else 8) = mn
 have HMN : Hd ((if y4.1.fV < 8 then y4.1.fV else 8) = mn) := hmn
 clear hmn
 by_cases m2 : 0 ≤ y4.1.fP ∧ y4.1.fP ≤ mn
 rotate_left
 ·have n2' : Hd (¬ (0 ≤ y4.1.fP ∧ y4.1.fP ≤ (if y4.1.fV < 8 then y4.1.fV else 8))) := by unfold Hd; rw [HMN.out]; exact m2
  have m2' : decide (0 ≤ y4.1.fP ∧ y4.1.fP ≤ mn) = false := by simpa using m2
  still_call (within_any _ _ _ _)
  repeat still_step
  refine wpStill_nil ?_
  go_wp2_with fail
  refine (must_false 20 x.1.at' _).mono ?_
  rintro e w' ⟨rfl, rfl⟩
  go_wp2_with fail
  refine ⟨rfl, hf.drew, ?_⟩
  have hXk : headX M x = .error (20, x.1.at') := by rw [HX.out]; unfold headOk; rw [if_neg (Decidable.not_not.2 n1.out), if_pos n2'.out]; rfl
  simp only [hXk]
 have n2 : Hd (0 ≤ y4.1.fP ∧ y4.1.fP ≤ (if y4.1.fV < 8 then y4.1.fV else 8)) := by unfold Hd; rw [HMN.out]; exact m2
 have m2' : decide (0 ≤ y4.1.fP ∧ y4.1.fP ≤ mn) = true := by simpa using m2
 still_call (within_any _ _ _ _)
 repeat still_step
 refine wpStill_nil ?_
 go_wp2_with fail
 refine (must_true 20 x.1.at' _).mono ?_
 rintro e w' ⟨rfl, rfl⟩
 go_wp2_with fail
 refine (within_any _ _ _ _).mono ?_
 rintro e w' ⟨rfl, rfl⟩
 by_cases m3 : 0 ≤ y4.1.fR ∧ y4.1.fR ≤ 4
 rotate_left
 ·have n3 : Hd (¬ (0 ≤ y4.1.fR ∧ y4.1.fR ≤ 4)) := m3
  have m3' : decide (0 ≤ y4.1.fR ∧ y4.1.fR ≤ 4) = false := by simpa using m3
  rw [m3']
  go_wp2_with fail
  refine (must_false 20 x.1.at' _).mono ?_
  rintro e w' ⟨rfl, rfl⟩
  go_wp2_with fail
  refine ⟨rfl, hf.drew, ?_⟩
  have hXk : headX M x = .error (20, x.1.at') := by rw [HX.out]; unfold headOk; rw [if_neg (Decidable.not_not.2 n1.out), if_neg (Decidable.not_not.2 n2.out), if_pos n3.out]; rfl
  simp only [hXk]
 have n3 : Hd (0 ≤ y4.1.fR ∧ y4.1.fR ≤ 4) := m3
 have m3' : decide (0 ≤ y4.1.fR ∧ y4.1.fR ≤ 4) = true := by simpa using m3
 rw [m3']
 go_wp2_with fail
 refine (must_true 20 x.1.at' _).mono ?_
 rintro e w' ⟨rfl, rfl⟩
 by_cases m4 : y4.1.len ≤ 4096
 rotate_left
 ·have n4 : Hd (¬ (y4.1.len ≤ 4096)) := m4
  have m4' : decide (y4.1.len ≤ 4096) = false := by simpa using m4
  go_wp2_with fail
  refine (must_false 20 x.1.at' _).mono ?_
  rintro e w' ⟨rfl, rfl⟩
  go_wp2_with fail
  refine ⟨rfl, hf.drew, ?_⟩
  have hXk : headX M x = .error (20, x.1.at') := by rw [HX.out]; unfold headOk; rw [if_neg (Decidable.not_not.2 n1.out), if_neg (Decidable.not_not.2 n2.out), if_neg (Decidable.not_not.2 n3.out), if_pos (Int.not_le.2 n4.out)]; rfl
  simp only [hXk]
 have n4 : Hd (y4.1.len ≤ 4096) := m4
 have m4' : decide (y4.1.len ≤ 4096) = true := by simpa using m4
 go_wp2_with fail
 refine (must_true 20 x.1.at' _).mono ?_
 rintro e w' ⟨rfl, rfl⟩
 by_cases m5 : 0 < y4.1.len
 rotate_left
 ·have n5 : Hd (¬ (0 < y4.1.len)) := m5
  have m5' : decide (0 < y4.1.len) = false := by simpa using m5
  go_wp2_with fail
  refine (must_false 19 x.1.at' _).mono ?_
  rintro e w' ⟨rfl, rfl⟩
  go_wp2_with fail
  refine ⟨rfl, hf.drew, ?_⟩
  have hXk : headX M x = .error (19, x.1.at') := by rw [HX.out]; unfold headOk; rw [if_neg (Decidable.not_not.2 n1.out), if_neg (Decidable.not_not.2 n2.out), if_neg (Decidable.not_not.2 n3.out), if_neg (Decidable.not_not.2 n4.out), if_pos (Int.not_lt.2 n5.out)]; rfl
  simp only [hXk]
 have n5 : Hd (0 < y4.1.len) := m5
 have m5' : decide (0 < y4.1.len) = true := by simpa using m5
 go_wp2_with fail
 refine (must_true 19 x.1.at' _).mono ?_
 rintro e w' ⟨rfl, rfl⟩
 go_wp2_with fail
 refine (locate_any M y4.1.fV x.1.at' y4 _ hon4.drew).mono ?_
 rintro e w5 ⟨hf5, hres⟩
 have hX5 : Hd (headX M x = locX M y4.1.fV x.1.at' y4) := by
  unfold Hd
  rw [HX.out]; unfold headOk; rw [if_neg (Decidable.not_not.2 n1.out), if_neg (Decidable.not_not.2 n2.out), if_neg (Decidable.not_not.2 n3.out), if_neg (Decidable.not_not.2 n4.out), if_neg (Decidable.not_not.2 n5.out)]; rfl
 cases hx5 : locX M y4.1.fV x.1.at' y4 with
 | error z =>
   simp only [hx5] at hres
   subst hres
   go_wp2_with fail
   refine ⟨rfl, hf.drew.trans hf5, ?_⟩
   simp only [hX5.out, hx5]
 | ok y5 =>
   simp only [hx5] at hres
   obtain ⟨rfl, hon5⟩ := hres
   go_wp2_with fail
   go_end0
   refine ⟨hf.drew.trans hf5, ?_⟩
   simp only [hX5.out, hx5]
   exact ⟨trivial, hon5⟩
theorem list_none {b : Nat} (M : Mode b) (rm : M.σ → Nat) (hN : NextAt M rm) (o n : Nat) (ho : o = 159 ∨ o = 160) (x : WS × M.σ) (w : World) (h : On M w x) (a : Option Addr) (c pk po : Nat) (l : List Int)
 (hsl : x.1.getL o = .slice a l.length c) (hL : l.length = n) (hnil : Hd (l = [])) (hp : 1 ≤ rm x.2) (hn : n ≤ 255) (ha : n ≠ 0 → a = some ⟨pk, po, none⟩ ∧ pk ≠ b ∧ ¬ M.S pk ∧ ¬ M.N pk ∧ pk < w.heap.size) (hI : Ints w pk po l) :
 Calls Tryd.prog 100 #[.pointer (some ⟨b, 0, none⟩), .pointer (some ⟨b, o, none⟩), .int .i64 n] w (EndsK M w pk po (listX M n l x)) := by
 subst hL
 have hcl : w.cell? ⟨b, o, none⟩ = some (.slice a l.length c) := by rw [h.1.cell, cells_getL _ _ ho, hsl]
 have hc161 : w.cell? ⟨b, 161, none⟩ = some (vI x.1.count) := h.1.facts.2.2.2.2.2.2.2.2.2.2.2.2.2.2.2.2.2
 have hz161 := h.1.frozen 161
 have hf0 : Fr (· = b) w (w.setCell ⟨b, 161, none⟩ (vI l.length)) := Fr.setCell (Fr.refl (fun k => k = b) w) _ _ (Or.inl rfl)
 have hl0 : Lies (w.setCell ⟨b, 161, none⟩ (vI l.length)) b { x.1 with count := l.length } := h.1.setCell 161 _ (cells_set _ 161 _ (by simp [places]))
 have hon0 : On M (w.setCell ⟨b, 161, none⟩ (vI l.length)) ({ x.1 with count := l.length }, x.2) := h.fr hf0 hl0 rfl rfl
 have hb := h.1.lt
 go_enter Tryd.func100, Tryd.ntmps100
 go_wp2_with fail
 refine (hN 161 (by simp [places]) ({ x.1 with count := l.length }, x.2) 1 _ hp hon0 (by omega) (by omega)).mono ?_
 rintro e w1 ⟨hf1, hres⟩
 have hfa : Fr M.SB w w1 := (hf0.mono (fun k _ hk => Or.inl hk)).trans hf1
 cases hx1 : nextX M 161 1 ({ x.1 with count := l.length }, x.2) with
 | error z =>
   simp only [hx1] at hres
   subst hres
   go_wp2_with fail
   refine ⟨rfl, hfa.mono (fun _ _ hk => Or.inl hk), ?_⟩
   simp only [listX, hx1]
 | ok y =>
 simp only [hx1] at hres
 obtain ⟨rfl, hon1⟩ := hres
 have hcc : w1.cell? ⟨b, 161, none⟩ = some (vI y.1.count) := hon1.1.facts.2.2.2.2.2.2.2.2.2.2.2.2.2.2.2.2.2
 have hyL : y.1.getL o = .slice a l.length c := by
  obtain ⟨v, st, rfl⟩ := nextX_num hx1
  rcases ho with rfl | rfl <;> exact hsl
 have hcl1 : w1.cell? ⟨b, o, none⟩ = some (.slice a l.length c) := by rw [hon1.1.cell, cells_getL _ _ ho, hyL]
 have HL : Hd (listX M l.length l x = if y.1.count = (l.length : Nat) then varsX M l y else .error (15, x.1.at')) := by
  unfold Hd; simp only [listX, hx1, if_true]
 clear hx1
 by_cases hm : y.1.count = (l.length : Nat)
 rotate_left
 ·have hm' : (y.1.count == ((l.length : Nat) : Int)) = false := by simpa using hm
  have HM : Hd (¬ y.1.count = (l.length : Nat)) := hm
  clear hm
  go_wp2_with fail
  refine (must_false 15 x.1.at' _).mono ?_
  rintro e w' ⟨rfl, rfl⟩
  go_wp2_with fail
  refine ⟨rfl, hfa.mono (fun _ _ hk => Or.inl hk), ?_⟩
  rw [HL.out, if_neg HM.out]
 have hm' : (y.1.count == ((l.length : Nat) : Int)) = true := by simpa using hm
 have HLV : Hd (listX M l.length l x = varsX M l y) := by unfold Hd; rw [HL.out, if_pos hm]
 clear hm HL
 go_wp2_with fail
 refine (must_true 15 x.1.at' _).mono ?_
 rintro e w' ⟨rfl, rfl⟩
 go_wp2_with fail
 have hI1 : Ints w' pk po l := fun i hi => by
  obtain ⟨-, hpkb, hpS, hpN, hplt⟩ := ha (by omega)
  have hSB : ¬ M.SB pk := fun h => h.elim hpkb hpS
  exact ⟨(hfa.cell hplt hSB).trans (hI i hi).1, (hfa.frozen hplt hSB).trans (hI i hi).2⟩
 go_loopw [42] (fun i wr => ∃ (k : Nat) (done : List Int) (z : WS × M.σ), k ≤ l.length ∧ i = .int .i64 k ∧ done.length = k ∧ On M wr z ∧ Hd (z.1 = { y.1 with at' := z.1.at' }) ∧ Fr (fun j => M.SB j ∨ j = pk) w' wr ∧
  Hd (l ≠ [] → wr.heap[pk]? = (w'.setCells pk po (done.map vI)).heap[pk]?) ∧ Hd (varsX M l y = contX done (varsX M (l.drop k) z))) (fun i _ => match i with | .int _ q => l.length - q.toNat | _ => 0)
 case atStart => exact ⟨0, [], y, Nat.zero_le _, rfl, rfl, hon1, rfl, Fr.refl _ _, fun _ => rfl, by unfold Hd; rw [contX_nil]; rfl⟩
 case round =>
  obtain ⟨k, done, z, hk, rfl, hdl, honz, hz1, hfz, hblk, hvx⟩ := hrel
  have hclz : wr.cell? ⟨b, o, none⟩ = some (.slice a l.length c) := by
   rw [honz.1.cell, cells_getL _ _ ho, hz1.out, getL_at, hyL]
  by_cases hlt : k < l.length
  ·exfalso; rw [hnil.out] at hlt; simp at hlt
  ·have hkl : k = l.length := by omega
   subst hkl
   have hvl : Hd (varsX M l y = .ok (done, z)) := by
    unfold Hd; rw [hvx.out, List.drop_length]; simp [varsX, contX]
   clear hvx
   go_wp2_with fail
   go_end0
   refine ⟨(hfa.mono (fun _ _ hk => Or.inl hk)).trans hfz, ?_⟩
   rw [HLV.out, hvl.out]
   exact ⟨rfl, honz, fun hvs => by
    have hne : l ≠ [] := by intro e; apply hvs; rw [e] at hdl; exact List.length_eq_zero_iff.1 hdl
    obtain ⟨-, hpkb, hpS, hpN, hplt⟩ := ha (by intro e; exact hne (List.length_eq_zero_iff.1 e))
    rw [hblk.out hne]
    exact setCells_block pk _ po _ _ (hfa.block pk hplt (fun h => h.elim hpkb hpS))⟩
theorem list_new0 {b : Nat} (M : Mode b) (rm : M.σ → Nat) (hN : NextAt M rm) (o n : Nat) (ho : o = 159 ∨ o = 160) (x : WS × M.σ) (w : World) (h : On M w x) (hsl : x.1.getL o = nilS)
 (hn0 : n = 0) (hp : 1 ≤ rm x.2) :
 Calls Tryd.prog 100 #[.pointer (some ⟨b, 0, none⟩), .pointer (some ⟨b, o, none⟩), .int .i64 n] w (EndsNew M w o (listX M n [] x)) := by
 subst hn0
 refine (list_none M rm hN o 0 ho x w h none 0 b 0 [] (by simpa [nilS] using hsl) rfl rfl hp (by omega) (fun h => absurd rfl h) (fun i hi => by simp at hi)).mono ?_
 rintro e w' ⟨hf, hr⟩
 refine ⟨hf.mono (fun k _ hk => hk.elim id (fun e => Or.inl e)), ?_⟩
 cases hl : listX M 0 [] x with
 | error z => simp only [hl] at hr; exact hr
 | ok q =>
   obtain ⟨vs, y⟩ := q
   simp only [hl] at hr
   obtain ⟨rfl, hon, -⟩ := hr
   have hvs : vs = [] ∧ y.1.getL o = nilS := by
    unfold listX at hl
    split at hl
    ·cases hl
    ·rename_i y' hy
     split at hl
     ·simp only [List.length_nil, if_true, varsX, Except.ok.injEq, Prod.mk.injEq] at hl
      rw [← hl.1, ← hl.2, getL_nextX hy]
      exact ⟨rfl, hsl⟩
     ·cases hl
   refine ⟨rfl, nilS, Or.inl ⟨hvs.1, rfl⟩, ?_⟩
   rw [setL_getL _ _ _ hvs.2]
   exact hon
theorem front_state {b : Nat} {M : Mode b} {nb : Bool} {i : Nat} {p : Int} {y y' : WS × M.σ} (h : frontOk M true false nb i p y = .ok y') : y' = y := by
 unfold frontOk at h
 split at h
 ·cases h
 ·split at h
  ·cases h
  ·simp at h; exact h.symm
theorem instr_15at {b : Nat} (M : Mode b) (rm : M.σ → Nat) (hN : NextAt M rm) (hRm : RoomGoes M rm) (x y : WS × M.σ) (w : World) (h : On M w x) (hp : 2 ≤ rm x.2) (i : Nat) (hi : i ≤ 4096) (hx : nextX M 154 1 x = .ok y) (hk : y.1.op = 15) (hl0 : 0 ≤ y.1.len) (hl1 : y.1.len ≤ 4096) (nb : Bool)
 (hnames : ∀ w1, Lies w1 b y.1 → Calls Tryd.prog 93 #[.pointer (some ⟨b, 122, none⟩), .pointer (some ⟨b, 154, none⟩)] w1 fun e w' => e = .returned (.bool nb) ∧ w' = w1)
 (ha : y.1.args = nilS) (hr : y.1.rets = nilS) (n : Nat) (hR : y.1.fR = n) (hn : n = 0) :
 Calls Tryd.prog 65 #[.pointer (some ⟨b, 0, none⟩), .int .i64 i] w (EndsI M w (retX M n (frontOk M true false nb i x.1.at' y))) := by
 refine askInstr_15at M rm hN x y w h (by omega) i hi hx hk hl0 hl1 nb hnames _ (fun j w1 => match j with | 0 => Stage M w y.1 (frontOk M true false nb i x.1.at' y) w1 | 1 => After M w (retX M n (frontOk M true false nb i x.1.at' y)) w1 | _ => False)
  (fun z w1 hz hf => endsI_error (by simp only [retX, hz, thenX]) hf) ?_ ?_ ?_ ?_ ?_
 ·exact fun y' w1 hy hf hon => ⟨y', hy, hf, hon, frontOk_kept hy⟩
 ·intro j w1 hj
  match j, hj with
  | 0, hj => exact Stage.lies hj
  | 1, hj => exact After.lies hj
 ·intro j w1 hj
  match j, hj with
  | 0, hj => exact Stage.drew hj
  | 1, hj => exact After.drew hj
 ·rintro w1 ⟨y', hy', hf1, hon, hkp⟩
  refine ownResults_any 159 n y'.1 w1 hon.1 (by rw [hkp.fR, hR]) _ ?_
  refine (list_new0 M rm hN 159 n (Or.inl rfl) y' w1 hon (by unfold WS.getL; rw [if_pos rfl, hkp.args, ha]) hn (by rw [front_state hy']; have := hRm _ _ _ _ hx; omega)).mono ?_
  rintro e w2 ⟨hf2, hres⟩
  cases hl : listX M n [] y' with
  | error z =>
    simp only [hl] at hres
    subst hres
    exact ⟨Or.inr ⟨_, rfl⟩, Or.inr ⟨_, rfl, endsI_error (by simp only [retX, hy', thenX, hl]) (hf1.trans hf2)⟩⟩
  | ok q =>
    obtain ⟨vs, y2⟩ := q
    simp only [hl] at hres
    obtain ⟨rfl, av, hnew, hon2⟩ := hres
    have k2 := hkp.trans (listX_kept hl)
    have hy2 : y2.1.setL 159 av = { y2.1 with args := av, rets := nilS } := by
     have : y2.1.rets = nilS := by rw [k2.rets, hr]
     unfold WS.setL; rw [if_pos rfl, ← this]
    refine ⟨Or.inl rfl, Or.inl ⟨rfl, hf1.trans hf2, (vs, []), y2, av, nilS, ?_, hnew.mono hf1.size, Or.inl ⟨rfl, rfl⟩, ?_⟩⟩
    ·simp only [retX, hy', thenX, hl]
    ·rw [← hy2]; exact hon2
 ·exact fun w1 hw1 => After.ends hw1
end Go.Proofs.YtingenonbkencaaDoor
