import Derived.Test.YtingenonbkencabDoorQK2J
set_option linter.unusedVariables false
set_option linter.unusedSimpArgs false
namespace Go.Proofs.YtingenonbkencabDoor
open Go.RowKit (wrap32 wrap64)
set_option maxRecDepth 100000
set_option maxHeartbeats 1000000
def numB (lo hi v : Int) : Bool := decide (lo ≤ v) && decide (v < hi)
theorem rnumber_c (rb : Nat) (G : Int) (fa : Option Addr) (nf fc : Nat) (w : World) (L E : Int) (h : RW rb G (.slice fa nf fc) w L E) (v n : Int) :
 Calls Tryd.prog 71 #[.pointer (some ⟨rb, 0, none⟩), .int .u8 99, vI v, vI n] w fun r w' => r = .returned (.tuple #[]) ∧ RW rb G (.slice fa nf fc) w' L (mustE (numB 1 9 v) 17 E) ∧ Fr (fun k => k = rb) w w' := by
 obtain ⟨c0, c1, -, -, hz, hlt⟩ := h.cells
 have hm := rmust rb G (.slice fa nf fc) w L E h (numB 1 9 v) 17
 obtain ⟨B, hB⟩ : ∃ B, numB 1 9 v = B := ⟨_, rfl⟩
 have HV : Hd (numB 1 9 v = B) := hB
 rw [hB] at hm
 unfold numB at hB
 clear h
 by_cases h1 : 1 ≤ v
 ·by_cases h2 : v ≤ 8
  ·have hb : B = true := by rw [← hB]; simp; omega
   subst hb
   clear hB
   go_enter Tryd.func71, Tryd.ntmps71
   go_wp2_with fail
   refine hm.mono ?_
   rintro e w1 ⟨rfl, hr, hf⟩
   clear hm c0 c1
   go_wp2_with fail
   go_end0
   exact ⟨rfl, by rw [HV.out]; exact hr, hf⟩
  ·have hb : B = false := by rw [← hB]; simp; omega
   subst hb
   clear hB
   go_enter Tryd.func71, Tryd.ntmps71
   go_wp2_with fail
   refine hm.mono ?_
   rintro e w1 ⟨rfl, hr, hf⟩
   clear hm c0 c1
   go_wp2_with fail
   go_end0
   exact ⟨rfl, by rw [HV.out]; exact hr, hf⟩
 ·have hb : B = false := by rw [← hB]; simp; omega
  subst hb
  clear hB
  go_enter Tryd.func71, Tryd.ntmps71
  go_wp2_with fail
  refine hm.mono ?_
  rintro e w1 ⟨rfl, hr, hf⟩
  clear hm c0 c1
  go_wp2_with fail
  go_end0
  exact ⟨rfl, by rw [HV.out]; exact hr, hf⟩
theorem rnumber_f (rb : Nat) (G : Int) (fa : Option Addr) (nf fc : Nat) (w : World) (L E : Int) (h : RW rb G (.slice fa nf fc) w L E) (v n : Int) :
 Calls Tryd.prog 71 #[.pointer (some ⟨rb, 0, none⟩), .int .u8 102, vI v, vI n] w fun r w' => r = .returned (.tuple #[]) ∧ RW rb G (.slice fa nf fc) w' L (mustE (numB 0 8 v) 17 E) ∧ Fr (fun k => k = rb) w w' := by
 obtain ⟨c0, c1, -, -, hz, hlt⟩ := h.cells
 have hm := rmust rb G (.slice fa nf fc) w L E h (numB 0 8 v) 17
 obtain ⟨B, hB⟩ : ∃ B, numB 0 8 v = B := ⟨_, rfl⟩
 have HV : Hd (numB 0 8 v = B) := hB
 rw [hB] at hm
 unfold numB at hB
 clear h
 by_cases h1 : 0 ≤ v
 ·by_cases h2 : v < 8
  ·have hb : B = true := by rw [← hB]; simp; omega
   subst hb
   clear hB
   go_enter Tryd.func71, Tryd.ntmps71
   go_wp2_with fail
   refine hm.mono ?_
   rintro e w1 ⟨rfl, hr, hf⟩
   clear hm c0 c1
   go_wp2_with fail
   go_end0
   exact ⟨rfl, by rw [HV.out]; exact hr, hf⟩
  ·have hb : B = false := by rw [← hB]; simp; omega
   subst hb
   clear hB
   go_enter Tryd.func71, Tryd.ntmps71
   go_wp2_with fail
   refine hm.mono ?_
   rintro e w1 ⟨rfl, hr, hf⟩
   clear hm c0 c1
   go_wp2_with fail
   go_end0
   exact ⟨rfl, by rw [HV.out]; exact hr, hf⟩
 ·have hb : B = false := by rw [← hB]; simp; omega
  subst hb
  clear hB
  go_enter Tryd.func71, Tryd.ntmps71
  go_wp2_with fail
  refine hm.mono ?_
  rintro e w1 ⟨rfl, hr, hf⟩
  clear hm c0 c1
  go_wp2_with fail
  go_end0
  exact ⟨rfl, by rw [HV.out]; exact hr, hf⟩
theorem rnumber_g (rb : Nat) (G : Int) (fa : Option Addr) (nf fc : Nat) (w : World) (L E : Int) (h : RW rb G (.slice fa nf fc) w L E) (v n : Int) :
 Calls Tryd.prog 71 #[.pointer (some ⟨rb, 0, none⟩), .int .u8 103, vI v, vI n] w fun r w' => r = .returned (.tuple #[]) ∧ RW rb G (.slice fa nf fc) w' L (mustE (numB 0 G v) 18 E) ∧ Fr (fun k => k = rb) w w' := by
 obtain ⟨c0, c1, -, -, hz, hlt⟩ := h.cells
 have hm := rmust rb G (.slice fa nf fc) w L E h (numB 0 G v) 18
 obtain ⟨B, hB⟩ : ∃ B, numB 0 G v = B := ⟨_, rfl⟩
 have HV : Hd (numB 0 G v = B) := hB
 rw [hB] at hm
 unfold numB at hB
 clear h
 by_cases h1 : 0 ≤ v
 ·by_cases h2 : v < G
  ·have hb : B = true := by rw [← hB]; simp; omega
   subst hb
   clear hB
   go_enter Tryd.func71, Tryd.ntmps71
   go_wp2_with fail
   refine hm.mono ?_
   rintro e w1 ⟨rfl, hr, hf⟩
   clear hm c0 c1
   go_wp2_with fail
   go_end0
   exact ⟨rfl, by rw [HV.out]; exact hr, hf⟩
  ·have hb : B = false := by rw [← hB]; simp; omega
   subst hb
   clear hB
   go_enter Tryd.func71, Tryd.ntmps71
   go_wp2_with fail
   refine hm.mono ?_
   rintro e w1 ⟨rfl, hr, hf⟩
   clear hm c0 c1
   go_wp2_with fail
   go_end0
   exact ⟨rfl, by rw [HV.out]; exact hr, hf⟩
 ·have hb : B = false := by rw [← hB]; simp; omega
  subst hb
  clear hB
  go_enter Tryd.func71, Tryd.ntmps71
  go_wp2_with fail
  refine hm.mono ?_
  rintro e w1 ⟨rfl, hr, hf⟩
  clear hm c0 c1
  go_wp2_with fail
  go_end0
  exact ⟨rfl, by rw [HV.out]; exact hr, hf⟩
theorem rnumber_F (rb : Nat) (G : Int) (fa : Option Addr) (nf fc : Nat) (w : World) (L E : Int) (h : RW rb G (.slice fa nf fc) w L E) (v n : Int) :
 Calls Tryd.prog 71 #[.pointer (some ⟨rb, 0, none⟩), .int .u8 70, vI v, vI n] w fun r w' => r = .returned (.tuple #[]) ∧ RW rb G (.slice fa nf fc) w' L (mustE (numB 0 nf v) 14 E) ∧ Fr (fun k => k = rb) w w' := by
 obtain ⟨c0, c1, -, -, hz, hlt⟩ := h.cells
 have hm := rmust rb G (.slice fa nf fc) w L E h (numB 0 nf v) 14
 obtain ⟨B, hB⟩ : ∃ B, numB 0 nf v = B := ⟨_, rfl⟩
 have HV : Hd (numB 0 nf v = B) := hB
 rw [hB] at hm
 unfold numB at hB
 clear h
 by_cases h1 : 0 ≤ v
 ·by_cases h2 : v < nf
  ·have hb : B = true := by rw [← hB]; simp; omega
   subst hb
   clear hB
   go_enter Tryd.func71, Tryd.ntmps71
   go_wp2_with fail
   refine hm.mono ?_
   rintro e w1 ⟨rfl, hr, hf⟩
   clear hm c0 c1
   go_wp2_with fail
   go_end0
   exact ⟨rfl, by rw [HV.out]; exact hr, hf⟩
  ·have hb : B = false := by rw [← hB]; simp; omega
   subst hb
   clear hB
   go_enter Tryd.func71, Tryd.ntmps71
   go_wp2_with fail
   refine hm.mono ?_
   rintro e w1 ⟨rfl, hr, hf⟩
   clear hm c0 c1
   go_wp2_with fail
   go_end0
   exact ⟨rfl, by rw [HV.out]; exact hr, hf⟩
 ·have hb : B = false := by rw [← hB]; simp; omega
  subst hb
  clear hB
  go_enter Tryd.func71, Tryd.ntmps71
  go_wp2_with fail
  refine hm.mono ?_
  rintro e w1 ⟨rfl, hr, hf⟩
  clear hm c0 c1
  go_wp2_with fail
  go_end0
  exact ⟨rfl, by rw [HV.out]; exact hr, hf⟩
theorem rnumber_J (rb : Nat) (G : Int) (fa : Option Addr) (nf fc : Nat) (w : World) (L E : Int) (h : RW rb G (.slice fa nf fc) w L E) (v n : Int) :
 Calls Tryd.prog 71 #[.pointer (some ⟨rb, 0, none⟩), .int .u8 74, vI v, vI n] w fun r w' => r = .returned (.tuple #[]) ∧ RW rb G (.slice fa nf fc) w' L (mustE (numB 0 n v) 16 E) ∧ Fr (fun k => k = rb) w w' := by
 obtain ⟨c0, c1, -, -, hz, hlt⟩ := h.cells
 have hm := rmust rb G (.slice fa nf fc) w L E h (numB 0 n v) 16
 obtain ⟨B, hB⟩ : ∃ B, numB 0 n v = B := ⟨_, rfl⟩
 have HV : Hd (numB 0 n v = B) := hB
 rw [hB] at hm
 unfold numB at hB
 clear h
 by_cases h1 : 0 ≤ v
 ·by_cases h2 : v < n
  ·have hb : B = true := by rw [← hB]; simp; omega
   subst hb
   clear hB
   go_enter Tryd.func71, Tryd.ntmps71
   go_wp2_with fail
   refine hm.mono ?_
   rintro e w1 ⟨rfl, hr, hf⟩
   clear hm c0 c1
   go_wp2_with fail
   go_end0
   exact ⟨rfl, by rw [HV.out]; exact hr, hf⟩
  ·have hb : B = false := by rw [← hB]; simp; omega
   subst hb
   clear hB
   go_enter Tryd.func71, Tryd.ntmps71
   go_wp2_with fail
   refine hm.mono ?_
   rintro e w1 ⟨rfl, hr, hf⟩
   clear hm c0 c1
   go_wp2_with fail
   go_end0
   exact ⟨rfl, by rw [HV.out]; exact hr, hf⟩
 ·have hb : B = false := by rw [← hB]; simp; omega
  subst hb
  clear hB
  go_enter Tryd.func71, Tryd.ntmps71
  go_wp2_with fail
  refine hm.mono ?_
  rintro e w1 ⟨rfl, hr, hf⟩
  clear hm c0 c1
  go_wp2_with fail
  go_end0
  exact ⟨rfl, by rw [HV.out]; exact hr, hf⟩
theorem rnumber_i (rb : Nat) (G : Int) (fv : Value) (w : World) (L E : Int) (h : RW rb G fv w L E) (v n : Int) :
 Calls Tryd.prog 71 #[.pointer (some ⟨rb, 0, none⟩), .int .u8 105, vI v, vI n] w fun r w' => r = .returned (.tuple #[]) ∧ RW rb G fv w' L E ∧ Fr (fun k => k = rb) w w' := by
 have HH : Hd (RW rb G fv w L E) := h
 clear h
 go_enter Tryd.func71, Tryd.ntmps71
 go_wp2_with fail
 go_end0
 exact ⟨rfl, HH.out, Fr.refl _ _⟩
end Go.Proofs.YtingenonbkencabDoor
