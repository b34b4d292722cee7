import Derived.Test.YtingenonbkencaaDoorQK2J
import Derived.Test.YtingenonbkencaaDoorQK5a
import Derived.Test.YtingenonbkencaaDoorQK5b
import Derived.Test.YtingenonbkencaaDoorQK5c
import Derived.Test.YtingenonbkencaaDoorQK5d
import Derived.Test.YtingenonbkencaaDoorQK5e
import Derived.Test.YtingenonbkencaaDoorQK5f
namespace Go.Proofs.YtingenonbkencaaDoor
open Go.RowKit (wrap32 wrap64)
set_option linter.unusedVariables false
set_option linter.unusedSimpArgs false

def varB (V v : Int) : Bool := decide (0 ≤ v) && decide (v < V)

set_option maxRecDepth 100000 in
set_option maxHeartbeats 1000000 in
theorem rvariable (rb : Nat) (G : Int) (fv : Value) (w : World) (L E : Int) (h : RW rb G fv w L E) (P R V : Int) (a : Option Addr) (l c : Nat) (v : Int) :
    Calls Tryd.prog 77 #[.pointer (some ⟨rb, 0, none⟩), .agg #[vI P, vI R, vI V, .slice a l c], vI v] w fun r w' => r = .returned (.tuple #[]) ∧ RW rb G fv w' L (mustE (varB V v) 13 E) ∧ Fr (fun k => k = rb) w w' := by
  have hf0 : Fr (fun k => k = rb) w (w.alloc (.cells #[vI P, vI R, vI V, .slice a l c] 67)) := Fr.alloc (Fr.refl _ _) _
  have h0 : RW rb G fv (w.alloc (.cells #[vI P, vI R, vI V, .slice a l c] 67)) L E := h.fr (Fr.alloc (Fr.refl (fun _ => False) w) _) (fun h => h)
  have hm := rmust rb G fv _ L E h0 (varB V v) 13
  by_cases h1 : 0 ≤ v
  · by_cases h2 : v < V
    · have hv : varB V v = true := by unfold varB; simp [h1, h2]
      have HV : Hd (varB V v = true) := hv
      rw [hv] at hm
      clear hv h h0
      go_enter Tryd.func77, Tryd.ntmps77
      go_wp2_with fail
      refine hm.mono ?_
      rintro e w1 ⟨rfl, hr, hf⟩
      clear hm
      go_wp2_with fail
      go_end0
      exact ⟨rfl, by rw [HV.out]; exact hr, hf0.trans hf⟩
    · have hv : varB V v = false := by unfold varB; simp [h2]
      have HV : Hd (varB V v = false) := hv
      rw [hv] at hm
      clear hv h h0
      go_enter Tryd.func77, Tryd.ntmps77
      go_wp2_with fail
      refine hm.mono ?_
      rintro e w1 ⟨rfl, hr, hf⟩
      clear hm
      go_wp2_with fail
      go_end0
      exact ⟨rfl, by rw [HV.out]; exact hr, hf0.trans hf⟩
  · have hv : varB V v = false := by unfold varB; simp [h1]
    have HV : Hd (varB V v = false) := hv
    rw [hv] at hm
    clear hv h h0
    go_enter Tryd.func77, Tryd.ntmps77
    go_wp2_with fail
    refine hm.mono ?_
    rintro e w1 ⟨rfl, hr, hf⟩
    clear hm
    go_wp2_with fail
    go_end0
    exact ⟨rfl, by rw [HV.out]; exact hr, hf0.trans hf⟩

end Go.Proofs.YtingenonbkencaaDoor

namespace Go.Proofs.YtingenonbkencaaDoor
open Go.RowKit (wrap32 wrap64)
set_option linter.unusedVariables false
set_option linter.unusedSimpArgs false

def numB (lo hi v : Int) : Bool := decide (lo ≤ v) && decide (v < hi)

set_option maxRecDepth 100000 in
set_option maxHeartbeats 1000000 in
theorem rnumber_c (rb : Nat) (G : Int) (fa : Option Addr) (nf fc : Nat) (w : World) (L E : Int) (h : RW rb G (.slice fa nf fc) w L E) (v n : Int) :
    Calls Tryd.prog 79 #[.pointer (some ⟨rb, 0, none⟩), .int .u8 99, vI v, vI n] w fun r w' => r = .returned (.tuple #[]) ∧ RW rb G (.slice fa nf fc) w' L (mustE (numB 1 9 v) 17 E) ∧ Fr (fun k => k = rb) w w' := by
  obtain ⟨c0, c1, -, -, hz, hlt⟩ := h.cells
  have hm := rmust rb G (.slice fa nf fc) w L E h (numB 1 9 v) 17
  obtain ⟨B, hB⟩ : ∃ B, numB 1 9 v = B := ⟨_, rfl⟩
  have HV : Hd (numB 1 9 v = B) := hB
  rw [hB] at hm
  unfold numB at hB
  clear h
  by_cases h1 : 1 ≤ v
  · by_cases h2 : v ≤ 8
    · have hb : B = true := by rw [← hB]; simp; omega
      subst hb
      clear hB
      go_enter Tryd.func79, Tryd.ntmps79
      go_wp2_with fail
      refine hm.mono ?_
      rintro e w1 ⟨rfl, hr, hf⟩
      clear hm c0 c1
      go_wp2_with fail
      go_end0
      exact ⟨rfl, by rw [HV.out]; exact hr, hf⟩
    · have hb : B = false := by rw [← hB]; simp; omega
      subst hb
      clear hB
      go_enter Tryd.func79, Tryd.ntmps79
      go_wp2_with fail
      refine hm.mono ?_
      rintro e w1 ⟨rfl, hr, hf⟩
      clear hm c0 c1
      go_wp2_with fail
      go_end0
      exact ⟨rfl, by rw [HV.out]; exact hr, hf⟩
  · have hb : B = false := by rw [← hB]; simp; omega
    subst hb
    clear hB
    go_enter Tryd.func79, Tryd.ntmps79
    go_wp2_with fail
    refine hm.mono ?_
    rintro e w1 ⟨rfl, hr, hf⟩
    clear hm c0 c1
    go_wp2_with fail
    go_end0
    exact ⟨rfl, by rw [HV.out]; exact hr, hf⟩

set_option maxRecDepth 100000 in
set_option maxHeartbeats 1000000 in
theorem rnumber_f (rb : Nat) (G : Int) (fa : Option Addr) (nf fc : Nat) (w : World) (L E : Int) (h : RW rb G (.slice fa nf fc) w L E) (v n : Int) :
    Calls Tryd.prog 79 #[.pointer (some ⟨rb, 0, none⟩), .int .u8 102, vI v, vI n] w fun r w' => r = .returned (.tuple #[]) ∧ RW rb G (.slice fa nf fc) w' L (mustE (numB 0 8 v) 17 E) ∧ Fr (fun k => k = rb) w w' := by
  obtain ⟨c0, c1, -, -, hz, hlt⟩ := h.cells
  have hm := rmust rb G (.slice fa nf fc) w L E h (numB 0 8 v) 17
  obtain ⟨B, hB⟩ : ∃ B, numB 0 8 v = B := ⟨_, rfl⟩
  have HV : Hd (numB 0 8 v = B) := hB
  rw [hB] at hm
  unfold numB at hB
  clear h
  by_cases h1 : 0 ≤ v
  · by_cases h2 : v < 8
    · have hb : B = true := by rw [← hB]; simp; omega
      subst hb
      clear hB
      go_enter Tryd.func79, Tryd.ntmps79
      go_wp2_with fail
      refine hm.mono ?_
      rintro e w1 ⟨rfl, hr, hf⟩
      clear hm c0 c1
      go_wp2_with fail
      go_end0
      exact ⟨rfl, by rw [HV.out]; exact hr, hf⟩
    · have hb : B = false := by rw [← hB]; simp; omega
      subst hb
      clear hB
      go_enter Tryd.func79, Tryd.ntmps79
      go_wp2_with fail
      refine hm.mono ?_
      rintro e w1 ⟨rfl, hr, hf⟩
      clear hm c0 c1
      go_wp2_with fail
      go_end0
      exact ⟨rfl, by rw [HV.out]; exact hr, hf⟩
  · have hb : B = false := by rw [← hB]; simp; omega
    subst hb
    clear hB
    go_enter Tryd.func79, Tryd.ntmps79
    go_wp2_with fail
    refine hm.mono ?_
    rintro e w1 ⟨rfl, hr, hf⟩
    clear hm c0 c1
    go_wp2_with fail
    go_end0
    exact ⟨rfl, by rw [HV.out]; exact hr, hf⟩

set_option maxRecDepth 100000 in
set_option maxHeartbeats 1000000 in
theorem rnumber_g (rb : Nat) (G : Int) (fa : Option Addr) (nf fc : Nat) (w : World) (L E : Int) (h : RW rb G (.slice fa nf fc) w L E) (v n : Int) :
    Calls Tryd.prog 79 #[.pointer (some ⟨rb, 0, none⟩), .int .u8 103, vI v, vI n] w fun r w' => r = .returned (.tuple #[]) ∧ RW rb G (.slice fa nf fc) w' L (mustE (numB 0 G v) 18 E) ∧ Fr (fun k => k = rb) w w' := by
  obtain ⟨c0, c1, -, -, hz, hlt⟩ := h.cells
  have hm := rmust rb G (.slice fa nf fc) w L E h (numB 0 G v) 18
  obtain ⟨B, hB⟩ : ∃ B, numB 0 G v = B := ⟨_, rfl⟩
  have HV : Hd (numB 0 G v = B) := hB
  rw [hB] at hm
  unfold numB at hB
  clear h
  by_cases h1 : 0 ≤ v
  · by_cases h2 : v < G
    · have hb : B = true := by rw [← hB]; simp; omega
      subst hb
      clear hB
      go_enter Tryd.func79, Tryd.ntmps79
      go_wp2_with fail
      refine hm.mono ?_
      rintro e w1 ⟨rfl, hr, hf⟩
      clear hm c0 c1
      go_wp2_with fail
      go_end0
      exact ⟨rfl, by rw [HV.out]; exact hr, hf⟩
    · have hb : B = false := by rw [← hB]; simp; omega
      subst hb
      clear hB
      go_enter Tryd.func79, Tryd.ntmps79
      go_wp2_with fail
      refine hm.mono ?_
      rintro e w1 ⟨rfl, hr, hf⟩
      clear hm c0 c1
      go_wp2_with fail
      go_end0
      exact ⟨rfl, by rw [HV.out]; exact hr, hf⟩
  · have hb : B = false := by rw [← hB]; simp; omega
    subst hb
    clear hB
    go_enter Tryd.func79, Tryd.ntmps79
    go_wp2_with fail
    refine hm.mono ?_
    rintro e w1 ⟨rfl, hr, hf⟩
    clear hm c0 c1
    go_wp2_with fail
    go_end0
    exact ⟨rfl, by rw [HV.out]; exact hr, hf⟩

set_option maxRecDepth 100000 in
set_option maxHeartbeats 1000000 in
theorem rnumber_F (rb : Nat) (G : Int) (fa : Option Addr) (nf fc : Nat) (w : World) (L E : Int) (h : RW rb G (.slice fa nf fc) w L E) (v n : Int) :
    Calls Tryd.prog 79 #[.pointer (some ⟨rb, 0, none⟩), .int .u8 70, vI v, vI n] w fun r w' => r = .returned (.tuple #[]) ∧ RW rb G (.slice fa nf fc) w' L (mustE (numB 0 nf v) 14 E) ∧ Fr (fun k => k = rb) w w' := by
  obtain ⟨c0, c1, -, -, hz, hlt⟩ := h.cells
  have hm := rmust rb G (.slice fa nf fc) w L E h (numB 0 nf v) 14
  obtain ⟨B, hB⟩ : ∃ B, numB 0 nf v = B := ⟨_, rfl⟩
  have HV : Hd (numB 0 nf v = B) := hB
  rw [hB] at hm
  unfold numB at hB
  clear h
  by_cases h1 : 0 ≤ v
  · by_cases h2 : v < nf
    · have hb : B = true := by rw [← hB]; simp; omega
      subst hb
      clear hB
      go_enter Tryd.func79, Tryd.ntmps79
      go_wp2_with fail
      refine hm.mono ?_
      rintro e w1 ⟨rfl, hr, hf⟩
      clear hm c0 c1
      go_wp2_with fail
      go_end0
      exact ⟨rfl, by rw [HV.out]; exact hr, hf⟩
    · have hb : B = false := by rw [← hB]; simp; omega
      subst hb
      clear hB
      go_enter Tryd.func79, Tryd.ntmps79
      go_wp2_with fail
      refine hm.mono ?_
      rintro e w1 ⟨rfl, hr, hf⟩
      clear hm c0 c1
      go_wp2_with fail
      go_end0
      exact ⟨rfl, by rw [HV.out]; exact hr, hf⟩
  · have hb : B = false := by rw [← hB]; simp; omega
    subst hb
    clear hB
    go_enter Tryd.func79, Tryd.ntmps79
    go_wp2_with fail
    refine hm.mono ?_
    rintro e w1 ⟨rfl, hr, hf⟩
    clear hm c0 c1
    go_wp2_with fail
    go_end0
    exact ⟨rfl, by rw [HV.out]; exact hr, hf⟩

set_option maxRecDepth 100000 in
set_option maxHeartbeats 1000000 in
theorem rnumber_J (rb : Nat) (G : Int) (fa : Option Addr) (nf fc : Nat) (w : World) (L E : Int) (h : RW rb G (.slice fa nf fc) w L E) (v n : Int) :
    Calls Tryd.prog 79 #[.pointer (some ⟨rb, 0, none⟩), .int .u8 74, vI v, vI n] w fun r w' => r = .returned (.tuple #[]) ∧ RW rb G (.slice fa nf fc) w' L (mustE (numB 0 n v) 16 E) ∧ Fr (fun k => k = rb) w w' := by
  obtain ⟨c0, c1, -, -, hz, hlt⟩ := h.cells
  have hm := rmust rb G (.slice fa nf fc) w L E h (numB 0 n v) 16
  obtain ⟨B, hB⟩ : ∃ B, numB 0 n v = B := ⟨_, rfl⟩
  have HV : Hd (numB 0 n v = B) := hB
  rw [hB] at hm
  unfold numB at hB
  clear h
  by_cases h1 : 0 ≤ v
  · by_cases h2 : v < n
    · have hb : B = true := by rw [← hB]; simp; omega
      subst hb
      clear hB
      go_enter Tryd.func79, Tryd.ntmps79
      go_wp2_with fail
      refine hm.mono ?_
      rintro e w1 ⟨rfl, hr, hf⟩
      clear hm c0 c1
      go_wp2_with fail
      go_end0
      exact ⟨rfl, by rw [HV.out]; exact hr, hf⟩
    · have hb : B = false := by rw [← hB]; simp; omega
      subst hb
      clear hB
      go_enter Tryd.func79, Tryd.ntmps79
      go_wp2_with fail
      refine hm.mono ?_
      rintro e w1 ⟨rfl, hr, hf⟩
      clear hm c0 c1
      go_wp2_with fail
      go_end0
      exact ⟨rfl, by rw [HV.out]; exact hr, hf⟩
  · have hb : B = false := by rw [← hB]; simp; omega
    subst hb
    clear hB
    go_enter Tryd.func79, Tryd.ntmps79
    go_wp2_with fail
    refine hm.mono ?_
    rintro e w1 ⟨rfl, hr, hf⟩
    clear hm c0 c1
    go_wp2_with fail
    go_end0
    exact ⟨rfl, by rw [HV.out]; exact hr, hf⟩

set_option maxRecDepth 100000 in
set_option maxHeartbeats 1000000 in
theorem rnumber_i (rb : Nat) (G : Int) (fv : Value) (w : World) (L E : Int) (h : RW rb G fv w L E) (v n : Int) :
    Calls Tryd.prog 79 #[.pointer (some ⟨rb, 0, none⟩), .int .u8 105, vI v, vI n] w fun r w' => r = .returned (.tuple #[]) ∧ RW rb G fv w' L E ∧ Fr (fun k => k = rb) w w' := by
  have HH : Hd (RW rb G fv w L E) := h
  clear h
  go_enter Tryd.func79, Tryd.ntmps79
  go_wp2_with fail
  go_end0
  exact ⟨rfl, HH.out, Fr.refl _ _⟩

end Go.Proofs.YtingenonbkencaaDoor

namespace Go.Proofs.YtingenonbkencaaDoor
open Go.RowKit (wrap32 wrap64)
set_option linter.unusedVariables false
set_option linter.unusedSimpArgs false

/-- Are all fields that the operation does not name zero? -/
def plainB (op zr zs zt zn : Int) (la lr : Nat) : Bool := (tested (namesB op)).all fun p => (zzOf (zeros6 zr zs zt zn la lr) p.1 == 0) || p.2

theorem rplain (w : World) (op zr zs zt zn : Int) (aa ra : Option Addr) (la ca lr cr : Nat) :
    Calls Tryd.prog 96 #[.agg #[vI op, vI zr, vI zs, vI zt, vI zn, .slice aa la ca, .slice ra lr cr]] w fun e w' => e = .returned (.bool (plainB op zr zs zt zn la lr)) ∧ Fr (fun _ => False) w w' := by
  by_cases h : 1 ≤ op ∧ op ≤ 17
  · rcases (show op = 1 ∨ op = 2 ∨ op = 3 ∨ op = 4 ∨ op = 5 ∨ op = 6 ∨ op = 7 ∨ op = 8 ∨ op = 9 ∨ op = 10 ∨ op = 11 ∨ op = 12 ∨ op = 13 ∨ op = 14 ∨ op = 15 ∨ op = 16 ∨ op = 17 by omega) with rfl | rfl | rfl | rfl | rfl | rfl | rfl | rfl | rfl | rfl | rfl | rfl | rfl | rfl | rfl | rfl | rfl
    · exact plain_1 w 1 zr zs zt zn aa ra la ca lr cr (fun _ => rfl)
    · exact plain_2 w 2 zr zs zt zn aa ra la ca lr cr (fun _ => rfl)
    · exact plain_3 w 3 zr zs zt zn aa ra la ca lr cr (fun _ => rfl)
    · exact plain_4 w 4 zr zs zt zn aa ra la ca lr cr (fun _ => rfl)
    · exact plain_5 w 5 zr zs zt zn aa ra la ca lr cr (fun _ => rfl)
    · exact plain_6 w 6 zr zs zt zn aa ra la ca lr cr (fun _ => rfl)
    · exact plain_7 w 7 zr zs zt zn aa ra la ca lr cr (fun _ => rfl)
    · exact plain_8 w 8 zr zs zt zn aa ra la ca lr cr (fun _ => rfl)
    · exact plain_9 w 9 zr zs zt zn aa ra la ca lr cr (fun _ => rfl)
    · exact plain_10 w 10 zr zs zt zn aa ra la ca lr cr (fun _ => rfl)
    · exact plain_11 w 11 zr zs zt zn aa ra la ca lr cr (fun _ => rfl)
    · exact plain_12 w 12 zr zs zt zn aa ra la ca lr cr (fun _ => rfl)
    · exact plain_13 w 13 zr zs zt zn aa ra la ca lr cr (fun _ => rfl)
    · exact plain_14 w 14 zr zs zt zn aa ra la ca lr cr (fun _ => rfl)
    · exact plain_15 w 15 zr zs zt zn aa ra la ca lr cr (fun _ => rfl)
    · exact plain_16 w 16 zr zs zt zn aa ra la ca lr cr (fun _ => rfl)
    · exact plain_17 w 17 zr zs zt zn aa ra la ca lr cr (fun _ => rfl)
  · have hn : ∀ c, namesB op c = false := fun c => by
      have e := partsB_out op h
      have e2 : partsN op.toNat = #[] := congrArg ByteArray.data e
      unfold namesB
      rw [e2]
      rfl
    have hf : namesB op = fun _ => false := funext hn
    unfold plainB
    rw [hf]
    exact plain_no w op zr zs zt zn aa ra la ca lr cr hn

/-- Is it the same as what the program asks? -/
theorem plainB_nbK (k : Nat) (h : 1 ≤ k ∧ k ≤ 17) (s : WS) (la lr : Nat) : plainB k s.r s.s s.t s.n la lr = nbK k s la lr := by
  have hz : ∀ (nmf : UInt8 → Bool), ((tested nmf).all fun p => (zzOf (zeros6 s.r s.s s.t s.n la lr) p.1 == 0) || p.2) = (((s.r == 0) || nmf 82) && (((s.s == 0) || nmf 83) && (((s.t == 0) || nmf 84) && (((s.n == 0) || (nmf 105 || nmf 99 || nmf 102 || nmf 103 || nmf 70 || nmf 74)) && ((((la : Int) == 0) || (nmf 65 || nmf 86)) && ((((lr : Int) == 0) || nmf 66) && true)))))) := fun nmf => rfl
  unfold plainB
  rw [hz]
  rcases (show k = 1 ∨ k = 2 ∨ k = 3 ∨ k = 4 ∨ k = 5 ∨ k = 6 ∨ k = 7 ∨ k = 8 ∨ k = 9 ∨ k = 10 ∨ k = 11 ∨ k = 12 ∨ k = 13 ∨ k = 14 ∨ k = 15 ∨ k = 16 ∨ k = 17 by omega) with rfl | rfl | rfl | rfl | rfl | rfl | rfl | rfl | rfl | rfl | rfl | rfl | rfl | rfl | rfl | rfl | rfl
  all_goals
    simp only [namesB, Int.toNat_natCast, partsN, nbK]
    cases (s.r == 0) <;> cases (s.s == 0) <;> cases (s.t == 0) <;> cases (s.n == 0) <;> cases ((la : Int) == 0) <;> cases ((lr : Int) == 0) <;> rfl

end Go.Proofs.YtingenonbkencaaDoor
