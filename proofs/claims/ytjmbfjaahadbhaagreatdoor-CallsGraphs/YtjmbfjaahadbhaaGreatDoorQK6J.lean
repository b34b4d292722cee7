import Derived.Test.YtjmbfjaahadbhaaGreatDoorQK2J
import Derived.Test.YtjmbfjaahadbhaaGreatDoorQK5a
import Derived.Test.YtjmbfjaahadbhaaGreatDoorQK5b
import Derived.Test.YtjmbfjaahadbhaaGreatDoorQK5c
set_option linter.unusedVariables false
set_option linter.unusedSimpArgs false
namespace Go.Proofs.YtjmbfjaahadbhaaGreatDoor
open Go.RowKit (wrap32 wrap64)

def varB (V v : Int) : Bool := decide (0 ≤ v) && decide (v < V)

set_option maxRecDepth 100000 in
set_option maxHeartbeats 1000000 in
theorem rvariable (rb : Nat) (G : Int) (fv : Value) (w : World) (L E : Int) (h : RW rb G fv w L E) (P R V : Int) (a : Option Addr) (l c : Nat) (v : Int) :
    Calls Tryz.prog 72 #[.pointer (some ⟨rb, 0, none⟩), .agg #[vI P, vI R, vI V, .slice a l c], vI v] w fun r w' => r = .returned (.tuple #[]) ∧ RW rb G fv w' L (mustE (varB V v) 13 E) ∧ Fr (fun k => k = rb) w w' := by
  have hf0 : Fr (fun k => k = rb) w (w.alloc (.cells #[vI P, vI R, vI V, .slice a l c] 41)) := Fr.alloc (Fr.refl _ _) _
  have h0 : RW rb G fv (w.alloc (.cells #[vI P, vI R, vI V, .slice a l c] 41)) L E := h.fr (Fr.alloc (Fr.refl (fun _ => False) w) _) (fun h => h)
  have hm := rmust rb G fv _ L E h0 (varB V v) 13
  by_cases h1 : 0 ≤ v
  · by_cases h2 : v < V
    · have hv : varB V v = true := by unfold varB; simp [h1, h2]
      have HV : Hd (varB V v = true) := hv
      rw [hv] at hm
      clear hv h h0
      go_enter Tryz.func72, Tryz.ntmps72
      go_wp2_with fail
      refine hm.mono ?_
      rintro e w1 ⟨rfl, hr, hf⟩
      clear hm
      go_wp2_with fail
      go_end0
      exact ⟨rfl, by rw [HV.out]; exact hr, hf0.trans hf⟩
    · have hv : varB V v = false := by unfold varB; simp [h2]
      have HV : Hd (varB V v = false) := hv
      rw [hv] at hm
      clear hv h h0
      go_enter Tryz.func72, Tryz.ntmps72
      go_wp2_with fail
      refine hm.mono ?_
      rintro e w1 ⟨rfl, hr, hf⟩
      clear hm
      go_wp2_with fail
      go_end0
      exact ⟨rfl, by rw [HV.out]; exact hr, hf0.trans hf⟩
  · have hv : varB V v = false := by unfold varB; simp [h1]
    have HV : Hd (varB V v = false) := hv
    rw [hv] at hm
    clear hv h h0
    go_enter Tryz.func72, Tryz.ntmps72
    go_wp2_with fail
    refine hm.mono ?_
    rintro e w1 ⟨rfl, hr, hf⟩
    clear hm
    go_wp2_with fail
    go_end0
    exact ⟨rfl, by rw [HV.out]; exact hr, hf0.trans hf⟩


def numB (lo hi v : Int) : Bool := decide (lo ≤ v) && decide (v < hi)

set_option maxRecDepth 100000 in
set_option maxHeartbeats 1000000 in
theorem rnumber_c (rb : Nat) (G : Int) (fa : Option Addr) (nf fc : Nat) (w : World) (L E : Int) (h : RW rb G (.slice fa nf fc) w L E) (v n : Int) :
    Calls Tryz.prog 74 #[.pointer (some ⟨rb, 0, none⟩), .int .u8 99, vI v, vI n] w fun r w' => r = .returned (.tuple #[]) ∧ RW rb G (.slice fa nf fc) w' L (mustE (numB 1 9 v) 17 E) ∧ Fr (fun k => k = rb) w w' := by
  obtain ⟨c0, c1, -, -, hz, hlt⟩ := h.cells
  have hm := rmust rb G (.slice fa nf fc) w L E h (numB 1 9 v) 17
  obtain ⟨B, hB⟩ : ∃ B, numB 1 9 v = B := ⟨_, rfl⟩
  have HV : Hd (numB 1 9 v = B) := hB
  rw [hB] at hm
  unfold numB at hB
  clear h
  by_cases h1 : 1 ≤ v
  · by_cases h2 : v ≤ 8
    · have hb : B = true := by rw [← hB]; simp; omega
      subst hb
      clear hB
      go_enter Tryz.func74, Tryz.ntmps74
      go_wp2_with fail
      refine hm.mono ?_
      rintro e w1 ⟨rfl, hr, hf⟩
      clear hm c0 c1
      go_wp2_with fail
      go_end0
      exact ⟨rfl, by rw [HV.out]; exact hr, hf⟩
    · have hb : B = false := by rw [← hB]; simp; omega
      subst hb
      clear hB
      go_enter Tryz.func74, Tryz.ntmps74
      go_wp2_with fail
      refine hm.mono ?_
      rintro e w1 ⟨rfl, hr, hf⟩
      clear hm c0 c1
      go_wp2_with fail
      go_end0
      exact ⟨rfl, by rw [HV.out]; exact hr, hf⟩
  · have hb : B = false := by rw [← hB]; simp; omega
    subst hb
    clear hB
    go_enter Tryz.func74, Tryz.ntmps74
    go_wp2_with fail
    refine hm.mono ?_
    rintro e w1 ⟨rfl, hr, hf⟩
    clear hm c0 c1
    go_wp2_with fail
    go_end0
    exact ⟨rfl, by rw [HV.out]; exact hr, hf⟩

set_option maxRecDepth 100000 in
set_option maxHeartbeats 1000000 in
theorem rnumber_f (rb : Nat) (G : Int) (fa : Option Addr) (nf fc : Nat) (w : World) (L E : Int) (h : RW rb G (.slice fa nf fc) w L E) (v n : Int) :
    Calls Tryz.prog 74 #[.pointer (some ⟨rb, 0, none⟩), .int .u8 102, vI v, vI n] w fun r w' => r = .returned (.tuple #[]) ∧ RW rb G (.slice fa nf fc) w' L (mustE (numB 0 8 v) 17 E) ∧ Fr (fun k => k = rb) w w' := by
  obtain ⟨c0, c1, -, -, hz, hlt⟩ := h.cells
  have hm := rmust rb G (.slice fa nf fc) w L E h (numB 0 8 v) 17
  obtain ⟨B, hB⟩ : ∃ B, numB 0 8 v = B := ⟨_, rfl⟩
  have HV : Hd (numB 0 8 v = B) := hB
  rw [hB] at hm
  unfold numB at hB
  clear h
  by_cases h1 : 0 ≤ v
  · by_cases h2 : v < 8
    · have hb : B = true := by rw [← hB]; simp; omega
      subst hb
      clear hB
      go_enter Tryz.func74, Tryz.ntmps74
      go_wp2_with fail
      refine hm.mono ?_
      rintro e w1 ⟨rfl, hr, hf⟩
      clear hm c0 c1
      go_wp2_with fail
      go_end0
      exact ⟨rfl, by rw [HV.out]; exact hr, hf⟩
    · have hb : B = false := by rw [← hB]; simp; omega
      subst hb
      clear hB
      go_enter Tryz.func74, Tryz.ntmps74
      go_wp2_with fail
      refine hm.mono ?_
      rintro e w1 ⟨rfl, hr, hf⟩
      clear hm c0 c1
      go_wp2_with fail
      go_end0
      exact ⟨rfl, by rw [HV.out]; exact hr, hf⟩
  · have hb : B = false := by rw [← hB]; simp; omega
    subst hb
    clear hB
    go_enter Tryz.func74, Tryz.ntmps74
    go_wp2_with fail
    refine hm.mono ?_
    rintro e w1 ⟨rfl, hr, hf⟩
    clear hm c0 c1
    go_wp2_with fail
    go_end0
    exact ⟨rfl, by rw [HV.out]; exact hr, hf⟩

set_option maxRecDepth 100000 in
set_option maxHeartbeats 1000000 in
theorem rnumber_g (rb : Nat) (G : Int) (fa : Option Addr) (nf fc : Nat) (w : World) (L E : Int) (h : RW rb G (.slice fa nf fc) w L E) (v n : Int) :
    Calls Tryz.prog 74 #[.pointer (some ⟨rb, 0, none⟩), .int .u8 103, vI v, vI n] w fun r w' => r = .returned (.tuple #[]) ∧ RW rb G (.slice fa nf fc) w' L (mustE (numB 0 G v) 18 E) ∧ Fr (fun k => k = rb) w w' := by
  obtain ⟨c0, c1, -, -, hz, hlt⟩ := h.cells
  have hm := rmust rb G (.slice fa nf fc) w L E h (numB 0 G v) 18
  obtain ⟨B, hB⟩ : ∃ B, numB 0 G v = B := ⟨_, rfl⟩
  have HV : Hd (numB 0 G v = B) := hB
  rw [hB] at hm
  unfold numB at hB
  clear h
  by_cases h1 : 0 ≤ v
  · by_cases h2 : v < G
    · have hb : B = true := by rw [← hB]; simp; omega
      subst hb
      clear hB
      go_enter Tryz.func74, Tryz.ntmps74
      go_wp2_with fail
      refine hm.mono ?_
      rintro e w1 ⟨rfl, hr, hf⟩
      clear hm c0 c1
      go_wp2_with fail
      go_end0
      exact ⟨rfl, by rw [HV.out]; exact hr, hf⟩
    · have hb : B = false := by rw [← hB]; simp; omega
      subst hb
      clear hB
      go_enter Tryz.func74, Tryz.ntmps74
      go_wp2_with fail
      refine hm.mono ?_
      rintro e w1 ⟨rfl, hr, hf⟩
      clear hm c0 c1
      go_wp2_with fail
      go_end0
      exact ⟨rfl, by rw [HV.out]; exact hr, hf⟩
  · have hb : B = false := by rw [← hB]; simp; omega
    subst hb
    clear hB
    go_enter Tryz.func74, Tryz.ntmps74
    go_wp2_with fail
    refine hm.mono ?_
    rintro e w1 ⟨rfl, hr, hf⟩
    clear hm c0 c1
    go_wp2_with fail
    go_end0
    exact ⟨rfl, by rw [HV.out]; exact hr, hf⟩

set_option maxRecDepth 100000 in
set_option maxHeartbeats 1000000 in
theorem rnumber_F (rb : Nat) (G : Int) (fa : Option Addr) (nf fc : Nat) (w : World) (L E : Int) (h : RW rb G (.slice fa nf fc) w L E) (v n : Int) :
    Calls Tryz.prog 74 #[.pointer (some ⟨rb, 0, none⟩), .int .u8 70, vI v, vI n] w fun r w' => r = .returned (.tuple #[]) ∧ RW rb G (.slice fa nf fc) w' L (mustE (numB 0 nf v) 14 E) ∧ Fr (fun k => k = rb) w w' := by
  obtain ⟨c0, c1, -, -, hz, hlt⟩ := h.cells
  have hm := rmust rb G (.slice fa nf fc) w L E h (numB 0 nf v) 14
  obtain ⟨B, hB⟩ : ∃ B, numB 0 nf v = B := ⟨_, rfl⟩
  have HV : Hd (numB 0 nf v = B) := hB
  rw [hB] at hm
  unfold numB at hB
  clear h
  by_cases h1 : 0 ≤ v
  · by_cases h2 : v < nf
    · have hb : B = true := by rw [← hB]; simp; omega
      subst hb
      clear hB
      go_enter Tryz.func74, Tryz.ntmps74
      go_wp2_with fail
      refine hm.mono ?_
      rintro e w1 ⟨rfl, hr, hf⟩
      clear hm c0 c1
      go_wp2_with fail
      go_end0
      exact ⟨rfl, by rw [HV.out]; exact hr, hf⟩
    · have hb : B = false := by rw [← hB]; simp; omega
      subst hb
      clear hB
      go_enter Tryz.func74, Tryz.ntmps74
      go_wp2_with fail
      refine hm.mono ?_
      rintro e w1 ⟨rfl, hr, hf⟩
      clear hm c0 c1
      go_wp2_with fail
      go_end0
      exact ⟨rfl, by rw [HV.out]; exact hr, hf⟩
  · have hb : B = false := by rw [← hB]; simp; omega
    subst hb
    clear hB
    go_enter Tryz.func74, Tryz.ntmps74
    go_wp2_with fail
    refine hm.mono ?_
    rintro e w1 ⟨rfl, hr, hf⟩
    clear hm c0 c1
    go_wp2_with fail
    go_end0
    exact ⟨rfl, by rw [HV.out]; exact hr, hf⟩

set_option maxRecDepth 100000 in
set_option maxHeartbeats 1000000 in
theorem rnumber_J (rb : Nat) (G : Int) (fa : Option Addr) (nf fc : Nat) (w : World) (L E : Int) (h : RW rb G (.slice fa nf fc) w L E) (v n : Int) :
    Calls Tryz.prog 74 #[.pointer (some ⟨rb, 0, none⟩), .int .u8 74, vI v, vI n] w fun r w' => r = .returned (.tuple #[]) ∧ RW rb G (.slice fa nf fc) w' L (mustE (numB 0 n v) 16 E) ∧ Fr (fun k => k = rb) w w' := by
  obtain ⟨c0, c1, -, -, hz, hlt⟩ := h.cells
  have hm := rmust rb G (.slice fa nf fc) w L E h (numB 0 n v) 16
  obtain ⟨B, hB⟩ : ∃ B, numB 0 n v = B := ⟨_, rfl⟩
  have HV : Hd (numB 0 n v = B) := hB
  rw [hB] at hm
  unfold numB at hB
  clear h
  by_cases h1 : 0 ≤ v
  · by_cases h2 : v < n
    · have hb : B = true := by rw [← hB]; simp; omega
      subst hb
      clear hB
      go_enter Tryz.func74, Tryz.ntmps74
      go_wp2_with fail
      refine hm.mono ?_
      rintro e w1 ⟨rfl, hr, hf⟩
      clear hm c0 c1
      go_wp2_with fail
      go_end0
      exact ⟨rfl, by rw [HV.out]; exact hr, hf⟩
    · have hb : B = false := by rw [← hB]; simp; omega
      subst hb
      clear hB
      go_enter Tryz.func74, Tryz.ntmps74
      go_wp2_with fail
      refine hm.mono ?_
      rintro e w1 ⟨rfl, hr, hf⟩
      clear hm c0 c1
      go_wp2_with fail
      go_end0
      exact ⟨rfl, by rw [HV.out]; exact hr, hf⟩
  · have hb : B = false := by rw [← hB]; simp; omega
    subst hb
    clear hB
    go_enter Tryz.func74, Tryz.ntmps74
    go_wp2_with fail
    refine hm.mono ?_
    rintro e w1 ⟨rfl, hr, hf⟩
    clear hm c0 c1
    go_wp2_with fail
    go_end0
    exact ⟨rfl, by rw [HV.out]; exact hr, hf⟩

set_option maxRecDepth 100000 in
set_option maxHeartbeats 1000000 in
theorem rnumber_i (rb : Nat) (G : Int) (fv : Value) (w : World) (L E : Int) (h : RW rb G fv w L E) (v n : Int) :
    Calls Tryz.prog 74 #[.pointer (some ⟨rb, 0, none⟩), .int .u8 105, vI v, vI n] w fun r w' => r = .returned (.tuple #[]) ∧ RW rb G fv w' L E ∧ Fr (fun k => k = rb) w w' := by
  have HH : Hd (RW rb G fv w L E) := h
  clear h
  go_enter Tryz.func74, Tryz.ntmps74
  go_wp2_with fail
  go_end0
  exact ⟨rfl, HH.out, Fr.refl _ _⟩


/-- Are all fields that the operation does not name zero? -/
def plainB (op zr zs zt zn : Int) (la lr : Nat) : Bool := (tested (namesB op)).all fun p => (zzOf (zeros6 zr zs zt zn la lr) p.1 == 0) || p.2

theorem rplain (w : World) (op zr zs zt zn : Int) (aa ra : Option Addr) (la ca lr cr : Nat) :
    Calls Tryz.prog 94 #[.agg #[vI op, vI zr, vI zs, vI zt, vI zn, .slice aa la ca, .slice ra lr cr]] w fun e w' => e = .returned (.bool (plainB op zr zs zt zn la lr)) ∧ Fr (fun _ => False) w w' := by
  by_cases h : 1 ≤ op ∧ op ≤ 17
  · rcases (show op = 1 ∨ op = 2 ∨ op = 3 ∨ op = 4 ∨ op = 5 ∨ op = 6 ∨ op = 7 ∨ op = 8 ∨ op = 9 ∨ op = 10 ∨ op = 11 ∨ op = 12 ∨ op = 13 ∨ op = 14 ∨ op = 15 ∨ op = 16 ∨ op = 17 by omega) with rfl | rfl | rfl | rfl | rfl | rfl | rfl | rfl | rfl | rfl | rfl | rfl | rfl | rfl | rfl | rfl | rfl
    · exact plain_A (namesB 1) (by simp) w 1 zr zs zt zn aa ra la ca lr cr (fun _ => rfl)
    · exact plain_A (namesB 2) (by simp) w 2 zr zs zt zn aa ra la ca lr cr (fun _ => rfl)
    · exact plain_A (namesB 3) (by simp) w 3 zr zs zt zn aa ra la ca lr cr (fun _ => rfl)
    · exact plain_B (namesB 4) (by simp) w 4 zr zs zt zn aa ra la ca lr cr (fun _ => rfl)
    · exact plain_B (namesB 5) (by simp) w 5 zr zs zt zn aa ra la ca lr cr (fun _ => rfl)
    · exact plain_B (namesB 6) (by simp) w 6 zr zs zt zn aa ra la ca lr cr (fun _ => rfl)
    · exact plain_C (namesB 7) (by simp) w 7 zr zs zt zn aa ra la ca lr cr (fun _ => rfl)
    · exact plain_C (namesB 8) (by simp) w 8 zr zs zt zn aa ra la ca lr cr (fun _ => rfl)
    · exact plain_C (namesB 9) (by simp) w 9 zr zs zt zn aa ra la ca lr cr (fun _ => rfl)
    · exact plain_D (namesB 10) (by simp) w 10 zr zs zt zn aa ra la ca lr cr (fun _ => rfl)
    · exact plain_D (namesB 11) (by simp) w 11 zr zs zt zn aa ra la ca lr cr (fun _ => rfl)
    · exact plain_D (namesB 12) (by simp) w 12 zr zs zt zn aa ra la ca lr cr (fun _ => rfl)
    · exact plain_E (namesB 13) (by simp) w 13 zr zs zt zn aa ra la ca lr cr (fun _ => rfl)
    · exact plain_E (namesB 14) (by simp) w 14 zr zs zt zn aa ra la ca lr cr (fun _ => rfl)
    · exact plain_E (namesB 15) (by simp) w 15 zr zs zt zn aa ra la ca lr cr (fun _ => rfl)
    · exact plain_F (namesB 16) (by simp) w 16 zr zs zt zn aa ra la ca lr cr (fun _ => rfl)
    · exact plain_F (namesB 17) (by simp) w 17 zr zs zt zn aa ra la ca lr cr (fun _ => rfl)
  · have hn : ∀ c, namesB op c = false := fun c => by
      have e := partsB_out op h
      have e2 : partsN op.toNat = #[] := congrArg ByteArray.data e
      unfold namesB
      rw [e2]
      rfl
    have hf : namesB op = fun _ => false := funext hn
    unfold plainB
    rw [hf]
    exact plain_F (fun _ => false) (by simp) w op zr zs zt zn aa ra la ca lr cr hn

/-- Is it the same as what the program asks? -/
theorem plainB_nbK (k : Nat) (h : 1 ≤ k ∧ k ≤ 17) (s : WS) (la lr : Nat) : plainB k s.r s.s s.t s.n la lr = nbK k s la lr := by
  have hz : ∀ (nmf : UInt8 → Bool), ((tested nmf).all fun p => (zzOf (zeros6 s.r s.s s.t s.n la lr) p.1 == 0) || p.2) = (((s.r == 0) || nmf 82) && (((s.s == 0) || nmf 83) && (((s.t == 0) || nmf 84) && (((s.n == 0) || (nmf 105 || nmf 99 || nmf 102 || nmf 103 || nmf 70 || nmf 74)) && ((((la : Int) == 0) || (nmf 65 || nmf 86)) && ((((lr : Int) == 0) || nmf 66) && true)))))) := fun nmf => rfl
  unfold plainB
  rw [hz]
  rcases (show k = 1 ∨ k = 2 ∨ k = 3 ∨ k = 4 ∨ k = 5 ∨ k = 6 ∨ k = 7 ∨ k = 8 ∨ k = 9 ∨ k = 10 ∨ k = 11 ∨ k = 12 ∨ k = 13 ∨ k = 14 ∨ k = 15 ∨ k = 16 ∨ k = 17 by omega) with rfl | rfl | rfl | rfl | rfl | rfl | rfl | rfl | rfl | rfl | rfl | rfl | rfl | rfl | rfl | rfl | rfl
  all_goals
    simp only [namesB, Int.toNat_natCast, partsN, nbK]
    cases (s.r == 0) <;> cases (s.s == 0) <;> cases (s.t == 0) <;> cases (s.n == 0) <;> cases ((la : Int) == 0) <;> cases ((lr : Int) == 0) <;> rfl


def opB (op : Int) : Bool := decide (1 ≤ op) && decide (op ≤ 17)
def lastB (last : Bool) (op : Int) : Bool := !last || (op == 13 || op == 15)
/-- What the operation of an instruction comes to: the locations, the first violation. -/
def opL (op L : Int) : Int := if op = 6 then L + 1 else L
def opE (op : Int) (pl last : Bool) (L E : Int) : Int := mustE (decide (opL op L + 1 ≤ 1048576)) 21 (mustE (lastB last op) 19 (mustE pl 1 (mustE (opB op) 12 E)))

theorem partsB_in (op : Int) : (!(partsB op).toList.isEmpty) = opB op := by
  by_cases h : 1 ≤ op ∧ op ≤ 17
  · have e : opB op = true := by unfold opB; simp [h.1, h.2]
    rw [e]
    rcases (show op = 1 ∨ op = 2 ∨ op = 3 ∨ op = 4 ∨ op = 5 ∨ op = 6 ∨ op = 7 ∨ op = 8 ∨ op = 9 ∨ op = 10 ∨ op = 11 ∨ op = 12 ∨ op = 13 ∨ op = 14 ∨ op = 15 ∨ op = 16 ∨ op = 17 by omega) with rfl | rfl | rfl | rfl | rfl | rfl | rfl | rfl | rfl | rfl | rfl | rfl | rfl | rfl | rfl | rfl | rfl <;>
      (simp [partsB, partsN, ByteArray.toList, ByteArray.toList.loop, ByteArray.size])
  · have e : opB op = false := by unfold opB; simp; omega
    rw [partsB_out op h, e]
    simp [ByteArray.toList, ByteArray.toList.loop, ByteArray.size]

set_option maxRecDepth 100000 in
set_option maxHeartbeats 2000000 in
theorem rop (rb : Nat) (G : Int) (fv : Value) (w : World) (L E : Int) (h : RW rb G fv w L E) (hL0 : 0 ≤ L) (hL1 : L ≤ 1000000000000) (op zr zs zt zn : Int) (aa ra : Option Addr) (la ca lr cr : Nat) (last : Bool) :
    Calls Tryz.prog 70 #[.pointer (some ⟨rb, 0, none⟩), .agg #[vI op, vI zr, vI zs, vI zt, vI zn, .slice aa la ca, .slice ra lr cr], .bool last] w fun r w' => r = .returned (.tuple #[]) ∧ RW rb G fv w' (opL op L) (opE op (plainB op zr zs zt zn la lr) last L E) ∧ Fr (fun k => k = rb) w w' := by
  have hne : (!(partsB op).toList.isEmpty) = opB op := partsB_in op
  have hrb : rb < w.heap.size := h.cells.2.2.2.2.2
  go_enter Tryz.func70, Tryz.ntmps70
  go_wp2_with fail
  refine (rparts op _).mono ?_
  rintro e w1 ⟨rfl, hf1⟩
  have hfa : Fr (fun k => k = rb) w w1 := (Fr.alloc (Fr.refl (fun k => k = rb) w) _).trans (hf1.mono (fun _ _ h => h.elim))
  have h1 : RW rb G fv w1 L E := h.fr ((Fr.alloc (Fr.refl (fun _ => False) w) _).trans hf1) (fun h => h)
  have hx1 : w1.heap[w.heap.size]? = some (.cells #[vI op, vI zr, vI zs, vI zt, vI zn, .slice aa la ca, .slice ra lr cr] 43) := by
    rw [hf1.block _ (by simp) (fun h => h)]
    exact heap_alloc_last w _
  clear hf1 h
  generalize partsB op = pb at hne ⊢
  go_wp2_with fail
  refine (rmust rb G fv w1 L E h1 (opB op) 12).mono ?_
  rintro e w2 ⟨rfl, h2, hf2⟩
  have hps : ¬ w.heap.size = rb := by omega
  have hx2 : w2.heap[w.heap.size]? = some (.cells #[vI op, vI zr, vI zs, vI zt, vI zn, .slice aa la ca, .slice ra lr cr] 43) := by
    rw [hf2.block _ (Array.getElem?_eq_some_iff.1 hx1).1 hps]; exact hx1
  have hfb : Fr (fun k => k = rb) w w2 := hfa.trans hf2
  clear hne hf2 hfa hx1 h1
  have cc : ∀ {v : World}, v.heap[w.heap.size]? = some (.cells #[vI op, vI zr, vI zs, vI zt, vI zn, .slice aa la ca, .slice ra lr cr] 43) → v.cell? ⟨w.heap.size, 0, none⟩ = some (vI op) ∧ v.cell? ⟨w.heap.size, 1, none⟩ = some (vI zr) ∧ v.cell? ⟨w.heap.size, 2, none⟩ = some (vI zs) ∧ v.cell? ⟨w.heap.size, 3, none⟩ = some (vI zt) ∧ v.cell? ⟨w.heap.size, 4, none⟩ = some (vI zn) ∧ v.cell? ⟨w.heap.size, 5, none⟩ = some (.slice aa la ca) ∧ v.cell? ⟨w.heap.size, 6, none⟩ = some (.slice ra lr cr) := by
    intro v hv
    refine ⟨?_, ?_, ?_, ?_, ?_, ?_, ?_⟩ <;> (unfold World.cell?; simp [hv])
  have CC : Hd _ := @cc
  clear cc
  obtain ⟨d0, d1, d2, d3, d4, d5, d6⟩ := CC.out hx2
  go_wp2_with fail
  refine (rplain w2 op zr zs zt zn aa ra la ca lr cr).mono ?_
  rintro e w3 ⟨rfl, hf3⟩
  have hx3 : w3.heap[w.heap.size]? = some (.cells #[vI op, vI zr, vI zs, vI zt, vI zn, .slice aa la ca, .slice ra lr cr] 43) := by
    rw [hf3.block _ (Array.getElem?_eq_some_iff.1 hx2).1 (fun h => h)]; exact hx2
  have h3 := h2.fr hf3 (fun h => h)
  have hfc : Fr (fun k => k = rb) w w3 := hfb.trans (hf3.mono (fun _ _ h => h.elim))
  clear d0 d1 d2 d3 d4 d5 d6 hf3 hfb hx2 h2
  go_wp2_with fail
  refine (rmust rb G fv w3 L _ h3 (plainB op zr zs zt zn la lr) 1).mono ?_
  rintro e w4 ⟨rfl, h4, hf4⟩
  have hx4 : w4.heap[w.heap.size]? = some (.cells #[vI op, vI zr, vI zs, vI zt, vI zn, .slice aa la ca, .slice ra lr cr] 43) := by
    rw [hf4.block _ (Array.getElem?_eq_some_iff.1 hx3).1 hps]; exact hx3
  have hfd : Fr (fun k => k = rb) w w4 := hfc.trans hf4
  clear hf4 hfc hx3 h3
  obtain ⟨d0, -⟩ := CC.out hx4
  obtain ⟨E4, HE4⟩ : ∃ E4, Hd (mustE (plainB op zr zs zt zn la lr) 1 (mustE (opB op) 12 E) = E4) := ⟨_, rfl⟩
  rw [HE4.out] at h4
  -- ways
  have hres : ∀ (w' : World) (L' : Int) (B : Bool), opL op L = L' → lastB last op = B → RW rb G fv w' L' (mustE (decide (L' + 1 ≤ 1048576)) 21 (mustE B 19 E4)) → RW rb G fv w' (opL op L) (opE op (plainB op zr zs zt zn la lr) last L E) := by
    intro w' L' B e1 e2 hr
    unfold opE
    rw [HE4.out, e1, e2]
    exact hr
  have HRES : Hd _ := hres
  clear hres HE4
  cases last with
  | false =>
    by_cases h6 : op = 6
    · have hB : Hd (lastB false op = true) := by unfold Hd lastB; rfl
      have hL : Hd (opL op L = L + 1) := by unfold Hd opL; rw [if_pos h6]
      subst h6
      go_wp2_with fail
      refine (rmust rb G fv w4 L E4 h4 true 19).mono ?_
      rintro e w5 ⟨rfl, h5, hf5⟩
      have hx5 := hx4
      rw [← hf5.block _ (Array.getElem?_eq_some_iff.1 hx4).1 hps] at hx5
      have hfe : Fr (fun k => k = rb) w w5 := hfd.trans hf5
      clear hf5 hfd hx4 h4 d0
      obtain ⟨d0, -⟩ := CC.out hx5
      obtain ⟨-, -, r2, r3, rz, rlt⟩ := h5.cells
      go_wp2_with fail
      have h6' := h5.setL (L + 1)
      have hff : Fr (fun k => k = rb) w (w5.setCell ⟨rb, 2, none⟩ (vI (L + 1))) := Fr.setCell hfe _ _ (Or.inl rfl)
      generalize w5.setCell ⟨rb, 2, none⟩ (vI (L + 1)) = w6 at h6' hff ⊢
      clear r2 r3 rz rlt h5 hfe d0
      obtain ⟨-, -, r2, r3, rz, rlt⟩ := h6'.cells
      refine (rmust rb G fv w6 (L + 1) _ h6' (decide (L + 1 + 1 ≤ 1048576)) 21).mono ?_
      rintro e w7 ⟨rfl, h7, hf7⟩
      go_wp2_with fail
      go_end0
      exact ⟨rfl, HRES.out _ _ _ hL.out hB.out h7, hff.trans hf7⟩
    · have hB : Hd (lastB false op = true) := by unfold Hd lastB; rfl
      have hL : Hd (opL op L = L) := by unfold Hd opL; rw [if_neg h6]
      have h6' : (op == 6) = false := by simpa using h6
      go_wp2_with fail
      refine (rmust rb G fv w4 L E4 h4 true 19).mono ?_
      rintro e w5 ⟨rfl, h5, hf5⟩
      have hx5 := hx4
      rw [← hf5.block _ (Array.getElem?_eq_some_iff.1 hx4).1 hps] at hx5
      have hfe : Fr (fun k => k = rb) w w5 := hfd.trans hf5
      clear hf5 hfd hx4 h4 d0
      obtain ⟨d0, -⟩ := CC.out hx5
      obtain ⟨-, -, r2, r3, rz, rlt⟩ := h5.cells
      go_wp2_with fail
      refine (rmust rb G fv w5 L _ h5 (decide (L + 1 ≤ 1048576)) 21).mono ?_
      rintro e w7 ⟨rfl, h7, hf7⟩
      go_wp2_with fail
      go_end0
      exact ⟨rfl, HRES.out _ _ _ hL.out hB.out h7, hfe.trans hf7⟩
  | true =>
    by_cases h13 : op = 13
    · have h6 : ¬ op = 6 := by omega
      subst h13
      have hB : Hd (lastB true 13 = true) := by unfold Hd lastB; rfl
      have hL : Hd (opL 13 L = L) := by unfold Hd opL; rw [if_neg h6]
      go_wp2_with fail
      refine (rmust rb G fv w4 L E4 h4 true 19).mono ?_
      rintro e w5 ⟨rfl, h5, hf5⟩
      have hx5 := hx4
      rw [← hf5.block _ (Array.getElem?_eq_some_iff.1 hx4).1 hps] at hx5
      have hfe : Fr (fun k => k = rb) w w5 := hfd.trans hf5
      clear hf5 hfd hx4 h4 d0
      obtain ⟨d0, -⟩ := CC.out hx5
      obtain ⟨-, -, r2, r3, rz, rlt⟩ := h5.cells
      go_wp2_with fail
      refine (rmust rb G fv w5 L _ h5 (decide (L + 1 ≤ 1048576)) 21).mono ?_
      rintro e w7 ⟨rfl, h7, hf7⟩
      go_wp2_with fail
      go_end0
      exact ⟨rfl, HRES.out _ _ _ hL.out hB.out h7, hfe.trans hf7⟩
    · have h13' : (op == 13) = false := by simpa using h13
      by_cases h15 : op = 15
      · have h6 : ¬ op = 6 := by omega
        subst h15
        have hB : Hd (lastB true 15 = true) := by unfold Hd lastB; rfl
        have hL : Hd (opL 15 L = L) := by unfold Hd opL; rw [if_neg h6]
        go_wp2_with fail
        refine (rmust rb G fv w4 L E4 h4 true 19).mono ?_
        rintro e w5 ⟨rfl, h5, hf5⟩
        have hx5 := hx4
        rw [← hf5.block _ (Array.getElem?_eq_some_iff.1 hx4).1 hps] at hx5
        have hfe : Fr (fun k => k = rb) w w5 := hfd.trans hf5
        clear hf5 hfd hx4 h4 d0
        obtain ⟨d0, -⟩ := CC.out hx5
        obtain ⟨-, -, r2, r3, rz, rlt⟩ := h5.cells
        go_wp2_with fail
        refine (rmust rb G fv w5 L _ h5 (decide (L + 1 ≤ 1048576)) 21).mono ?_
        rintro e w7 ⟨rfl, h7, hf7⟩
        go_wp2_with fail
        go_end0
        exact ⟨rfl, HRES.out _ _ _ hL.out hB.out h7, hfe.trans hf7⟩
      · have h15' : (op == 15) = false := by simpa using h15
        by_cases h6 : op = 6
        · have hB : Hd (lastB true op = false) := by unfold Hd lastB; rw [h13', h15']; rfl
          have hL : Hd (opL op L = L + 1) := by unfold Hd opL; rw [if_pos h6]
          subst h6
          go_wp2_with fail
          refine (rmust rb G fv w4 L E4 h4 false 19).mono ?_
          rintro e w5 ⟨rfl, h5, hf5⟩
          have hx5 := hx4
          rw [← hf5.block _ (Array.getElem?_eq_some_iff.1 hx4).1 hps] at hx5
          have hfe : Fr (fun k => k = rb) w w5 := hfd.trans hf5
          clear hf5 hfd hx4 h4 d0
          obtain ⟨d0, -⟩ := CC.out hx5
          obtain ⟨-, -, r2, r3, rz, rlt⟩ := h5.cells
          go_wp2_with fail
          have h6' := h5.setL (L + 1)
          have hff : Fr (fun k => k = rb) w (w5.setCell ⟨rb, 2, none⟩ (vI (L + 1))) := Fr.setCell hfe _ _ (Or.inl rfl)
          generalize w5.setCell ⟨rb, 2, none⟩ (vI (L + 1)) = w6 at h6' hff ⊢
          clear r2 r3 rz rlt h5 hfe d0
          obtain ⟨-, -, r2, r3, rz, rlt⟩ := h6'.cells
          refine (rmust rb G fv w6 (L + 1) _ h6' (decide (L + 1 + 1 ≤ 1048576)) 21).mono ?_
          rintro e w7 ⟨rfl, h7, hf7⟩
          go_wp2_with fail
          go_end0
          exact ⟨rfl, HRES.out _ _ _ hL.out hB.out h7, hff.trans hf7⟩
        · have hB : Hd (lastB true op = false) := by unfold Hd lastB; rw [h13', h15']; rfl
          have hL : Hd (opL op L = L) := by unfold Hd opL; rw [if_neg h6]
          have h6' : (op == 6) = false := by simpa using h6
          go_wp2_with fail
          refine (rmust rb G fv w4 L E4 h4 false 19).mono ?_
          rintro e w5 ⟨rfl, h5, hf5⟩
          have hx5 := hx4
          rw [← hf5.block _ (Array.getElem?_eq_some_iff.1 hx4).1 hps] at hx5
          have hfe : Fr (fun k => k = rb) w w5 := hfd.trans hf5
          clear hf5 hfd hx4 h4 d0
          obtain ⟨d0, -⟩ := CC.out hx5
          obtain ⟨-, -, r2, r3, rz, rlt⟩ := h5.cells
          go_wp2_with fail
          refine (rmust rb G fv w5 L _ h5 (decide (L + 1 ≤ 1048576)) 21).mono ?_
          rintro e w7 ⟨rfl, h7, hf7⟩
          go_wp2_with fail
          go_end0
          exact ⟨rfl, HRES.out _ _ _ hL.out hB.out h7, hfe.trans hf7⟩

end Go.Proofs.YtjmbfjaahadbhaaGreatDoor
