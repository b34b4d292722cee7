import Derived.Test.YtingenonbkencaaDoorQB3
namespace Go.Proofs.YtingenonbkencaaDoor
open Go.RowKit (wrap32 wrap64)
set_option linter.unusedVariables false
set_option linter.unusedSimpArgs false
set_option maxRecDepth 100000
set_option maxHeartbeats 2000000
theorem anyNumber_own {b : Nat} (M : Mode b) (hN : NextOwn M) (x : WS × M.σ) (w : World) (h : On M w x) (op size : Nat) (hop : x.1.op = op) (hlt : op < 18) (hsz : szs.getD op 0 = size) (hs1 : 1 ≤ size) (hs8 : size ≤ 8) :
    Calls Tryd.prog 81 #[.pointer (some ⟨b, 0, none⟩), .pointer (some ⟨b, 158, none⟩)] w (Ends M w (nextX M 158 size x)) := by
  go_enter Tryd.func81, Tryd.ntmps81
  go_wp2_with fail
  refine (numberN_own M hN x _ h op size hop hlt hsz hs1 hs8).mono ?_
  rintro e w1 ⟨hf, hres⟩
  cases hx : nextX M 158 size x with
  | error z =>
    simp only [hx] at hres
    subst hres
    go_wp2_with fail
    refine ⟨rfl, hf, ?_⟩
    simp only [hx]
  | ok y =>
    simp only [hx] at hres
    obtain ⟨rfl, hon⟩ := hres
    go_wp2_with fail
    go_end0
    refine ⟨hf, ?_⟩
    simp only [hx]
    exact ⟨trivial, hon⟩
def locX {b : Nat} (M : Mode b) (n p : Int) (x : WS × M.σ) : X (WS × M.σ) :=
  if wrap64 (x.1.locs + n) ≤ 1048576 then .ok ({ x.1 with locs := wrap64 (x.1.locs + n) }, x.2) else .error (21, p)
theorem cells_locs (s : WS) (v : Int) : s.cells.setIfInBounds 148 (vI v) = { s with locs := v }.cells := by kernel_rfl
theorem locate_any {b : Nat} (M : Mode b) (n p : Int) (x : WS × M.σ) (w : World) (h : On M w x) :
    Calls Tryd.prog 92 #[.pointer (some ⟨b, 0, none⟩), vI n, vI p] w (Ends M w (locX M n p x)) := by
  have hc : w.cell? ⟨b, 148, none⟩ = some (vI x.1.locs) := h.1.facts.2.2.2.2.1
  have hz := h.1.frozen 148
  have hl' : ∀ v, Lies (w.setCell ⟨b, 148, none⟩ (vI v)) b { x.1 with locs := v } := fun v => h.1.setCell 148 _ (cells_locs _ _)
  have hfr : ∀ v, Fr (· = b) w (w.setCell ⟨b, 148, none⟩ (vI v)) := fun v => Fr.setCell (Fr.refl (fun k => k = b) w) _ _ (Or.inl rfl)
  by_cases hm : wrap64 (x.1.locs + n) ≤ 1048576
  · have hm' : decide (wrap64 (x.1.locs + n) ≤ 1048576) = true := by simpa using hm
    go_enter Tryd.func92, Tryd.ntmps92
    go_wp2_with fail
    refine (must_true 21 p _).mono ?_
    rintro e w' ⟨rfl, rfl⟩
    go_wp2_with fail
    go_end0
    refine ⟨(hfr _).mono (fun k _ hk => Or.inl hk), ?_⟩
    simp only [locX, if_pos hm]
    exact ⟨trivial, h.fr (hfr _) (hl' _) rfl rfl⟩
  · have hm' : decide (wrap64 (x.1.locs + n) ≤ 1048576) = false := by simpa using hm
    go_enter Tryd.func92, Tryd.ntmps92
    go_wp2_with fail
    refine (must_false 21 p _).mono ?_
    rintro e w' ⟨rfl, rfl⟩
    go_wp2_with fail
    refine ⟨rfl, (hfr _).mono (fun k _ hk => Or.inl hk), ?_⟩
    simp only [locX, if_neg (Int.not_le.2 hm)]
def headOk (s : WS) (p : Int) : X Unit :=
  if ¬ (0 ≤ s.fV ∧ s.fV ≤ 255) then .error (20, p)
  else if ¬ (0 ≤ s.fP ∧ s.fP ≤ (if s.fV < 8 then s.fV else 8)) then .error (20, p)
  else if ¬ (0 ≤ s.fR ∧ s.fR ≤ 4) then .error (20, p)
  else if ¬ s.len ≤ 4096 then .error (20, p)
  else if ¬ 0 < s.len then .error (19, p)
  else .ok ()
def headX {b : Nat} (M : Mode b) (x : WS × M.σ) : X (WS × M.σ) := do
  let y1 ← nextX M 149 1 x
  let y2 ← nextX M 150 1 y1
  let y3 ← nextX M 151 1 y2
  let y4 ← nextX M 153 2 y3
  headOk y4.1 x.1.at'
  locX M y4.1.fV x.1.at' y4
theorem askHead_any {b : Nat} (M : Mode b) (hN : NextOwn M) (x : WS × M.σ) (w : World) (h : On M w x) :
    Calls Tryd.prog 63 #[.pointer (some ⟨b, 0, none⟩)] w (Ends M w (headX M x)) := by
  go_enter Tryd.func63, Tryd.ntmps63
  go_wp2_with fail
  refine (hN 149 (by simp [places]) x 1 _ h (by omega) (by omega)).mono ?_
  rintro e w1 ⟨hf1, hres⟩
  cases hx1 : nextX M 149 1 x with
  | error z =>
    simp only [hx1] at hres
    subst hres
    go_wp2_with fail
    refine ⟨rfl, hf1, ?_⟩
    simp only [headX, hx1, bind, Except.bind]
  | ok y1 =>
  simp only [hx1] at hres
  obtain ⟨rfl, hon1⟩ := hres
  go_wp2_with fail
  refine (hN 150 (by simp [places]) y1 1 _ hon1 (by omega) (by omega)).mono ?_
  rintro e w2 ⟨hf2, hres⟩
  cases hx2 : nextX M 150 1 y1 with
  | error z =>
    simp only [hx2] at hres
    subst hres
    go_wp2_with fail
    refine ⟨rfl, hf1.trans hf2, ?_⟩
    simp only [headX, hx1, hx2, bind, Except.bind]
  | ok y2 =>
  simp only [hx2] at hres
  obtain ⟨rfl, hon2⟩ := hres
  go_wp2_with fail
  refine (hN 151 (by simp [places]) y2 1 _ hon2 (by omega) (by omega)).mono ?_
  rintro e w3 ⟨hf3, hres⟩
  cases hx3 : nextX M 151 1 y2 with
  | error z =>
    simp only [hx3] at hres
    subst hres
    go_wp2_with fail
    refine ⟨rfl, (hf1.trans hf2).trans hf3, ?_⟩
    simp only [headX, hx1, hx2, hx3, bind, Except.bind]
  | ok y3 =>
  simp only [hx3] at hres
  obtain ⟨rfl, hon3⟩ := hres
  go_wp2_with fail
  refine (hN 153 (by simp [places]) y3 2 _ hon3 (by omega) (by omega)).mono ?_
  rintro e w4 ⟨hf4, hres⟩
  have hf : Fr M.SB w w4 := ((hf1.trans hf2).trans hf3).trans hf4
  cases hx4 : nextX M 153 2 y3 with
  | error z =>
    simp only [hx4] at hres
    subst hres
    go_wp2_with fail
    refine ⟨rfl, hf, ?_⟩
    simp only [headX, hx1, hx2, hx3, hx4, bind, Except.bind]
  | ok y4 =>
  simp only [hx4] at hres
  obtain ⟨rfl, hon4⟩ := hres
  have c149 : w4.cell? ⟨b, 149, none⟩ = some (vI y4.1.fP) := hon4.1.facts.2.2.2.2.2.1
  have c150 : w4.cell? ⟨b, 150, none⟩ = some (vI y4.1.fR) := hon4.1.facts.2.2.2.2.2.2.1
  have c151 : w4.cell? ⟨b, 151, none⟩ = some (vI y4.1.fV) := hon4.1.facts.2.2.2.2.2.2.2.1
  have c153 : w4.cell? ⟨b, 153, none⟩ = some (vI y4.1.len) := hon4.1.facts.2.2.2.2.2.2.2.2.2.1
  have hX : headX M x = (headOk y4.1 x.1.at' >>= fun _ => locX M y4.1.fV x.1.at' y4) := by
    simp only [headX, hx1, hx2, hx3, hx4, bind, Except.bind]
  have HX : Hd (headX M x = (headOk y4.1 x.1.at' >>= fun _ => locX M y4.1.fV x.1.at' y4)) := hX
  clear hX hx1 hx2 hx3 hx4 hon1 hon2 hon3 hf1 hf2 hf3 hf4
  go_wp2_with fail
  refine (within_any _ _ _ _).mono ?_
  rintro e w' ⟨rfl, rfl⟩
  by_cases m1 : 0 ≤ y4.1.fV ∧ y4.1.fV ≤ 255
  rotate_left
  · have n1 : Hd (¬ (0 ≤ y4.1.fV ∧ y4.1.fV ≤ 255)) := m1
    have m1' : decide (0 ≤ y4.1.fV ∧ y4.1.fV ≤ 255) = false := by simpa using m1
    rw [m1']
    go_wp2_with fail
    refine (must_false 20 x.1.at' _).mono ?_
    rintro e w' ⟨rfl, rfl⟩
    go_wp2_with fail
    refine ⟨rfl, hf, ?_⟩
    have hXk : headX M x = .error (20, x.1.at') := by rw [HX.out]; unfold headOk; rw [if_pos n1.out]; rfl
    simp only [hXk]
  have n1 : Hd (0 ≤ y4.1.fV ∧ y4.1.fV ≤ 255) := m1
  have m1' : decide (0 ≤ y4.1.fV ∧ y4.1.fV ≤ 255) = true := by simpa using m1
  rw [m1']
  go_wp2_with fail
  refine (must_true 20 x.1.at' _).mono ?_
  rintro e w' ⟨rfl, rfl⟩
  go_wp2_with fail
  refine wp_region_still_tail 11 mixed (by kernel_rfl) ?_
  simp only [List.take_succ_cons, List.take_zero, List.drop_succ_cons, List.drop_zero]
  repeat still_step
  generalize hmn : (if y4.1.fV < 8 then y4.1.fV else 8) = mn
  have HMN : Hd ((if y4.1.fV < 8 then y4.1.fV else 8) = mn) := hmn
  clear hmn
  by_cases m2 : 0 ≤ y4.1.fP ∧ y4.1.fP ≤ mn
  rotate_left
  · have n2' : Hd (¬ (0 ≤ y4.1.fP ∧ y4.1.fP ≤ (if y4.1.fV < 8 then y4.1.fV else 8))) := by unfold Hd; rw [HMN.out]; exact m2
    have m2' : decide (0 ≤ y4.1.fP ∧ y4.1.fP ≤ mn) = false := by simpa using m2
    still_call (within_any _ _ _ _)
    repeat still_step
    refine wpStill_nil ?_
    go_wp2_with fail
    refine (must_false 20 x.1.at' _).mono ?_
    rintro e w' ⟨rfl, rfl⟩
    go_wp2_with fail
    refine ⟨rfl, hf.drew, ?_⟩
    have hXk : headX M x = .error (20, x.1.at') := by rw [HX.out]; unfold headOk; rw [if_neg (Decidable.not_not.2 n1.out), if_pos n2'.out]; rfl
    simp only [hXk]
  have n2 : Hd (0 ≤ y4.1.fP ∧ y4.1.fP ≤ (if y4.1.fV < 8 then y4.1.fV else 8)) := by unfold Hd; rw [HMN.out]; exact m2
  have m2' : decide (0 ≤ y4.1.fP ∧ y4.1.fP ≤ mn) = true := by simpa using m2
  still_call (within_any _ _ _ _)
  repeat still_step
  refine wpStill_nil ?_
  go_wp2_with fail
  refine (must_true 20 x.1.at' _).mono ?_
  rintro e w' ⟨rfl, rfl⟩
  go_wp2_with fail
  refine (within_any _ _ _ _).mono ?_
  rintro e w' ⟨rfl, rfl⟩
  by_cases m3 : 0 ≤ y4.1.fR ∧ y4.1.fR ≤ 4
  rotate_left
  · have n3 : Hd (¬ (0 ≤ y4.1.fR ∧ y4.1.fR ≤ 4)) := m3
    have m3' : decide (0 ≤ y4.1.fR ∧ y4.1.fR ≤ 4) = false := by simpa using m3
    rw [m3']
    go_wp2_with fail
    refine (must_false 20 x.1.at' _).mono ?_
    rintro e w' ⟨rfl, rfl⟩
    go_wp2_with fail
    refine ⟨rfl, hf.drew, ?_⟩
    have hXk : headX M x = .error (20, x.1.at') := by rw [HX.out]; unfold headOk; rw [if_neg (Decidable.not_not.2 n1.out), if_neg (Decidable.not_not.2 n2.out), if_pos n3.out]; rfl
    simp only [hXk]
  have n3 : Hd (0 ≤ y4.1.fR ∧ y4.1.fR ≤ 4) := m3
  have m3' : decide (0 ≤ y4.1.fR ∧ y4.1.fR ≤ 4) = true := by simpa using m3
  rw [m3']
  go_wp2_with fail
  refine (must_true 20 x.1.at' _).mono ?_
  rintro e w' ⟨rfl, rfl⟩
  by_cases m4 : y4.1.len ≤ 4096
  rotate_left
  · have n4 : Hd (¬ (y4.1.len ≤ 4096)) := m4
    have m4' : decide (y4.1.len ≤ 4096) = false := by simpa using m4
    go_wp2_with fail
    refine (must_false 20 x.1.at' _).mono ?_
    rintro e w' ⟨rfl, rfl⟩
    go_wp2_with fail
    refine ⟨rfl, hf.drew, ?_⟩
    have hXk : headX M x = .error (20, x.1.at') := by rw [HX.out]; unfold headOk; rw [if_neg (Decidable.not_not.2 n1.out), if_neg (Decidable.not_not.2 n2.out), if_neg (Decidable.not_not.2 n3.out), if_pos (Int.not_le.2 n4.out)]; rfl
    simp only [hXk]
  have n4 : Hd (y4.1.len ≤ 4096) := m4
  have m4' : decide (y4.1.len ≤ 4096) = true := by simpa using m4
  go_wp2_with fail
  refine (must_true 20 x.1.at' _).mono ?_
  rintro e w' ⟨rfl, rfl⟩
  by_cases m5 : 0 < y4.1.len
  rotate_left
  · have n5 : Hd (¬ (0 < y4.1.len)) := m5
    have m5' : decide (0 < y4.1.len) = false := by simpa using m5
    go_wp2_with fail
    refine (must_false 19 x.1.at' _).mono ?_
    rintro e w' ⟨rfl, rfl⟩
    go_wp2_with fail
    refine ⟨rfl, hf.drew, ?_⟩
    have hXk : headX M x = .error (19, x.1.at') := by rw [HX.out]; unfold headOk; rw [if_neg (Decidable.not_not.2 n1.out), if_neg (Decidable.not_not.2 n2.out), if_neg (Decidable.not_not.2 n3.out), if_neg (Decidable.not_not.2 n4.out), if_pos (Int.not_lt.2 n5.out)]; rfl
    simp only [hXk]
  have n5 : Hd (0 < y4.1.len) := m5
  have m5' : decide (0 < y4.1.len) = true := by simpa using m5
  go_wp2_with fail
  refine (must_true 19 x.1.at' _).mono ?_
  rintro e w' ⟨rfl, rfl⟩
  go_wp2_with fail
  refine (locate_any M y4.1.fV x.1.at' y4 _ hon4.drew).mono ?_
  rintro e w5 ⟨hf5, hres⟩
  have hX5 : Hd (headX M x = locX M y4.1.fV x.1.at' y4) := by
    unfold Hd
    rw [HX.out]; unfold headOk; rw [if_neg (Decidable.not_not.2 n1.out), if_neg (Decidable.not_not.2 n2.out), if_neg (Decidable.not_not.2 n3.out), if_neg (Decidable.not_not.2 n4.out), if_neg (Decidable.not_not.2 n5.out)]; rfl
  cases hx5 : locX M y4.1.fV x.1.at' y4 with
  | error z =>
    simp only [hx5] at hres
    subst hres
    go_wp2_with fail
    refine ⟨rfl, hf.drew.trans hf5, ?_⟩
    simp only [hX5.out, hx5]
  | ok y5 =>
    simp only [hx5] at hres
    obtain ⟨rfl, hon5⟩ := hres
    go_wp2_with fail
    go_end0
    refine ⟨hf.drew.trans hf5, ?_⟩
    simp only [hX5.out, hx5]
    exact ⟨trivial, hon5⟩
end Go.Proofs.YtingenonbkencaaDoor
