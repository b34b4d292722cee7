import Derived.Test.YtingenonbkencaaDoorQB3J
import Derived.Laws.IdiomCopy
set_option linter.unusedVariables false
set_option linter.unusedSimpArgs false
namespace Go.Proofs.YtingenonbkencaaDoor
open Go.RowKit (wrap32 wrap64)
set_option maxRecDepth 100000
set_option maxHeartbeats 2000000
def headOk (s : WS) (p : Int) : X Unit :=
  if ¬ (0 ≤ s.fV ∧ s.fV ≤ 255) then .error (20, p)
  else if ¬ (0 ≤ s.fP ∧ s.fP ≤ (if s.fV < 8 then s.fV else 8)) then .error (20, p)
  else if ¬ (0 ≤ s.fR ∧ s.fR ≤ 4) then .error (20, p)
  else if ¬ s.len ≤ 4096 then .error (20, p)
  else if ¬ 0 < s.len then .error (19, p)
  else .ok ()
def headX {b : Nat} (M : Mode b) (x : WS × M.σ) : X (WS × M.σ) := do
  let y1 ← nextX M 149 1 x
  let y2 ← nextX M 150 1 y1
  let y3 ← nextX M 151 1 y2
  let y4 ← nextX M 153 2 y3
  headOk y4.1 x.1.at'
  locX M y4.1.fV x.1.at' y4
theorem askHead_any {b : Nat} (M : Mode b) (hN : NextOwn M) (x : WS × M.σ) (w : World) (h : On M w x) :
    Calls Tryd.prog 63 #[.pointer (some ⟨b, 0, none⟩)] w (Ends M w (headX M x)) := by
  go_enter Tryd.func63, Tryd.ntmps63
  go_wp2_with fail
  refine (hN 149 (by simp [places]) x 1 _ h (by omega) (by omega)).mono ?_
  rintro e w1 ⟨hf1, hres⟩
  cases hx1 : nextX M 149 1 x with
  | error z =>
    simp only [hx1] at hres
    subst hres
    go_wp2_with fail
    refine ⟨rfl, hf1, ?_⟩
    simp only [headX, hx1, bind, Except.bind]
  | ok y1 =>
  simp only [hx1] at hres
  obtain ⟨rfl, hon1⟩ := hres
  go_wp2_with fail
  refine (hN 150 (by simp [places]) y1 1 _ hon1 (by omega) (by omega)).mono ?_
  rintro e w2 ⟨hf2, hres⟩
  cases hx2 : nextX M 150 1 y1 with
  | error z =>
    simp only [hx2] at hres
    subst hres
    go_wp2_with fail
    refine ⟨rfl, hf1.trans hf2, ?_⟩
    simp only [headX, hx1, hx2, bind, Except.bind]
  | ok y2 =>
  simp only [hx2] at hres
  obtain ⟨rfl, hon2⟩ := hres
  go_wp2_with fail
  refine (hN 151 (by simp [places]) y2 1 _ hon2 (by omega) (by omega)).mono ?_
  rintro e w3 ⟨hf3, hres⟩
  cases hx3 : nextX M 151 1 y2 with
  | error z =>
    simp only [hx3] at hres
    subst hres
    go_wp2_with fail
    refine ⟨rfl, (hf1.trans hf2).trans hf3, ?_⟩
    simp only [headX, hx1, hx2, hx3, bind, Except.bind]
  | ok y3 =>
  simp only [hx3] at hres
  obtain ⟨rfl, hon3⟩ := hres
  go_wp2_with fail
  refine (hN 153 (by simp [places]) y3 2 _ hon3 (by omega) (by omega)).mono ?_
  rintro e w4 ⟨hf4, hres⟩
  have hf : Fr M.SB w w4 := ((hf1.trans hf2).trans hf3).trans hf4
  cases hx4 : nextX M 153 2 y3 with
  | error z =>
    simp only [hx4] at hres
    subst hres
    go_wp2_with fail
    refine ⟨rfl, hf, ?_⟩
    simp only [headX, hx1, hx2, hx3, hx4, bind, Except.bind]
  | ok y4 =>
  simp only [hx4] at hres
  obtain ⟨rfl, hon4⟩ := hres
  have c149 : w4.cell? ⟨b, 149, none⟩ = some (vI y4.1.fP) := hon4.1.facts.2.2.2.2.2.1
  have c150 : w4.cell? ⟨b, 150, none⟩ = some (vI y4.1.fR) := hon4.1.facts.2.2.2.2.2.2.1
  have c151 : w4.cell? ⟨b, 151, none⟩ = some (vI y4.1.fV) := hon4.1.facts.2.2.2.2.2.2.2.1
  have c153 : w4.cell? ⟨b, 153, none⟩ = some (vI y4.1.len) := hon4.1.facts.2.2.2.2.2.2.2.2.2.1
  have hX : headX M x = (headOk y4.1 x.1.at' >>= fun _ => locX M y4.1.fV x.1.at' y4) := by
    simp only [headX, hx1, hx2, hx3, hx4, bind, Except.bind]
  have HX : Hd (headX M x = (headOk y4.1 x.1.at' >>= fun _ => locX M y4.1.fV x.1.at' y4)) := hX
  clear hX hx1 hx2 hx3 hx4 hon1 hon2 hon3 hf1 hf2 hf3 hf4
  go_wp2_with fail
  refine (within_any _ _ _ _).mono ?_
  rintro e w' ⟨rfl, rfl⟩
  by_cases m1 : 0 ≤ y4.1.fV ∧ y4.1.fV ≤ 255
  rotate_left
  · have n1 : Hd (¬ (0 ≤ y4.1.fV ∧ y4.1.fV ≤ 255)) := m1
    have m1' : decide (0 ≤ y4.1.fV ∧ y4.1.fV ≤ 255) = false := by simpa using m1
    rw [m1']
    go_wp2_with fail
    refine (must_false 20 x.1.at' _).mono ?_
    rintro e w' ⟨rfl, rfl⟩
    go_wp2_with fail
    refine ⟨rfl, hf, ?_⟩
    have hXk : headX M x = .error (20, x.1.at') := by rw [HX.out]; unfold headOk; rw [if_pos n1.out]; rfl
    simp only [hXk]
  have n1 : Hd (0 ≤ y4.1.fV ∧ y4.1.fV ≤ 255) := m1
  have m1' : decide (0 ≤ y4.1.fV ∧ y4.1.fV ≤ 255) = true := by simpa using m1
  rw [m1']
  go_wp2_with fail
  refine (must_true 20 x.1.at' _).mono ?_
  rintro e w' ⟨rfl, rfl⟩
  go_wp2_with fail
  refine wp_region_still_tail 11 mixed (by kernel_rfl) ?_
  simp only [List.take_succ_cons, List.take_zero, List.drop_succ_cons, List.drop_zero]
  repeat still_step
  generalize hmn : (if y4.1.fV < 8 then y4.1.fV else 8) = mn
  have HMN : Hd ((if y4.1.fV < 8 then y4.1.fV else 8) = mn) := hmn
  clear hmn
  by_cases m2 : 0 ≤ y4.1.fP ∧ y4.1.fP ≤ mn
  rotate_left
  · have n2' : Hd (¬ (0 ≤ y4.1.fP ∧ y4.1.fP ≤ (if y4.1.fV < 8 then y4.1.fV else 8))) := by unfold Hd; rw [HMN.out]; exact m2
    have m2' : decide (0 ≤ y4.1.fP ∧ y4.1.fP ≤ mn) = false := by simpa using m2
    still_call (within_any _ _ _ _)
    repeat still_step
    refine wpStill_nil ?_
    go_wp2_with fail
    refine (must_false 20 x.1.at' _).mono ?_
    rintro e w' ⟨rfl, rfl⟩
    go_wp2_with fail
    refine ⟨rfl, hf.drew, ?_⟩
    have hXk : headX M x = .error (20, x.1.at') := by rw [HX.out]; unfold headOk; rw [if_neg (Decidable.not_not.2 n1.out), if_pos n2'.out]; rfl
    simp only [hXk]
  have n2 : Hd (0 ≤ y4.1.fP ∧ y4.1.fP ≤ (if y4.1.fV < 8 then y4.1.fV else 8)) := by unfold Hd; rw [HMN.out]; exact m2
  have m2' : decide (0 ≤ y4.1.fP ∧ y4.1.fP ≤ mn) = true := by simpa using m2
  still_call (within_any _ _ _ _)
  repeat still_step
  refine wpStill_nil ?_
  go_wp2_with fail
  refine (must_true 20 x.1.at' _).mono ?_
  rintro e w' ⟨rfl, rfl⟩
  go_wp2_with fail
  refine (within_any _ _ _ _).mono ?_
  rintro e w' ⟨rfl, rfl⟩
  by_cases m3 : 0 ≤ y4.1.fR ∧ y4.1.fR ≤ 4
  rotate_left
  · have n3 : Hd (¬ (0 ≤ y4.1.fR ∧ y4.1.fR ≤ 4)) := m3
    have m3' : decide (0 ≤ y4.1.fR ∧ y4.1.fR ≤ 4) = false := by simpa using m3
    rw [m3']
    go_wp2_with fail
    refine (must_false 20 x.1.at' _).mono ?_
    rintro e w' ⟨rfl, rfl⟩
    go_wp2_with fail
    refine ⟨rfl, hf.drew, ?_⟩
    have hXk : headX M x = .error (20, x.1.at') := by rw [HX.out]; unfold headOk; rw [if_neg (Decidable.not_not.2 n1.out), if_neg (Decidable.not_not.2 n2.out), if_pos n3.out]; rfl
    simp only [hXk]
  have n3 : Hd (0 ≤ y4.1.fR ∧ y4.1.fR ≤ 4) := m3
  have m3' : decide (0 ≤ y4.1.fR ∧ y4.1.fR ≤ 4) = true := by simpa using m3
  rw [m3']
  go_wp2_with fail
  refine (must_true 20 x.1.at' _).mono ?_
  rintro e w' ⟨rfl, rfl⟩
  by_cases m4 : y4.1.len ≤ 4096
  rotate_left
  · have n4 : Hd (¬ (y4.1.len ≤ 4096)) := m4
    have m4' : decide (y4.1.len ≤ 4096) = false := by simpa using m4
    go_wp2_with fail
    refine (must_false 20 x.1.at' _).mono ?_
    rintro e w' ⟨rfl, rfl⟩
    go_wp2_with fail
    refine ⟨rfl, hf.drew, ?_⟩
    have hXk : headX M x = .error (20, x.1.at') := by rw [HX.out]; unfold headOk; rw [if_neg (Decidable.not_not.2 n1.out), if_neg (Decidable.not_not.2 n2.out), if_neg (Decidable.not_not.2 n3.out), if_pos (Int.not_le.2 n4.out)]; rfl
    simp only [hXk]
  have n4 : Hd (y4.1.len ≤ 4096) := m4
  have m4' : decide (y4.1.len ≤ 4096) = true := by simpa using m4
  go_wp2_with fail
  refine (must_true 20 x.1.at' _).mono ?_
  rintro e w' ⟨rfl, rfl⟩
  by_cases m5 : 0 < y4.1.len
  rotate_left
  · have n5 : Hd (¬ (0 < y4.1.len)) := m5
    have m5' : decide (0 < y4.1.len) = false := by simpa using m5
    go_wp2_with fail
    refine (must_false 19 x.1.at' _).mono ?_
    rintro e w' ⟨rfl, rfl⟩
    go_wp2_with fail
    refine ⟨rfl, hf.drew, ?_⟩
    have hXk : headX M x = .error (19, x.1.at') := by rw [HX.out]; unfold headOk; rw [if_neg (Decidable.not_not.2 n1.out), if_neg (Decidable.not_not.2 n2.out), if_neg (Decidable.not_not.2 n3.out), if_neg (Decidable.not_not.2 n4.out), if_pos (Int.not_lt.2 n5.out)]; rfl
    simp only [hXk]
  have n5 : Hd (0 < y4.1.len) := m5
  have m5' : decide (0 < y4.1.len) = true := by simpa using m5
  go_wp2_with fail
  refine (must_true 19 x.1.at' _).mono ?_
  rintro e w' ⟨rfl, rfl⟩
  go_wp2_with fail
  refine (locate_any M y4.1.fV x.1.at' y4 _ hon4.drew).mono ?_
  rintro e w5 ⟨hf5, hres⟩
  have hX5 : Hd (headX M x = locX M y4.1.fV x.1.at' y4) := by
    unfold Hd
    rw [HX.out]; unfold headOk; rw [if_neg (Decidable.not_not.2 n1.out), if_neg (Decidable.not_not.2 n2.out), if_neg (Decidable.not_not.2 n3.out), if_neg (Decidable.not_not.2 n4.out), if_neg (Decidable.not_not.2 n5.out)]; rfl
  cases hx5 : locX M y4.1.fV x.1.at' y4 with
  | error z =>
    simp only [hx5] at hres
    subst hres
    go_wp2_with fail
    refine ⟨rfl, hf.drew.trans hf5, ?_⟩
    simp only [hX5.out, hx5]
  | ok y5 =>
    simp only [hx5] at hres
    obtain ⟨rfl, hon5⟩ := hres
    go_wp2_with fail
    go_end0
    refine ⟨hf.drew.trans hf5, ?_⟩
    simp only [hX5.out, hx5]
    exact ⟨trivial, hon5⟩
set_option maxRecDepth 100000
set_option maxHeartbeats 1000000
def varOk (V v : Int) : Bool := decide (0 ≤ v ∧ v ≤ IntKind.i64.wrap (V - 1))
def oneX {b : Nat} (M : Mode b) (old : Int) (x : WS × M.σ) : X (Int × (WS × M.σ)) :=
  match M.eff x.2 x.1.at' 1 old with
  | .ok (v, st) => if varOk x.1.fV v then .ok (v, ({ x.1 with at' := adv x.1.at' 1 }, st)) else .error (13, x.1.at')
  | .error z => .error z
def EndsAt {b : Nat} (M : Mode b) (w : World) (pb po : Nat) (r : X (Int × (WS × M.σ))) (e : Ending) (w' : World) : Prop :=
  Fr (fun k => M.SB k ∨ k = pb) w w' ∧ match r with
    | .ok (v, y) => e = .returned (.tuple #[]) ∧ On M w' y ∧ w'.heap[pb]? = (w.setCell ⟨pb, po, none⟩ (vI v)).heap[pb]?
    | .error z => e = .panicked (viol z.1 z.2)
theorem variable_other {b : Nat} (M : Mode b) (hO : NextOther M) (pb po : Nat) (hpb : pb ≠ b) (hS : ¬ M.S pb) (hNn : ¬ M.N pb) (x : WS × M.σ) (old : Int) (w : World) (h : On M w x) (hu : w.cell? ⟨pb, po, none⟩ = some (vI old)) (hz : w.frozen? ⟨pb, po, none⟩ = false) :
    Calls Tryd.prog 80 #[.pointer (some ⟨b, 0, none⟩), .pointer (some ⟨pb, po, none⟩)] w (EndsAt M w pb po (oneX M old x)) := by
  go_enter Tryd.func80, Tryd.ntmps80
  go_wp2_with fail
  refine (hO pb po hpb hS hNn x old 1 _ h (by omega) (by omega) hu hz).mono ?_
  rintro e w1 ⟨hf, hres⟩
  cases hx : M.eff x.2 x.1.at' 1 old with
  | error z =>
    simp only [hx] at hres
    subst hres
    go_wp2_with fail
    refine ⟨rfl, hf, ?_⟩
    simp only [oneX, hx]
  | ok vs =>
  obtain ⟨v, st⟩ := vs
  simp only [hx] at hres
  obtain ⟨rfl, hon, hblk⟩ := hres
  have hlt : pb < w.heap.size := cell_lt hu
  have hc : w1.cell? ⟨pb, po, none⟩ = some (vI v) := by
    rw [World.cell?_of_block (a := ⟨pb, po, none⟩) hblk]
    exact World.cell?_setCell_same _ _ _ hu
  have hcV : w1.cell? ⟨b, 151, none⟩ = some (vI x.1.fV) := hon.1.facts.2.2.2.2.2.2.2.1
  have HB : Hd (w1.heap[pb]? = (w.setCell ⟨pb, po, none⟩ (vI v)).heap[pb]?) := hblk
  have HX : Hd (oneX M old x = if varOk x.1.fV v then .ok (v, ({ x.1 with at' := adv x.1.at' 1 }, st)) else .error (13, x.1.at')) := by
    unfold Hd; simp only [oneX, hx]
  clear hblk hx hu hz
  by_cases hm : varOk x.1.fV v = true
  · have hm' : decide (0 ≤ v ∧ v ≤ IntKind.i64.wrap (x.1.fV - 1)) = true := by exact hm
    have HM : Hd (varOk x.1.fV v = true) := hm'
    clear hm
    go_wp2_with fail
    refine wp_region_still_tail 11 mixed (by kernel_rfl) ?_
    simp only [List.take_succ_cons, List.take_zero, List.drop_succ_cons, List.drop_zero]
    repeat still_step
    still_call (within_any _ _ _ _)
    repeat still_step
    refine wpStill_nil ?_
    go_wp2_with fail
    refine (must_true 13 x.1.at' _).mono ?_
    rintro e w' ⟨rfl, rfl⟩
    go_wp2_with fail
    go_end0
    refine ⟨hf.drew, ?_⟩
    rw [HX.out, HM.out, if_pos rfl]
    exact ⟨rfl, hon.drew, HB.out⟩
  · have hm' : decide (0 ≤ v ∧ v ≤ IntKind.i64.wrap (x.1.fV - 1)) = false := by simpa [varOk] using hm
    have HM : Hd (varOk x.1.fV v = false) := hm'
    clear hm
    go_wp2_with fail
    refine wp_region_still_tail 11 mixed (by kernel_rfl) ?_
    simp only [List.take_succ_cons, List.take_zero, List.drop_succ_cons, List.drop_zero]
    repeat still_step
    still_call (within_any _ _ _ _)
    repeat still_step
    refine wpStill_nil ?_
    go_wp2_with fail
    refine (must_false 13 x.1.at' _).mono ?_
    rintro e w' ⟨rfl, rfl⟩
    go_wp2_with fail
    refine ⟨rfl, hf.drew, ?_⟩
    rw [HX.out, HM.out, if_neg (by simp)]
set_option maxRecDepth 100000
set_option maxHeartbeats 2000000
def varsX {b : Nat} (M : Mode b) : List Int → WS × M.σ → X (List Int × (WS × M.σ))
  | [], x => .ok ([], x)
  | old :: r, x => match oneX M old x with
    | .error z => .error z
    | .ok (v, y) => match varsX M r y with
      | .error z => .error z
      | .ok (vs, y') => .ok (v :: vs, y')
def contX {α : Type} (done : List Int) : X (List Int × α) → X (List Int × α)
  | .ok (vs, y) => .ok (done ++ vs, y)
  | .error z => .error z
theorem contX_nil {α : Type} (r : X (List Int × α)) : contX [] r = r := by cases r <;> simp [contX]
theorem contX_cons {b : Nat} (M : Mode b) (done : List Int) (old : Int) (r : List Int) (x y : WS × M.σ) (v : Int) (h : oneX M old x = .ok (v, y)) :
    contX done (varsX M (old :: r) x) = contX (done ++ [v]) (varsX M r y) := by
  simp only [varsX, h]
  cases varsX M r y with
  | error z => rfl
  | ok p => simp [contX]
def WS.getL (s : WS) (o : Nat) : Value := if o = 159 then s.args else s.rets
def WS.setL (s : WS) (o : Nat) (v : Value) : WS := if o = 159 then { s with args := v } else { s with rets := v }
theorem cells_getL (s : WS) (o : Nat) (h : o = 159 ∨ o = 160) : s.cells[o]? = some (s.getL o) := by
  rcases h with rfl | rfl <;> kernel_rfl
theorem cells_setL (s : WS) (o : Nat) (v : Value) (h : o = 159 ∨ o = 160) : s.cells.setIfInBounds o v = (s.setL o v).cells := by
  rcases h with rfl | rfl <;> kernel_rfl
theorem setL_num (s : WS) (o : Nat) (v : Value) : (s.setL o v).num = s.num := by unfold WS.setL; split <;> rfl
theorem setL_at (s : WS) (o : Nat) (v : Value) : (s.setL o v).at' = s.at' := by unfold WS.setL; split <;> rfl
theorem getL_setL (s : WS) (o : Nat) (v : Value) : (s.setL o v).getL o = v := by unfold WS.setL WS.getL; split <;> rfl
theorem getL_at (s : WS) (o : Nat) (p : Int) : ({ s with at' := p } : WS).getL o = s.getL o := rfl
theorem setCell_block {w w' : World} {k : Nat} (o : Nat) (v : Value) (h : w'.heap[k]? = w.heap[k]?) : (w'.setCell ⟨k, o, none⟩ v).heap[k]? = (w.setCell ⟨k, o, none⟩ v).heap[k]? := by
  unfold World.setCell
  simp only [Array.getElem?_modify]
  rw [if_pos trivial, if_pos trivial, h]
theorem setCells_snoc (b : Nat) : ∀ (vs : List Value) (o : Nat) (w : World) (v : Value), w.setCells b o (vs ++ [v]) = (w.setCells b o vs).setCell ⟨b, o + vs.length, none⟩ v
  | [], o, w, v => by simp [World.setCells]
  | u :: r, o, w, v => by
    simp only [List.cons_append, World.setCells, List.length_cons]
    rw [setCells_snoc b r (o + 1)]
    rw [show o + 1 + r.length = o + (r.length + 1) by omega]
theorem setCells_block (k : Nat) : ∀ (vs : List Value) (o : Nat) (w w' : World), w'.heap[k]? = w.heap[k]? → (w'.setCells k o vs).heap[k]? = (w.setCells k o vs).heap[k]?
  | [], _, _, _, h => h
  | v :: r, o, _, _, h => setCells_block k r (o + 1) _ _ (setCell_block o v h)
def Ints (w : World) (pk po : Nat) (l : List Int) : Prop :=
  ∀ i, (h : i < l.length) → w.cell? ⟨pk, po + i, none⟩ = some (vI l[i]) ∧ w.frozen? ⟨pk, po + i, none⟩ = false
def listX {b : Nat} (M : Mode b) (n : Nat) (l : List Int) (x : WS × M.σ) : X (List Int × (WS × M.σ)) :=
  match nextX M 161 1 ({ x.1 with count := l.length }, x.2) with
  | .error z => .error z
  | .ok y => if y.1.count = n then varsX M (if l.length = n then l else List.replicate n 0) y else .error (15, x.1.at')
def EndsK {b : Nat} (M : Mode b) (w : World) (pk po : Nat) (r : X (List Int × (WS × M.σ))) (e : Ending) (w' : World) : Prop :=
  Fr (fun j => M.SB j ∨ j = pk) w w' ∧ match r with
    | .ok (vs, y) => e = .returned (.tuple #[]) ∧ On M w' y ∧ (vs ≠ [] → w'.heap[pk]? = (w.setCells pk po (vs.map vI)).heap[pk]?)
    | .error z => e = .panicked (viol z.1 z.2)
def EndsM {b : Nat} (M : Mode b) (w : World) (o n : Nat) (r : X (List Int × (WS × M.σ))) (e : Ending) (w' : World) : Prop :=
  Fr M.SB w w' ∧ match r with
    | .ok (vs, y) => e = .returned (.tuple #[]) ∧ ∃ g, w.heap.size ≤ g ∧ On M w' (y.1.setL o (.slice (some ⟨g, 0, none⟩) n n), y.2) ∧ w'.heap[g]? = some (.cells (vs.map vI).toArray 3)
    | .error z => e = .panicked (viol z.1 z.2)
theorem list_keep {b : Nat} (M : Mode b) (hN : NextOwn M) (hO : NextOther M) (o n : Nat) (ho : o = 159 ∨ o = 160) (x : WS × M.σ) (w : World) (h : On M w x) (a : Option Addr) (c pk po : Nat) (l : List Int)
    (hsl : x.1.getL o = .slice a l.length c) (hL : l.length = n) (hn : n ≤ 255) (ha : n ≠ 0 → a = some ⟨pk, po, none⟩ ∧ pk ≠ b ∧ ¬ M.S pk ∧ ¬ M.N pk ∧ pk < w.heap.size) (hI : Ints w pk po l) :
    Calls Tryd.prog 100 #[.pointer (some ⟨b, 0, none⟩), .pointer (some ⟨b, o, none⟩), .int .i64 n] w (EndsK M w pk po (listX M n l x)) := by
  subst hL
  have hcl : w.cell? ⟨b, o, none⟩ = some (.slice a l.length c) := by rw [h.1.cell, cells_getL _ _ ho, hsl]
  have hc161 : w.cell? ⟨b, 161, none⟩ = some (vI x.1.count) := h.1.facts.2.2.2.2.2.2.2.2.2.2.2.2.2.2.2.2.2
  have hz161 := h.1.frozen 161
  have hf0 : Fr (· = b) w (w.setCell ⟨b, 161, none⟩ (vI l.length)) := Fr.setCell (Fr.refl (fun k => k = b) w) _ _ (Or.inl rfl)
  have hl0 : Lies (w.setCell ⟨b, 161, none⟩ (vI l.length)) b { x.1 with count := l.length } := h.1.setCell 161 _ (cells_set _ 161 _ (by simp [places]))
  have hon0 : On M (w.setCell ⟨b, 161, none⟩ (vI l.length)) ({ x.1 with count := l.length }, x.2) := h.fr hf0 hl0 rfl rfl
  have hb := h.1.lt
  go_enter Tryd.func100, Tryd.ntmps100
  go_wp2_with fail
  refine (hN 161 (by simp [places]) ({ x.1 with count := l.length }, x.2) 1 _ hon0 (by omega) (by omega)).mono ?_
  rintro e w1 ⟨hf1, hres⟩
  have hfa : Fr M.SB w w1 := (hf0.mono (fun k _ hk => Or.inl hk)).trans hf1
  cases hx1 : nextX M 161 1 ({ x.1 with count := l.length }, x.2) with
  | error z =>
    simp only [hx1] at hres
    subst hres
    go_wp2_with fail
    refine ⟨rfl, hfa.mono (fun _ _ hk => Or.inl hk), ?_⟩
    simp only [listX, hx1]
  | ok y =>
  simp only [hx1] at hres
  obtain ⟨rfl, hon1⟩ := hres
  have hcc : w1.cell? ⟨b, 161, none⟩ = some (vI y.1.count) := hon1.1.facts.2.2.2.2.2.2.2.2.2.2.2.2.2.2.2.2.2
  have hyL : y.1.getL o = .slice a l.length c := by
    obtain ⟨v, st, rfl⟩ := nextX_num hx1
    rcases ho with rfl | rfl <;> exact hsl
  have hcl1 : w1.cell? ⟨b, o, none⟩ = some (.slice a l.length c) := by rw [hon1.1.cell, cells_getL _ _ ho, hyL]
  have HL : Hd (listX M l.length l x = if y.1.count = (l.length : Nat) then varsX M l y else .error (15, x.1.at')) := by
    unfold Hd; simp only [listX, hx1, if_true]
  clear hx1
  by_cases hm : y.1.count = (l.length : Nat)
  rotate_left
  · have hm' : (y.1.count == ((l.length : Nat) : Int)) = false := by simpa using hm
    have HM : Hd (¬ y.1.count = (l.length : Nat)) := hm
    clear hm
    go_wp2_with fail
    refine (must_false 15 x.1.at' _).mono ?_
    rintro e w' ⟨rfl, rfl⟩
    go_wp2_with fail
    refine ⟨rfl, hfa.mono (fun _ _ hk => Or.inl hk), ?_⟩
    rw [HL.out, if_neg HM.out]
  have hm' : (y.1.count == ((l.length : Nat) : Int)) = true := by simpa using hm
  have HLV : Hd (listX M l.length l x = varsX M l y) := by unfold Hd; rw [HL.out, if_pos hm]
  clear hm HL
  go_wp2_with fail
  refine (must_true 15 x.1.at' _).mono ?_
  rintro e w' ⟨rfl, rfl⟩
  go_wp2_with fail
  have hI1 : Ints w' pk po l := fun i hi => by
    obtain ⟨-, hpkb, hpS, hpN, hplt⟩ := ha (by omega)
    have hSB : ¬ M.SB pk := fun h => h.elim hpkb hpS
    exact ⟨(hfa.cell hplt hSB).trans (hI i hi).1, (hfa.frozen hplt hSB).trans (hI i hi).2⟩
  go_loopw [42] (fun i wr => ∃ (k : Nat) (done : List Int) (z : WS × M.σ), k ≤ l.length ∧ i = .int .i64 k ∧ done.length = k ∧ On M wr z ∧ Hd (z.1 = { y.1 with at' := z.1.at' }) ∧ Fr (fun j => M.SB j ∨ j = pk) w' wr ∧
      Hd (l ≠ [] → wr.heap[pk]? = (w'.setCells pk po (done.map vI)).heap[pk]?) ∧ Hd (varsX M l y = contX done (varsX M (l.drop k) z))) (fun i _ => match i with | .int _ q => l.length - q.toNat | _ => 0)
  case atStart => exact ⟨0, [], y, Nat.zero_le _, rfl, rfl, hon1, rfl, Fr.refl _ _, fun _ => rfl, by unfold Hd; rw [contX_nil]; rfl⟩
  case round =>
    obtain ⟨k, done, z, hk, rfl, hdl, honz, hz1, hfz, hblk, hvx⟩ := hrel
    have hclz : wr.cell? ⟨b, o, none⟩ = some (.slice a l.length c) := by
      rw [honz.1.cell, cells_getL _ _ ho, hz1.out, getL_at, hyL]
    by_cases hlt : k < l.length
    · obtain ⟨rfl, hpkb, hpS, hpN, hplt⟩ := ha (by omega)
      have hne : l ≠ [] := by intro e; simp [e] at hlt
      have hce : wr.cell? ⟨pk, po + k, none⟩ = some (vI l[k]) := by
        rw [World.cell?_of_block (a := ⟨pk, po + k, none⟩) (hblk.out hne), World.cell?_setCells_out _ _ _ _ _ (fun _ _ => Or.inr (by simp; omega))]
        exact (hI1 k hlt).1
      have hfe : wr.frozen? ⟨pk, po + k, none⟩ = false := by
        rw [World.frozen?_of_block (a := ⟨pk, po + k, none⟩) (hblk.out hne), World.frozen?_setCells]
        exact (hI1 k hlt).2
      have hdrop : Hd (l.drop k = l[k] :: l.drop (k + 1)) := List.drop_eq_getElem_cons hlt
      generalize hlk : l[k] = lk at hce hdrop
      clear hlk
      have hcdz := variable_other M hO pk (po + k) hpkb hpS hpN z lk wr honz hce hfe
      go_wp2_with fail
      refine hcdz.mono ?_
      rintro e w2 ⟨hf2, hres⟩
      cases hox : oneX M lk z with
      | error er =>
        simp only [hox] at hres
        subst hres
        go_wp2_with fail
        refine ⟨rfl, ((hfa.mono (fun _ _ hk => Or.inl hk)).trans hfz).trans hf2, ?_⟩
        rw [HLV.out, hvx.out, hdrop.out]
        simp only [varsX, hox, contX]
      | ok vz =>
        obtain ⟨v, z2⟩ := vz
        simp only [hox] at hres
        obtain ⟨rfl, hon2, hb2⟩ := hres
        have hz2 : Hd (z2.1 = { y.1 with at' := z2.1.at' }) := by
          unfold Hd
          unfold oneX at hox
          split at hox
          · split at hox
            · have := (Prod.mk.inj (Except.ok.inj hox)).2
              rw [← this]
              simp only
              rw [hz1.out]
            · cases hox
          · cases hox
        have hvx2 : Hd (varsX M l y = contX (done ++ [v]) (varsX M (l.drop (k + 1)) z2)) := by
          unfold Hd; rw [hvx.out, hdrop.out]; exact contX_cons M done lk _ z z2 v hox
        have hb3 : Hd (l ≠ [] → w2.heap[pk]? = (w'.setCells pk po ((done ++ [v]).map vI)).heap[pk]?) := fun _ => by
          rw [hb2, List.map_append, List.map_cons, List.map_nil, setCells_snoc, List.length_map, hdl]
          exact setCell_block _ _ (hblk.out hne)
        clear hcdz hce hfe hox hb2 hblk hvx
        go_wp2_with fail
        exact ⟨⟨k + 1, done ++ [v], z2, by omega, by simp, by simp [hdl], hon2, hz2, hfz.trans hf2, hb3, hvx2⟩, by simp; omega⟩
    · have hkl : k = l.length := by omega
      subst hkl
      have hvl : Hd (varsX M l y = .ok (done, z)) := by
        unfold Hd; rw [hvx.out, List.drop_length]; simp [varsX, contX]
      clear hvx
      go_wp2_with fail
      go_end0
      refine ⟨(hfa.mono (fun _ _ hk => Or.inl hk)).trans hfz, ?_⟩
      rw [HLV.out, hvl.out]
      exact ⟨rfl, honz, fun hvs => by
        have hne : l ≠ [] := by intro e; apply hvs; rw [e] at hdl; exact List.length_eq_zero_iff.1 hdl
        obtain ⟨-, hpkb, hpS, hpN, hplt⟩ := ha (by intro e; exact hne (List.length_eq_zero_iff.1 e))
        rw [hblk.out hne]
        exact setCells_block pk _ po _ _ (hfa.block pk hplt (fun h => h.elim hpkb hpS))⟩
end Go.Proofs.YtingenonbkencaaDoor
