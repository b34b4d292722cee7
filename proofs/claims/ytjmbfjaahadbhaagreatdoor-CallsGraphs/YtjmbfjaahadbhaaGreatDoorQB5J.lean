import Derived.Test.YtjmbfjaahadbhaaGreatDoorQA3J
import Derived.Laws.IdiomCopy
import Derived.Laws.MakeOwn
import Derived.Deep.AppendLies
import Derived.Deep.Onto
import Derived.Deep.DeepCutAuto
import Derived.Deep.RegionHeld3
import Derived.Test.YtjmbfjaahadbhaaGreatDoorRows
import Derived.Test.YtjmbfjaahadbhaaGreatDoorCards
import Derived.Test.YtjmbfjaahadbhaaGreatDoorTie
import Derived.ProofKit
import Derived.OpenShut
import Derived.ChangeOld
import Derived.Below
import Derived.Carry
import Derived.JoinedCond
import Derived.Deep.DeepHandedRow
import Derived.Lib.LaidTab
import Derived.BigFrame
set_option linter.unusedVariables false
set_option linter.unusedSimpArgs false
namespace Go.Proofs.YtjmbfjaahadbhaaGreatDoor
open Go.RowKit (wrap32 wrap64)

/-- A head's numbers, as they are asked. -/
def headOk (s : WS) (p : Int) : X Unit :=
  if ¬ (0 ≤ s.fV ∧ s.fV ≤ 255) then .error (20, p)
  else if ¬ (0 ≤ s.fP ∧ s.fP ≤ (if s.fV < 8 then s.fV else 8)) then .error (20, p)
  else if ¬ (0 ≤ s.fR ∧ s.fR ≤ 4) then .error (20, p)
  else if ¬ s.len ≤ 4096 then .error (20, p)
  else if ¬ 0 < s.len then .error (19, p)
  else .ok ()

def headX {b : Nat} (M : Mode b) (x : WS × M.σ) : X (WS × M.σ) := do
  let y1 ← nextX M 149 1 x
  let y2 ← nextX M 150 1 y1
  let y3 ← nextX M 151 1 y2
  let y4 ← nextX M 153 2 y3
  headOk y4.1 x.1.at'
  locX M y4.1.fV x.1.at' y4

set_option maxRecDepth 100000 in
set_option maxHeartbeats 2000000 in
theorem askHead_any {b : Nat} (M : Mode b) (hN : NextOwn M) (x : WS × M.σ) (w : World) (h : On M w x) :
    Calls Tryz.prog 64 #[.pointer (some ⟨b, 0, none⟩)] w (Ends M w (headX M x)) := by
  go_enter Tryz.func64, Tryz.ntmps64
  go_wp2_with fail
  refine (hN 149 (by simp [places]) x 1 _ h (by omega) (by omega)).mono ?_
  rintro e w1 ⟨hf1, hres⟩
  cases hx1 : nextX M 149 1 x with
  | error z =>
    simp only [hx1] at hres
    subst hres
    go_wp2_with fail
    refine ⟨rfl, hf1, ?_⟩
    simp only [headX, hx1, bind, Except.bind]
  | ok y1 =>
  simp only [hx1] at hres
  obtain ⟨rfl, hon1⟩ := hres
  go_wp2_with fail
  refine (hN 150 (by simp [places]) y1 1 _ hon1 (by omega) (by omega)).mono ?_
  rintro e w2 ⟨hf2, hres⟩
  cases hx2 : nextX M 150 1 y1 with
  | error z =>
    simp only [hx2] at hres
    subst hres
    go_wp2_with fail
    refine ⟨rfl, hf1.trans hf2, ?_⟩
    simp only [headX, hx1, hx2, bind, Except.bind]
  | ok y2 =>
  simp only [hx2] at hres
  obtain ⟨rfl, hon2⟩ := hres
  go_wp2_with fail
  refine (hN 151 (by simp [places]) y2 1 _ hon2 (by omega) (by omega)).mono ?_
  rintro e w3 ⟨hf3, hres⟩
  cases hx3 : nextX M 151 1 y2 with
  | error z =>
    simp only [hx3] at hres
    subst hres
    go_wp2_with fail
    refine ⟨rfl, (hf1.trans hf2).trans hf3, ?_⟩
    simp only [headX, hx1, hx2, hx3, bind, Except.bind]
  | ok y3 =>
  simp only [hx3] at hres
  obtain ⟨rfl, hon3⟩ := hres
  go_wp2_with fail
  refine (hN 153 (by simp [places]) y3 2 _ hon3 (by omega) (by omega)).mono ?_
  rintro e w4 ⟨hf4, hres⟩
  have hf : Fr M.SB w w4 := ((hf1.trans hf2).trans hf3).trans hf4
  cases hx4 : nextX M 153 2 y3 with
  | error z =>
    simp only [hx4] at hres
    subst hres
    go_wp2_with fail
    refine ⟨rfl, hf, ?_⟩
    simp only [headX, hx1, hx2, hx3, hx4, bind, Except.bind]
  | ok y4 =>
  simp only [hx4] at hres
  obtain ⟨rfl, hon4⟩ := hres
  have c149 : w4.cell? ⟨b, 149, none⟩ = some (vI y4.1.fP) := hon4.1.facts.2.2.2.2.2.1
  have c150 : w4.cell? ⟨b, 150, none⟩ = some (vI y4.1.fR) := hon4.1.facts.2.2.2.2.2.2.1
  have c151 : w4.cell? ⟨b, 151, none⟩ = some (vI y4.1.fV) := hon4.1.facts.2.2.2.2.2.2.2.1
  have c153 : w4.cell? ⟨b, 153, none⟩ = some (vI y4.1.len) := hon4.1.facts.2.2.2.2.2.2.2.2.2.1
  have hX : headX M x = (headOk y4.1 x.1.at' >>= fun _ => locX M y4.1.fV x.1.at' y4) := by
    simp only [headX, hx1, hx2, hx3, hx4, bind, Except.bind]
  have HX : Hd (headX M x = (headOk y4.1 x.1.at' >>= fun _ => locX M y4.1.fV x.1.at' y4)) := hX
  clear hX hx1 hx2 hx3 hx4 hon1 hon2 hon3 hf1 hf2 hf3 hf4
  go_wp2_with fail
  refine (within_any _ _ _ _).mono ?_
  rintro e w' ⟨rfl, rfl⟩
  by_cases m1 : 0 ≤ y4.1.fV ∧ y4.1.fV ≤ 255
  rotate_left
  · have n1 : Hd (¬ (0 ≤ y4.1.fV ∧ y4.1.fV ≤ 255)) := m1
    have m1' : decide (0 ≤ y4.1.fV ∧ y4.1.fV ≤ 255) = false := by simpa using m1
    rw [m1']
    go_wp2_with fail
    refine (must_false 20 x.1.at' _).mono ?_
    rintro e w' ⟨rfl, rfl⟩
    go_wp2_with fail
    refine ⟨rfl, hf, ?_⟩
    have hXk : headX M x = .error (20, x.1.at') := by rw [HX.out]; unfold headOk; rw [if_pos n1.out]; rfl
    simp only [hXk]
  have n1 : Hd (0 ≤ y4.1.fV ∧ y4.1.fV ≤ 255) := m1
  have m1' : decide (0 ≤ y4.1.fV ∧ y4.1.fV ≤ 255) = true := by simpa using m1
  rw [m1']
  go_wp2_with fail
  refine (must_true 20 x.1.at' _).mono ?_
  rintro e w' ⟨rfl, rfl⟩
  go_wp2_with fail
  refine wp_region_still_tail 11 mixed (by kernel_rfl) ?_
  simp only [List.take_succ_cons, List.take_zero, List.drop_succ_cons, List.drop_zero]
  repeat still_step
  generalize hmn : (if y4.1.fV < 8 then y4.1.fV else 8) = mn
  have HMN : Hd ((if y4.1.fV < 8 then y4.1.fV else 8) = mn) := hmn
  clear hmn
  by_cases m2 : 0 ≤ y4.1.fP ∧ y4.1.fP ≤ mn
  rotate_left
  · have n2' : Hd (¬ (0 ≤ y4.1.fP ∧ y4.1.fP ≤ (if y4.1.fV < 8 then y4.1.fV else 8))) := by unfold Hd; rw [HMN.out]; exact m2
    have m2' : decide (0 ≤ y4.1.fP ∧ y4.1.fP ≤ mn) = false := by simpa using m2
    still_call (within_any _ _ _ _)
    repeat still_step
    refine wpStill_nil ?_
    go_wp2_with fail
    refine (must_false 20 x.1.at' _).mono ?_
    rintro e w' ⟨rfl, rfl⟩
    go_wp2_with fail
    refine ⟨rfl, hf.drew, ?_⟩
    have hXk : headX M x = .error (20, x.1.at') := by rw [HX.out]; unfold headOk; rw [if_neg (Decidable.not_not.2 n1.out), if_pos n2'.out]; rfl
    simp only [hXk]
  have n2 : Hd (0 ≤ y4.1.fP ∧ y4.1.fP ≤ (if y4.1.fV < 8 then y4.1.fV else 8)) := by unfold Hd; rw [HMN.out]; exact m2
  have m2' : decide (0 ≤ y4.1.fP ∧ y4.1.fP ≤ mn) = true := by simpa using m2
  still_call (within_any _ _ _ _)
  repeat still_step
  refine wpStill_nil ?_
  go_wp2_with fail
  refine (must_true 20 x.1.at' _).mono ?_
  rintro e w' ⟨rfl, rfl⟩
  go_wp2_with fail
  refine (within_any _ _ _ _).mono ?_
  rintro e w' ⟨rfl, rfl⟩
  by_cases m3 : 0 ≤ y4.1.fR ∧ y4.1.fR ≤ 4
  rotate_left
  · have n3 : Hd (¬ (0 ≤ y4.1.fR ∧ y4.1.fR ≤ 4)) := m3
    have m3' : decide (0 ≤ y4.1.fR ∧ y4.1.fR ≤ 4) = false := by simpa using m3
    rw [m3']
    go_wp2_with fail
    refine (must_false 20 x.1.at' _).mono ?_
    rintro e w' ⟨rfl, rfl⟩
    go_wp2_with fail
    refine ⟨rfl, hf.drew, ?_⟩
    have hXk : headX M x = .error (20, x.1.at') := by rw [HX.out]; unfold headOk; rw [if_neg (Decidable.not_not.2 n1.out), if_neg (Decidable.not_not.2 n2.out), if_pos n3.out]; rfl
    simp only [hXk]
  have n3 : Hd (0 ≤ y4.1.fR ∧ y4.1.fR ≤ 4) := m3
  have m3' : decide (0 ≤ y4.1.fR ∧ y4.1.fR ≤ 4) = true := by simpa using m3
  rw [m3']
  go_wp2_with fail
  refine (must_true 20 x.1.at' _).mono ?_
  rintro e w' ⟨rfl, rfl⟩
  by_cases m4 : y4.1.len ≤ 4096
  rotate_left
  · have n4 : Hd (¬ (y4.1.len ≤ 4096)) := m4
    have m4' : decide (y4.1.len ≤ 4096) = false := by simpa using m4
    go_wp2_with fail
    refine (must_false 20 x.1.at' _).mono ?_
    rintro e w' ⟨rfl, rfl⟩
    go_wp2_with fail
    refine ⟨rfl, hf.drew, ?_⟩
    have hXk : headX M x = .error (20, x.1.at') := by rw [HX.out]; unfold headOk; rw [if_neg (Decidable.not_not.2 n1.out), if_neg (Decidable.not_not.2 n2.out), if_neg (Decidable.not_not.2 n3.out), if_pos (Int.not_le.2 n4.out)]; rfl
    simp only [hXk]
  have n4 : Hd (y4.1.len ≤ 4096) := m4
  have m4' : decide (y4.1.len ≤ 4096) = true := by simpa using m4
  go_wp2_with fail
  refine (must_true 20 x.1.at' _).mono ?_
  rintro e w' ⟨rfl, rfl⟩
  by_cases m5 : 0 < y4.1.len
  rotate_left
  · have n5 : Hd (¬ (0 < y4.1.len)) := m5
    have m5' : decide (0 < y4.1.len) = false := by simpa using m5
    go_wp2_with fail
    refine (must_false 19 x.1.at' _).mono ?_
    rintro e w' ⟨rfl, rfl⟩
    go_wp2_with fail
    refine ⟨rfl, hf.drew, ?_⟩
    have hXk : headX M x = .error (19, x.1.at') := by rw [HX.out]; unfold headOk; rw [if_neg (Decidable.not_not.2 n1.out), if_neg (Decidable.not_not.2 n2.out), if_neg (Decidable.not_not.2 n3.out), if_neg (Decidable.not_not.2 n4.out), if_pos (Int.not_lt.2 n5.out)]; rfl
    simp only [hXk]
  have n5 : Hd (0 < y4.1.len) := m5
  have m5' : decide (0 < y4.1.len) = true := by simpa using m5
  go_wp2_with fail
  refine (must_true 19 x.1.at' _).mono ?_
  rintro e w' ⟨rfl, rfl⟩
  go_wp2_with fail
  refine (locate_any M y4.1.fV x.1.at' y4 _ hon4.drew).mono ?_
  rintro e w5 ⟨hf5, hres⟩
  have hX5 : Hd (headX M x = locX M y4.1.fV x.1.at' y4) := by
    unfold Hd
    rw [HX.out]; unfold headOk; rw [if_neg (Decidable.not_not.2 n1.out), if_neg (Decidable.not_not.2 n2.out), if_neg (Decidable.not_not.2 n3.out), if_neg (Decidable.not_not.2 n4.out), if_neg (Decidable.not_not.2 n5.out)]; rfl
  cases hx5 : locX M y4.1.fV x.1.at' y4 with
  | error z =>
    simp only [hx5] at hres
    subst hres
    go_wp2_with fail
    refine ⟨rfl, hf.drew.trans hf5, ?_⟩
    simp only [hX5.out, hx5]
  | ok y5 =>
    simp only [hx5] at hres
    obtain ⟨rfl, hon5⟩ := hres
    go_wp2_with fail
    go_end0
    refine ⟨hf.drew.trans hf5, ?_⟩
    simp only [hX5.out, hx5]
    exact ⟨trivial, hon5⟩

def varOk (V v : Int) : Bool := decide (0 ≤ v ∧ v ≤ IntKind.i64.wrap (V - 1))


def WS.getL (s : WS) (o : Nat) : Value := if o = 159 then s.args else s.rets
def WS.setL (s : WS) (o : Nat) (v : Value) : WS := if o = 159 then { s with args := v } else { s with rets := v }

theorem cells_getL (s : WS) (o : Nat) (h : o = 159 ∨ o = 160) : s.cells[o]? = some (s.getL o) := by
  rcases h with rfl | rfl <;> kernel_rfl
/-- Ints that lie in a row: the cells may be written. -/
def Ints (w : World) (pk po : Nat) (l : List Int) : Prop :=
  ∀ i, (h : i < l.length) → w.cell? ⟨pk, po + i, none⟩ = some (vI l[i]) ∧ w.frozen? ⟨pk, po + i, none⟩ = false


theorem run_make_of (t e : TypeId) (z : Value) (size bytes : Nat) (ht : Tryz.prog.underlying t = some (.slice e)) (hz : (Tryz.prog.info? e).map (·.zero) = some (some z)) (hs : (Tryz.prog.info? e).map (·.size) = some size) (hb : (Tryz.prog.info? e).map (·.bytes) = some bytes)
    (n : Nat) (hn : bytes * n ≤ 281474976710656) (hn' : n ≤ 1000000000000000) (w : World) :
    (Instr.makeSlice t (.int .i64 n) (.int .i64 n)).run Tryz.prog w = .ok (.slice (some ⟨w.heap.size, 0, none⟩) n n) (w.alloc (.cells (madeCells z.cells (n * size)) e)) := by
  cases hi : Tryz.prog.info? e with
  | none => rw [hi] at hz; cases hz
  | some i =>
    rw [hi] at hz hs hb
    simp only [Option.map_some, Option.some.injEq] at hz hs hb
    have := run_make (P := Tryz.prog) w t e i z ht hi hz .i64 .i64 n n (by omega) (by omega) (by rw [hb, ← Int.natCast_mul]; omega) (by omega)
    rw [this, hs]
    simp


/-! ### blocks -/
theorem heap_new (w : World) (o : Obj) : (w.alloc o).heap[w.heap.size]? = some o := (MapKept.heap_alloc w o).1
theorem heap_lt {w : World} {k : Nat} {o : Obj} (h : w.heap[k]? = some o) : k < w.heap.size := (Array.getElem?_eq_some_iff.1 h).1
theorem cell_of {w : World} {k : Nat} {cs : Array Value} {t : TypeId} (h : w.heap[k]? = some (.cells cs t)) (o : Nat) : w.cell? ⟨k, o, none⟩ = cs[o]? := by
  unfold World.cell?; rw [h]; simp
theorem frozen_of {w : World} {k : Nat} {cs : Array Value} {t : TypeId} (h : w.heap[k]? = some (.cells cs t)) (o : Nat) : w.frozen? ⟨k, o, none⟩ = false := by
  unfold World.frozen?; rw [h]; simp
theorem set_of {w : World} {k : Nat} {cs : Array Value} {t : TypeId} (h : w.heap[k]? = some (.cells cs t)) (o : Nat) (v : Value) : (w.setCell ⟨k, o, none⟩ v).heap[k]? = some (.cells (cs.setIfInBounds o v) t) := by
  unfold World.setCell
  simp only [Array.getElem?_modify]
  rw [if_pos trivial, h]
  rfl
theorem Fr.then {S S' : Nat → Prop} {a b c : World} (h : Fr S a b) (k : Fr S' b c) (hs : ∀ j, j < a.heap.size → S' j → S j) : Fr S a c :=
  ⟨k.os.trans h.os, k.tape.trans h.tape, k.output.trans h.output, Nat.le_trans h.size k.size, fun j hj hS => (k.block j (Nat.lt_of_lt_of_le hj h.size) (fun e => hS (hs j hj e))).trans (h.block j hj hS)⟩
theorem setCell_fr (w : World) (k o : Nat) (u : Value) : Fr (fun j => j = k) w (w.setCell ⟨k, o, none⟩ u) := Fr.setCell (S := fun j => j = k) (Fr.refl _ w) _ _ (Or.inl rfl)

/-- A block of m rows of sz cells each. -/
def Rws (w : World) (t sz g m : Nat) (R : Nat → List Value) : Prop := ∃ cs : Array Value, w.heap[g]? = some (.cells cs t) ∧ cs.size = m * sz ∧ ∀ i o, i < m → o < sz → cs[i * sz + o]? = some ((R i).getD o undef)

theorem Rws.lt {w : World} {t sz g m : Nat} {R : Nat → List Value} (h : Rws w t sz g m R) : g < w.heap.size := by obtain ⟨cs, h, -⟩ := h; exact heap_lt h
theorem Rws.cell {w : World} {t sz g m : Nat} {R : Nat → List Value} (h : Rws w t sz g m R) {i o : Nat} (hi : i < m) (ho : o < sz) : w.cell? ⟨g, i * sz + o, none⟩ = some ((R i).getD o undef) := by
  obtain ⟨cs, h, -, hc⟩ := h; rw [cell_of h]; exact hc i o hi ho
theorem Rws.frozen {w : World} {t sz g m : Nat} {R : Nat → List Value} (h : Rws w t sz g m R) (q : Nat) : w.frozen? ⟨g, q, none⟩ = false := by
  obtain ⟨cs, h, -⟩ := h; exact frozen_of h q
theorem Rws.fr {S : Nat → Prop} {w w' : World} {t sz g m : Nat} {R : Nat → List Value} (h : Rws w t sz g m R) (f : Fr S w w') (hS : ¬ S g) : Rws w' t sz g m R := by
  have hl := h.lt
  obtain ⟨cs, h, h2⟩ := h; exact ⟨cs, (f.block g hl hS).trans h, h2⟩
theorem Rws.congr {w : World} {t sz g m : Nat} {R R' : Nat → List Value} (h : Rws w t sz g m R) (e : ∀ i, i < m → R i = R' i) : Rws w t sz g m R' := by
  obtain ⟨cs, h, h2, h3⟩ := h
  exact ⟨cs, h, h2, fun i o hi ho => by rw [h3 i o hi ho, e i hi]⟩
/-- Another at one place. -/
def at1 {α : Type} (f : Nat → α) (i : Nat) (x : α) : Nat → α := fun j => if j = i then x else f j
theorem at1_self {α : Type} (f : Nat → α) (i : Nat) (x : α) : at1 f i x i = x := if_pos rfl
theorem at1_ne {α : Type} (f : Nat → α) {i j : Nat} (x : α) (h : j ≠ i) : at1 f i x j = f j := if_neg h
theorem at1_at1 {α : Type} (f : Nat → α) (i : Nat) (x y : α) : at1 (at1 f i x) i y = at1 f i y := by
  funext j; unfold at1; split <;> rfl
theorem row_index {sz i j o q : Nat} (ho : o < sz) (hq : q < sz) (h : i * sz + o = j * sz + q) : i = j ∧ o = q := by
  have e1 : (i * sz + o) / sz = i := by rw [Nat.mul_comm, Nat.mul_add_div (by omega), Nat.div_eq_of_lt ho]; rfl
  have e2 : (j * sz + q) / sz = j := by rw [Nat.mul_comm, Nat.mul_add_div (by omega), Nat.div_eq_of_lt hq]; rfl
  have : i = j := by rw [← e1, ← e2, h]
  subst this
  exact ⟨rfl, by omega⟩
theorem Rws.set1 {w : World} {t sz g m : Nat} {R : Nat → List Value} (h : Rws w t sz g m R) {i o : Nat} (hi : i < m) (ho : o < sz) (hl : (R i).length = sz) (v : Value) : Rws (w.setCell ⟨g, i * sz + o, none⟩ v) t sz g m (at1 R i ((R i).set o v)) := by
  obtain ⟨cs, h, h2, h3⟩ := h
  have hlt : i * sz + o < m * sz := by
    have : (i + 1) * sz ≤ m * sz := Nat.mul_le_mul_right _ hi
    rw [Nat.add_mul] at this; omega
  refine ⟨cs.setIfInBounds (i * sz + o) v, set_of h _ v, by simpa using h2, fun j q hj hq => ?_⟩
  rw [Array.getElem?_setIfInBounds]
  by_cases e : i * sz + o = j * sz + q
  · obtain ⟨rfl, rfl⟩ := row_index ho hq e
    rw [if_pos rfl, if_pos (by omega), at1_self]
    simp [List.getD_eq_getElem?_getD, hl, ho]
  · rw [if_neg e, h3 j q hj hq]
    by_cases ej : j = i
    · subst ej
      have : o ≠ q := fun eo => e (by rw [eo])
      rw [at1_self]
      simp [List.getD_eq_getElem?_getD, List.getElem?_set_ne this]
    · rw [at1_ne _ _ ej]

/-- Numbers that lie somewhere. -/
def IA (w : World) (v : Value) (l : List Int) : Prop :=
  ∃ a c, v = .slice a l.length c ∧ (l ≠ [] → ∃ k o, a = some ⟨k, o, none⟩ ∧ k < w.heap.size ∧ ∀ j (h : j < l.length), w.cell? ⟨k, o + j, none⟩ = some (vI l[j]))
theorem IA.fr {S : Nat → Prop} {w w' : World} {v : Value} {l : List Int} (h : IA w v l) (f : Fr S w w') (hS : ∀ k, v.ownBlock = some k → ¬ S k) : IA w' v l := by
  obtain ⟨a, c, rfl, h⟩ := h
  refine ⟨a, c, rfl, fun hne => ?_⟩
  obtain ⟨k, o, rfl, hk, hc⟩ := h hne
  exact ⟨k, o, rfl, Nat.lt_of_lt_of_le hk f.size, fun j hj => (f.cell hk (hS k rfl)).trans (hc j hj)⟩
theorem IA.stay {w w' : World} {v : Value} {l : List Int} (h : IA w v l) (f : Fr (fun _ => False) w w') : IA w' v l := h.fr f (fun _ _ e => e)

/-- Numbers of one's own, with marks behind. -/
def wideI (l : List Int) (i : Nat) : Int := if i < l.length then l.getD i 0 else -123456
def WI (w : World) (B : Nat) (v : Value) (l : List Int) : Prop := ∃ g, v = .slice (some ⟨g, 0, none⟩) l.length (l.length + 64) ∧ B ≤ g ∧ Rws w 3 1 g (l.length + 64) (fun i => [vI (wideI l i)])
theorem WI.fr {S : Nat → Prop} {w w' : World} {B : Nat} {v : Value} {l : List Int} (h : WI w B v l) (f : Fr S w w') (hS : ∀ k, v.ownBlock = some k → ¬ S k) : WI w' B v l := by
  obtain ⟨g, rfl, h1, h2⟩ := h
  exact ⟨g, rfl, h1, h2.fr f (hS g rfl)⟩
theorem WI.mono {w : World} {B B' : Nat} {v : Value} {l : List Int} (h : WI w B v l) (hB : B' ≤ B) : WI w B' v l := by
  obtain ⟨g, rfl, h1, h2⟩ := h
  exact ⟨g, rfl, by omega, h2⟩
theorem WI.ia {w : World} {B : Nat} {v : Value} {l : List Int} (h : WI w B v l) : IA w v l := by
  obtain ⟨g, rfl, h1, h2⟩ := h
  refine ⟨_, _, rfl, fun _ => ⟨g, 0, rfl, h2.lt, fun j hj => ?_⟩⟩
  have := h2.cell (i := j) (o := 0) (by omega) (by omega)
  rw [Nat.mul_one, Nat.add_zero] at this
  rw [Nat.zero_add, this]
  simp [wideI, hj]
theorem WI.ge {w : World} {B : Nat} {v : Value} {l : List Int} (h : WI w B v l) : ∀ k, v.ownBlock = some k → B ≤ k ∧ k < w.heap.size := by
  obtain ⟨g, rfl, h1, h2⟩ := h
  intro k e; cases e; exact ⟨h1, h2.lt⟩

theorem under64 : Tryz.prog.underlying 25 = some (.slice 3) := by kernel_rfl
theorem make64 (n : Nat) (hn : n ≤ 20000000000000) (w : World) : (Instr.makeSlice 25 (.int .i64 n) (.int .i64 n)).run Tryz.prog w = .ok (.slice (some ⟨w.heap.size, 0, none⟩) n n) (w.alloc (.cells (Array.replicate n (vI 0)) 3)) := by
  rw [run_make_of 25 3 (vI 0) 1 8 under64 (by kernel_rfl) (by kernel_rfl) (by kernel_rfl) n (by omega) (by omega) w, Nat.mul_one]
  congr 2
  congr 1
  unfold madeCells
  apply Array.ext
  · simp
  · intro i h1 h2
    simp [Nat.mod_one, Value.cells]
theorem Rws.made (w : World) (t m : Nat) (v : Value) : Rws (w.alloc (.cells (Array.replicate m v) t)) t 1 w.heap.size m (fun _ => [v]) :=
  ⟨_, heap_new w _, by simp, fun i o hi ho => by
    obtain rfl : o = 0 := by omega
    rw [Nat.mul_one, Nat.add_zero]
    simp [Array.getElem?_replicate, hi]⟩


/-- Numbers of one's own. -/
def IOwn (w : World) (B : Nat) (v : Value) (l : List Int) : Prop := w.ownsRow B 3 1 v l.length (l.map vI)
theorem ownsRow_frL {S : Nat → Prop} {w w' : World} {B e size n : Nat} {v : Value} {xs : List Value} (h : w.ownsRow B e size v n xs) (f : Fr S w w') (hS : ∀ g, v.ownBlock = some g → ¬ S g) : w'.ownsRow B e size v n xs := by
  refine ⟨h.1, ?_⟩
  rcases h.2 with h2 | ⟨g, cap, cur, rfl, h3, h4, h5⟩
  · exact Or.inl h2
  · exact Or.inr ⟨g, cap, cur, rfl, h3, by rw [f.block g ((Array.getElem?_eq_some_iff.1 h4).1) (hS g rfl)]; exact h4, h5⟩
theorem IOwn.fr {S : Nat → Prop} {w w' : World} {B : Nat} {v : Value} {l : List Int} (h : IOwn w B v l) (f : Fr S w w') (hS : ∀ k, v.ownBlock = some k → ¬ S k) : IOwn w' B v l := ownsRow_frL h f hS
theorem IOwn.ge {w : World} {B : Nat} {v : Value} {l : List Int} (h : IOwn w B v l) : ∀ k, v.ownBlock = some k → B ≤ k ∧ k < w.heap.size := World.ownsRow.lt h
theorem IOwn.mono {w : World} {B B' : Nat} {v : Value} {l : List Int} (h : IOwn w B v l) (hB : B' ≤ B) : IOwn w B' v l := World.ownsRow.mono h hB
theorem IOwn.ia {w : World} {B : Nat} {v : Value} {l : List Int} (h : IOwn w B v l) : IA w v l := by
  rcases h.2 with ⟨h2, h3⟩ | ⟨g, cap, cur, e, h3, h4, h5, h6, h7, h8⟩
  · exact ⟨none, 0, by rw [h2, h3], fun hne => absurd (List.eq_nil_of_length_eq_zero h3) hne⟩
  · refine ⟨_, cap, e, fun _ => ⟨g, 0, rfl, heap_lt h4, fun i hi => ?_⟩⟩
    rw [Nat.zero_add, cell_of h4]
    have : cur[i]? = (l.map vI)[i]? := by rw [← h8, List.getElem?_take, if_pos (by omega), Array.getElem?_toList]
    rw [this]
    simp [hi]
theorem grown_frL {w w' : World} {row : Option Nat} (h : w.grownBy w' row) : Fr (fun k => row = some k) w w' :=
  ⟨h.os, h.tape, h.output, h.size, fun k hk hS => h.block k hk (fun e => hS e.symm)⟩
theorem grow_fr0 {w wr w6 : World} {v : Value} (h : Fr (fun _ => False) w wr) (hg : wr.grownBy w6 v.ownBlock) (hb : ∀ k, v.ownBlock = some k → w.heap.size ≤ k) : Fr (fun _ => False) w w6 :=
  h.then (grown_frL hg) (fun j hj e => by have := hb j e; omega)

set_option maxRecDepth 100000 in
set_option maxHeartbeats 1000000 in
theorem copyInts_any (v : Value) (es : List Int) (w : World) (hE : IA w v es) (hel : es.length ≤ 17592186043904) : Calls Tryz.prog 58 #[v] w fun e w' => ∃ v', e = .returned v' ∧ IOwn w' w.heap.size v' es ∧ Fr (fun _ => False) w w' := by
  obtain ⟨ea, ec, rfl, hein⟩ := hE
  have HE : Hd _ := hein
  clear hein
  obtain ⟨i3, hi3, hz3, hs3, hb3⟩ := info_parts (P := Tryz.prog) (e := 3) (z := .int .i64 0) (size := 1) (bytes := 8) (by kernel_rfl)
  go_enter Tryz.func58, Tryz.ntmps58
  go_wp2_with fail
  go_loopw [3, 4] (fun mv v wr => ∃ (k : Nat), v = .int .i64 k ∧ k ≤ es.length ∧ Hd (IOwn wr w.heap.size mv (es.take k)) ∧ Hd (Fr (fun _ => False) w wr)) (fun _ v _ => match v with | .int _ q => es.length - q.toNat | _ => 0)
  case atStart => exact ⟨0, rfl, Nat.zero_le _, World.ownsRow_nil _ _ _ _, Fr.refl _ _⟩
  case round =>
    obtain ⟨k, rfl, hk, HO, HF⟩ := hrel
    by_cases hlt : k < es.length
    · obtain ⟨pk, po, rfl, hpk, hcs⟩ := HE.out (by intro e; simp [e] at hlt)
      have d0 := hcs k hlt
      have p0 := (HF.out.cell (o := po + k) hpk (fun h => h)).trans d0
      clear hcs d0
      have HT : Hd (es.take (k + 1) = es.take k ++ [es[k]]) := by unfold Hd; rw [List.take_add_one, List.getElem?_eq_getElem hlt]; rfl
      have HTL : Hd ((es.take k).length = k) := by unfold Hd; rw [List.length_take]; omega
      obtain ⟨e, he⟩ : ∃ e, es[k] = e := ⟨_, rfl⟩
      rw [he] at p0 HT
      clear he
      obtain ⟨E, hE⟩ : ∃ E, E = es.take k := ⟨_, rfl⟩
      rw [← hE] at HO HT HTL
      clear hE
      have hk0 : (0 : Int) ≤ k := by omega
      have hk1 : (k : Int) < es.length := by omega
      have hsz := HF.out.size
      have HO1 : Hd ((wr.alloc (.cells #[vI e] 3)).ownsRow w.heap.size 3 1 u3 E.length (E.map vI)) := World.ownsRow.alloc HO.out _
      have hnews : ∀ j u, [vI e][j]? = some u → (wr.alloc (.cells #[vI e] 3)).cell? ((⟨wr.heap.size, 0, none⟩ : Addr).add j) = some u :=
        World.news_of_block (cs := #[vI e]) (heap_new wr (.cells #[vI e] 3))
      have hbase : w.heap.size ≤ (wr.alloc (.cells #[vI e] 3)).heap.size := by simp; omega
      have hEl : E.length + 1 ≤ 17592186043905 := by have := HTL.out; omega
      go_wp2_with ((at_builtin; refine Hd.out ?_))
      unfold Hd
      refine wpList_append_lies _ rfl (.tmp 11) (.tmp 16) 25 rfl w.heap.size 3 i3 (.int .i64 0) 1 8 under64 hi3 hz3 hs3 hb3 rfl (by omega) u3 E.length _ rfl HO1.out ⟨wr.heap.size, 0, none⟩ 1 1 [vI e] rfl rfl hnews (by intro u hu; simp at hu; subst hu; rfl) (by omega) (by unfold maxLen; omega) (by omega) hbase (wr.heap.size + 1) (by simp) ?_
      intro g6 cap6 w6 hown6 hgrow6 hat6 hlt6
      have HO6 : Hd (IOwn w6 w.heap.size (.slice (some ⟨g6, 0, none⟩) (E.length + 1) cap6) (E ++ [e])) := by unfold Hd IOwn; rw [List.map_append, List.length_append]; exact hown6
      have HF6 : Hd (Fr (fun _ => False) w w6) := grow_fr0 (HF.out.alloc _) hgrow6 (fun k hk => (HO.out.ge k hk).1)
      clear hown6 hgrow6 hat6 hlt6 HO HF HO1 hnews hbase p0
      go_wp2_with fail
      refine ⟨⟨k + 1, by simp, by omega, ?_, HF6.out⟩, by simp; omega⟩
      unfold Hd; rw [HT.out]; exact HO6.out
    · have hke : k = es.length := by omega
      subst hke
      have HO2 : Hd (IOwn wr w.heap.size u3 es) := by have := HO.out; rw [List.take_length] at this; exact this
      clear HO
      go_wp2_with fail
      go_ret
      exact ⟨u3, rfl, HO2.out, HF.out⟩

set_option maxRecDepth 100000 in
set_option maxHeartbeats 1000000 in
/-- EqInts of two lists of the same numbers. -/
theorem eqInts_same (v1 v2 : Value) (zs : List Int) (w : World) (h1 : IA w v1 zs) (h2 : IA w v2 zs) (hz : zs.length ≤ 17592186043904) :
    Calls Tryz.prog 30 #[v1, v2] w fun e w' => e = .returned (.bool true) ∧ Fr (fun _ => False) w w' := by
  obtain ⟨a1, c1, rfl, hc1⟩ := h1
  obtain ⟨a2, c2, rfl, hc2⟩ := h2
  have H1 : Hd _ := hc1
  have H2 : Hd _ := hc2
  clear hc1 hc2
  go_enter Tryz.func30, Tryz.ntmps30
  go_wp2_with fail
  go_loopw [5] (fun v wr => ∃ (k : Nat), v = .int .i64 k ∧ k ≤ zs.length ∧ Hd (Fr (fun _ => False) w wr)) (fun v _ => match v with | .int _ q => zs.length - q.toNat | _ => 0)
  case atStart => exact ⟨0, rfl, Nat.zero_le _, Fr.refl _ _⟩
  case round =>
    obtain ⟨k, rfl, hk, HF⟩ := hrel
    by_cases hlt : k < zs.length
    · have hne : zs ≠ [] := by intro e; simp [e] at hlt
      obtain ⟨k1, o1, rfl, hk1, g1⟩ := H1.out hne
      obtain ⟨k2, o2, rfl, hk2, g2⟩ := H2.out hne
      have q1 := (HF.out.cell (o := o1 + k) hk1 (fun h => h)).trans (g1 k hlt)
      have q2 := (HF.out.cell (o := o2 + k) hk2 (fun h => h)).trans (g2 k hlt)
      generalize zs[k] = z at *
      have hk0 : (0 : Int) ≤ k := by omega
      have hk3 : (k : Int) < zs.length := by omega
      clear g1 g2
      go_wp2_with fail
      refine wp_region_still_tail 8 mixed (by kernel_rfl) ?_
      simp only [List.take_succ_cons, List.take_zero, List.drop_succ_cons, List.drop_zero]
      repeat still_step
      refine wpStill_nil ?_
      go_wp2_with fail
      exact ⟨⟨k + 1, by simp, by omega, HF.out.drew⟩, by simp; omega⟩
    · have hke : k = zs.length := by omega
      subst hke
      go_wp2_with fail
      go_ret
      exact ⟨rfl, HF.out⟩

end Go.Proofs.YtjmbfjaahadbhaaGreatDoor
namespace Go.Proofs.YtjmbfjaahadbhaaGreatDoor
open Go.ChangeShapes Go.WideShapes Go.ChangeAt Go.RowKit

theorem knob : ownKnob Tryz.prog.godebug = none := by kernel_rfl
theorem laysOut : laidOutB Tryz.prog = true := by kernel_rfl
theorem gTab : Tryz.prog.globalNamed "fugue/code.numberSizes" = some 0 := by kernel_rfl
theorem gTabType : (Tryz.prog.globals[0]?).map (·.type) = some 134 := by kernel_rfl
theorem under140 : Tryz.prog.underlying 134 = some (.array 18 3) := by kernel_rfl
theorem und3 : Tryz.prog.underlying 3 = some (.int .i64) := by kernel_rfl
theorem under4 : Tryz.prog.underlying 4 = some .bool := by kernel_rfl
theorem cel3 : Tryz.prog.cellsOf 3 = 1 := by kernel_rfl
theorem cells140 : Tryz.prog.cellsOf 134 = 18 := by kernel_rfl
/-- The list of the row gives the table's cells. -/
theorem tab_of {W : World} (h : laidMetH Tryz.prog Rows.callsGraphsRow.laid W) : Tab W := by
  have ht : Lib.TabIs Tryz.prog W "fugue/code.numberSizes" .i64 [0, 8, 0, 0, 0, 0, 1, 1, 1, 1, 1, 2, 0, 2, 2, 0, 0, 0] := Lib.tabIs_of_head (rest := []) gTab gTabType under140 und3 cel3 cells140 h
  intro op hop
  have hc := ht.cell gTab op (by simpa using hop)
  rw [hc]
  simp only [Option.some.injEq, Value.int.injEq, true_and]
  match op, hop with
  | 0, _ | 1, _ | 2, _ | 3, _ | 4, _ | 5, _ | 6, _ | 7, _ | 8, _ | 9, _ | 10, _ | 11, _ | 12, _ | 13, _ | 14, _ | 15, _ | 16, _ | 17, _ => rfl
  | n + 18, h => exact absurd h (by omega)
end Go.Proofs.YtjmbfjaahadbhaaGreatDoor
namespace Go.Proofs.YtjmbfjaahadbhaaGreatDoor
open Go.RowKit (wrap32 wrap64)

/-- A call that gives nothing back, or panics. -/
def Plain (R : Ending → World → Prop) (e : Ending) (w' : World) : Prop := (e = .returned (.tuple #[]) ∨ ∃ c, e = .panicked c) ∧ R e w'

set_option maxRecDepth 100000 in
set_option maxHeartbeats 1000000 in
theorem ownResults_any {b : Nat} (o n : Nat) (s : WS) (w : World) (h : Lies w b s) (hn : s.fR = n) (R : Ending → World → Prop)
    (hc : Calls Tryz.prog 99 #[.pointer (some ⟨b, 0, none⟩), .pointer (some ⟨b, o, none⟩), .int .i64 n] w (Plain R)) :
    Calls Tryz.prog 87 #[.pointer (some ⟨b, 0, none⟩), .pointer (some ⟨b, o, none⟩)] w R := by
  have c150 : w.cell? ⟨b, 150, none⟩ = some (vI n) := by rw [h.facts.2.2.2.2.2.2.1, hn]
  go_enter Tryz.func87, Tryz.ntmps87
  go_wp2_with fail
  refine hc.mono ?_
  rintro e w' ⟨rfl | ⟨c, rfl⟩, hr⟩
  · go_wp2_with fail
    go_end0
    exact hr
  · go_wp2_with fail
    exact ⟨rfl, hr⟩

set_option maxRecDepth 100000 in
set_option maxHeartbeats 1000000 in
theorem calleeParams_any {b : Nat} (o n N fb fo nf fc : Nat) (s : WS) (w : World) (h : Lies w b s) (hN : s.n = N) (hNf : N < nf) (hfu : s.funcs = .slice (some ⟨fb, fo, none⟩) nf fc) (hcn : w.cell? ⟨fb, fo + N * 4, none⟩ = some (vI n)) (R : Ending → World → Prop)
    (hc : Calls Tryz.prog 99 #[.pointer (some ⟨b, 0, none⟩), .pointer (some ⟨b, o, none⟩), .int .i64 n] w.drew (Plain R)) :
    Calls Tryz.prog 84 #[.pointer (some ⟨b, 0, none⟩), .pointer (some ⟨b, o, none⟩)] w R := by
  have c158 : w.cell? ⟨b, 158, none⟩ = some (vI N) := by rw [h.facts.2.2.2.2.2.2.2.2.2.2.2.2.2.2.1, hN]
  have c147 : w.cell? ⟨b, 147, none⟩ = some (.slice (some ⟨fb, fo, none⟩) nf fc) := by rw [h.facts.2.2.2.1, hfu]
  have hb : 0 ≤ (N : Int) ∧ (N : Int) < nf := by omega
  go_enter Tryz.func84, Tryz.ntmps84
  go_wp2_with fail
  refine wp_region_still_tail 14 mixed (by kernel_rfl) ?_
  simp only [List.take_succ_cons, List.take_zero, List.drop_succ_cons, List.drop_zero]
  repeat still_step
  refine wpStill_nil ?_
  go_wp2_with fail
  refine hc.mono ?_
  rintro e w' ⟨rfl | ⟨c, rfl⟩, hr⟩
  · go_wp2_with fail
    go_end0
    exact hr
  · go_wp2_with fail
    exact ⟨rfl, hr⟩

set_option maxRecDepth 100000 in
set_option maxHeartbeats 1000000 in
theorem calleeResults_any {b : Nat} (o n N fb fo nf fc : Nat) (s : WS) (w : World) (h : Lies w b s) (hN : s.n = N) (hNf : N < nf) (hfu : s.funcs = .slice (some ⟨fb, fo, none⟩) nf fc) (hcn : w.cell? ⟨fb, fo + N * 4 + 1, none⟩ = some (vI n)) (R : Ending → World → Prop)
    (hc : Calls Tryz.prog 99 #[.pointer (some ⟨b, 0, none⟩), .pointer (some ⟨b, o, none⟩), .int .i64 n] w.drew (Plain R)) :
    Calls Tryz.prog 85 #[.pointer (some ⟨b, 0, none⟩), .pointer (some ⟨b, o, none⟩)] w R := by
  have c158 : w.cell? ⟨b, 158, none⟩ = some (vI N) := by rw [h.facts.2.2.2.2.2.2.2.2.2.2.2.2.2.2.1, hN]
  have c147 : w.cell? ⟨b, 147, none⟩ = some (.slice (some ⟨fb, fo, none⟩) nf fc) := by rw [h.facts.2.2.2.1, hfu]
  have hb : 0 ≤ (N : Int) ∧ (N : Int) < nf := by omega
  go_enter Tryz.func85, Tryz.ntmps85
  go_wp2_with fail
  refine wp_region_still_tail 14 mixed (by kernel_rfl) ?_
  simp only [List.take_succ_cons, List.take_zero, List.drop_succ_cons, List.drop_zero]
  repeat still_step
  refine wpStill_nil ?_
  go_wp2_with fail
  refine hc.mono ?_
  rintro e w' ⟨rfl | ⟨c, rfl⟩, hr⟩
  · go_wp2_with fail
    go_end0
    exact hr
  · go_wp2_with fail
    exact ⟨rfl, hr⟩

end Go.Proofs.YtjmbfjaahadbhaaGreatDoor
namespace Go.Proofs.YtjmbfjaahadbhaaGreatDoor
theorem run_neq81_f (f : Nat) (w : World) : (binOp .neq 95 (vF f) .nilFunc).run Tryz.prog w = .ok (.bool true) w := by kernel_rfl
theorem run_neq81_n (w : World) : (binOp .neq 95 vN .nilFunc).run Tryz.prog w = .ok (.bool false) w := by kernel_rfl
theorem run_neq82_f (f : Nat) (w : World) : (binOp .neq 96 (vF f) .nilFunc).run Tryz.prog w = .ok (.bool true) w := by kernel_rfl
theorem run_neq82_n (w : World) : (binOp .neq 96 vN .nilFunc).run Tryz.prog w = .ok (.bool false) w := by kernel_rfl

/-- How many things a slice has. -/
def lenOf : Value → Nat
  | .slice _ n _ => n
  | _ => 0



end Go.Proofs.YtjmbfjaahadbhaaGreatDoor
namespace Go.Proofs.YtjmbfjaahadbhaaGreatDoor
open Go.RowKit (wrap32 wrap64)

end Go.Proofs.YtjmbfjaahadbhaaGreatDoor
