import Derived.Test.YtlmlmhinbkcpoaaDoorQLaJ
namespace Go.Proofs.YtlmlmhinbkcpoaaDoor
open Go.RowKit (wrap32 wrap64)
set_option linter.unusedVariables false
set_option linter.unusedSimpArgs false

/-! ### functions -/
abbrev fR (f : PF) (cv : Value) : List Value := [vI f.P, vI f.R, vI f.V, cv]
abbrev markF : List Value := [vI 0, vI 0, vI (-77), .slice none 0 0]
abbrev zeroF : List Value := [vI 0, vI 0, vI 0, .slice none 0 0]
def wideF (fs : List PF) (cv : Nat → Value) (i : Nat) : List Value := match fs[i]? with | some f => fR f (cv i) | none => markF

/-- Functions that lie somewhere. -/
def FA (w : World) (v : Value) (fs : List PF) : Prop :=
  ∃ a cp, v = .slice a fs.length cp ∧ (fs ≠ [] → ∃ k o, a = some ⟨k, o, none⟩ ∧ k < w.heap.size ∧ ∀ j (h : j < fs.length), ∃ cv,
    w.cell? ⟨k, o + j * 4, none⟩ = some (vI fs[j].P) ∧ w.cell? ⟨k, o + j * 4 + 1, none⟩ = some (vI fs[j].R) ∧ w.cell? ⟨k, o + j * 4 + 2, none⟩ = some (vI fs[j].V) ∧ w.cell? ⟨k, o + j * 4 + 3, none⟩ = some cv ∧ CA w cv fs[j].code)
theorem FA.stay {w w' : World} {v : Value} {fs : List PF} (h : FA w v fs) (f : Fr (fun _ => False) w w') : FA w' v fs := by
  obtain ⟨a, cp, rfl, h⟩ := h
  refine ⟨a, cp, rfl, fun hne => ?_⟩
  obtain ⟨k, o, rfl, hk, hc⟩ := h hne
  refine ⟨k, o, rfl, Nat.lt_of_lt_of_le hk f.size, fun j hj => ?_⟩
  obtain ⟨cv, h1, h2, h3, h4, h5⟩ := hc j hj
  have g : ∀ o, w'.cell? ⟨k, o, none⟩ = w.cell? ⟨k, o, none⟩ := fun o => f.cell hk (fun h => h)
  exact ⟨cv, (g _).trans h1, (g _).trans h2, (g _).trans h3, (g _).trans h4, h5.stay f⟩

def FineP (fs : List PF) : Prop := fs.length ≤ 2932031007317 ∧ ∀ f ∈ fs, FineC f.code

/-- Functions of one's own, with marks behind. -/
structure WF (w : World) (B : Nat) (v : Value) (fs : List PF) (g : Nat) (cv : Nat → Value) : Prop where
  val : v = .slice (some ⟨g, 0, none⟩) fs.length (fs.length + 64)
  ge : B ≤ g
  row : Rws w 30 4 g (fs.length + 64) (wideF fs cv)
  code : ∀ i f, fs[i]? = some f → WC w B (cv i) f.code
  apart : ∀ i j, i < fs.length → j < fs.length → i ≠ j → (cv i).ownBlock ≠ (cv j).ownBlock

theorem WC.ne {w : World} {B g m : Nat} {t sz : Nat} {R : Nat → List Value} {v : Value} {cs : List PI} (h : WC w B v cs) (hR : Rws w t sz g m R) (ht : t ≠ 57) : ∀ k, v.ownBlock = some k → k ≠ g := by
  obtain ⟨g', ps, rfl, -, ⟨cs', h', -⟩, -⟩ := h
  obtain ⟨cs, h2, -⟩ := hR
  intro k e1 e2
  cases e1
  subst e2
  rw [h'] at h2
  cases h2
  exact ht rfl
/-- What is written is one block, of functions. -/
theorem WC.at {w w' : World} {B g m : Nat} {R : Nat → List Value} {v : Value} {cs : List PI} (h : WC w B v cs) (hR : Rws w 30 4 g m R) (f : Fr (fun k => k = g) w w') : WC w' B v cs := by
  have hne := h.ne hR (by decide)
  obtain ⟨g', ps, rfl, h1, h2, h3⟩ := h
  exact ⟨g', ps, rfl, h1, h2.fr f (hne g' rfl), fun i c hc => ⟨(h3 i c hc).1.fr f ((h3 i c hc).1.ne hR (by decide)), (h3 i c hc).2.fr f ((h3 i c hc).2.ne hR (by decide))⟩⟩

theorem under24 : Tryd.prog.underlying 22 = some (.slice 30) := by kernel_rfl
theorem make24 (n : Nat) (hn : n ≤ 3000000000000) (w : World) : (Instr.makeSlice 22 (.int .i64 n) (.int .i64 n)).run Tryd.prog w = .ok (.slice (some ⟨w.heap.size, 0, none⟩) n n) (w.alloc (.cells (madeCells zeroF.toArray (n * 4)) 30)) := by
  rw [run_make_of 22 30 (.agg zeroF.toArray) 4 48 under24 (by kernel_rfl) (by kernel_rfl) (by kernel_rfl) n (by omega) (by omega) w]
  rfl
theorem Rws.made4 (w : World) (m : Nat) : Rws (w.alloc (.cells (madeCells zeroF.toArray (m * 4)) 30)) 30 4 w.heap.size m (fun _ => zeroF) :=
  ⟨_, heap_new w _, by simp [madeCells], fun i o hi ho => by
    have hlt : i * 4 + o < m * 4 := by omega
    have e : (i * 4 + o) % 4 = o := by omega
    unfold madeCells
    simp only [Array.getElem?_map, Array.getElem?_range, hlt, if_true, Option.map_some]
    show some (zeroF.toArray[(i * 4 + o) % 4]!) = _
    rw [e]
    rcases (show o = 0 ∨ o = 1 ∨ o = 2 ∨ o = 3 by omega) with rfl | rfl | rfl | rfl <;> rfl⟩
theorem list4 {α : Type} : ∀ (l : List α), l.length = 4 → ∃ a b c d, l = [a, b, c, d]
  | [a, b, c, d], _ => ⟨a, b, c, d, rfl⟩
def fou4 (w : World) (g q : Nat) (x : List Value) : World :=
  (((w.setCell ⟨g, q, none⟩ (x.getD 0 undef)).setCell ⟨g, q + 1, none⟩ (x.getD 1 undef)).setCell ⟨g, q + 2, none⟩ (x.getD 2 undef)).setCell ⟨g, q + 3, none⟩ (x.getD 3 undef)
theorem Rws.set4 {w : World} {t g m : Nat} {R : Nat → List Value} (h : Rws w t 4 g m R) {i : Nat} (hi : i < m) (hl : (R i).length = 4) (x : List Value) (hx : x.length = 4) : Rws (fou4 w g (i * 4) x) t 4 g m (at1 R i x) := by
  have h0 := h.set1 (o := 0) hi (by omega) hl (x.getD 0 undef)
  have h1 := h0.set1 (i := i) (o := 1) hi (by omega) (by simp only [at1_self, List.length_set]; exact hl) (x.getD 1 undef)
  have h2 := h1.set1 (i := i) (o := 2) hi (by omega) (by simp only [at1_self, List.length_set]; exact hl) (x.getD 2 undef)
  have h3 := h2.set1 (i := i) (o := 3) hi (by omega) (by simp only [at1_self, List.length_set]; exact hl) (x.getD 3 undef)
  simp only [at1_at1, at1_self, Nat.add_zero] at h3
  obtain ⟨a, b, c, d, hR⟩ := list4 _ hl
  obtain ⟨x0, x1, x2, x3, rfl⟩ := list4 _ hx
  rw [hR] at h3
  simp only [List.set_cons_zero, List.set_cons_succ, List.getD_cons_zero, List.getD_cons_succ] at h3
  unfold fou4
  simp only [List.getD_cons_zero, List.getD_cons_succ]
  exact h3
theorem fou4_fr (w : World) (g q : Nat) (x : List Value) : Fr (fun k => k = g) w (fou4 w g q x) := by
  unfold fou4
  refine Fr.setCell (S := fun k => k = g) ?_ _ _ (Or.inl rfl)
  refine Fr.setCell (S := fun k => k = g) ?_ _ _ (Or.inl rfl)
  refine Fr.setCell (S := fun k => k = g) ?_ _ _ (Or.inl rfl)
  refine Fr.setCell (S := fun k => k = g) ?_ _ _ (Or.inl rfl)
  exact Fr.refl _ _

end Go.Proofs.YtlmlmhinbkcpoaaDoor
