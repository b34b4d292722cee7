import Derived.Test.YtlmlmhinbkcpoaaDoorQQ8
import Derived.Test.YtlmlmhinbkcpoaaDoorQQc
import Derived.Test.YtlmlmhinbkcpoaaDoorQLhJ
namespace Go.Proofs.YtlmlmhinbkcpoaaDoor
open Go.RowKit (wrap32 wrap64)
set_option linter.unusedVariables false
set_option linter.unusedSimpArgs false

/-- Another operation in an instruction of a code with marks. -/
theorem WC.setOp {w : World} {B g : Nat} {cs : List PI} {n m : Nat} (h : WC w B (.slice (some ⟨g, 0, none⟩) n m) cs) (hf : FineC cs) {k : Nat} (hk : k < cs.length) (z : Int) :
    ∃ cs', cs'.length = cs.length ∧ FineC cs' ∧ WC (w.setCell ⟨g, k * 7, none⟩ (vI z)) B (.slice (some ⟨g, 0, none⟩) n m) cs' := by
  have f := setCell_fr w g (k * 7) (vI z)
  obtain ⟨g', ps, ev, h1, h2, h3⟩ := h
  cases ev
  refine ⟨cs.set k { cs[k] with op := z }, by simp, ⟨by rw [List.length_set]; exact hf.1, fun c hc => ?_⟩, g, ps, by simp, h1, ?_, fun i c hc => ?_⟩
  · rcases List.mem_or_eq_of_mem_set hc with hc | rfl
    · exact hf.2 c hc
    · have h9 := hf.2 cs[k] (List.getElem_mem hk)
      exact h9
  · rw [List.length_set]
    have h4 := h2.set1 (i := k) (o := 0) (by omega) (by omega) (wideC_len _ _ _) (vI z)
    rw [Nat.add_zero] at h4
    refine h4.congr (fun i _ => ?_)
    unfold wideC
    rw [List.getElem?_set]
    by_cases e : i = k
    · subst e
      rw [at1_self, if_pos rfl, if_pos hk, List.getElem?_eq_getElem hk]
      rfl
    · rw [at1_ne _ _ e, if_neg (fun h => e h.symm)]
  · have hg : ∀ (v : Value) (l : List Int), WI w B v l → WI (w.setCell ⟨g, k * 7, none⟩ (vI z)) B v l := fun v l hv => hv.fr f (fun j e e2 => hv.ne h2 (by decide) j e e2)
    rw [List.getElem?_set] at hc
    by_cases e : k = i
    · subst e
      rw [if_pos rfl, if_pos hk] at hc
      cases hc
      have h5 := h3 k cs[k] (List.getElem?_eq_getElem hk)
      exact ⟨hg _ _ h5.1, hg _ _ h5.2⟩
    · rw [if_neg e] at hc
      exact ⟨hg _ _ (h3 i c hc).1, hg _ _ (h3 i c hc).2⟩
theorem WC.opCell {w : World} {B g : Nat} {cs : List PI} {n m : Nat} (h : WC w B (.slice (some ⟨g, 0, none⟩) n m) cs) {k : Nat} (hk : k < cs.length) : w.cell? ⟨g, k * 7, none⟩ = some (vI cs[k].op) ∧ w.frozen? ⟨g, k * 7, none⟩ = false := by
  obtain ⟨g', ps, ev, h1, h2, h3⟩ := h
  cases ev
  have h4 := h2.cell (i := k) (o := 0) (by omega) (by omega)
  have e1 : wideC cs ps k = iR cs[k] (ps k) := by unfold wideC; rw [List.getElem?_eq_getElem hk]
  rw [e1] at h4
  exact ⟨h4, h2.frozen _⟩
theorem wc_ge {w : World} {B g n m : Nat} {cs : List PI} (h : WC w B (.slice (some ⟨g, 0, none⟩) n m) cs) : B ≤ g ∧ g < w.heap.size := h.ge g rfl

/-- What the statement's own function is, under way. -/
structure FX (w : World) (B XB g : Nat) (P R V : Int) (n : Nat) (cs : List PI) : Prop where
  x : w.heap[XB]? = some (.cells #[vI P, vI R, vI V, .slice (some ⟨g, 0, none⟩) n (n + 64)] 30)
  wc : WC w B (.slice (some ⟨g, 0, none⟩) n (n + 64)) cs
  len : cs.length = n
  fine : FineC cs
theorem FX.stay {w w' : World} {B XB g : Nat} {P R V : Int} {n : Nat} {cs : List PI} (h : FX w B XB g P R V n cs) (f : Fr (fun _ => False) w w') : FX w' B XB g P R V n cs :=
  ⟨(f.block _ (heap_lt0 h.x) (fun e => e)).trans h.x, h.wc.stay f, h.len, h.fine⟩
theorem FX.ca {w : World} {B XB g : Nat} {P R V : Int} {n : Nat} {cs : List PI} (h : FX w B XB g P R V n cs) : CA w (.slice (some ⟨g, 0, none⟩) n (n + 64)) cs := h.wc.ca
theorem FX.ne {w : World} {B XB g : Nat} {P R V : Int} {n : Nat} {cs : List PI} (h : FX w B XB g P R V n cs) : XB ≠ g := fun e => by
  obtain ⟨g', ps, ev, h1, ⟨cur, h2, -⟩, h3⟩ := h.wc
  cases ev
  rw [← e, h.x] at h2
  injection (Option.some.inj h2) with _ e; exact absurd e (by decide)
theorem FX.cells {w : World} {B XB g : Nat} {P R V : Int} {n : Nat} {cs : List PI} (h : FX w B XB g P R V n cs) : w.cell? ⟨XB, 0, none⟩ = some (vI P) ∧ w.cell? ⟨XB, 1, none⟩ = some (vI R) ∧ w.cell? ⟨XB, 2, none⟩ = some (vI V) ∧ w.cell? ⟨XB, 3, none⟩ = some (.slice (some ⟨g, 0, none⟩) n (n + 64)) :=
  ⟨by rw [cell_of0 h.x]; rfl, by rw [cell_of0 h.x]; rfl, by rw [cell_of0 h.x]; rfl, by rw [cell_of0 h.x]; rfl⟩
/-- A cell of the head written over. -/
theorem FX.head {w : World} {B XB g : Nat} {P R V : Int} {n : Nat} {cs : List PI} (h : FX w B XB g P R V n cs) (o : Nat) (z P' R' V' : Int) (e : (#[vI P, vI R, vI V, .slice (some ⟨g, 0, none⟩) n (n + 64)] : Array Value).setIfInBounds o (vI z) = #[vI P', vI R', vI V', .slice (some ⟨g, 0, none⟩) n (n + 64)]) : FX (w.setCell ⟨XB, o, none⟩ (vI z)) B XB g P' R' V' n cs := by
  have f := setCell_fr w XB o (vI z)
  have hR : Rws w 30 4 XB 1 (fun _ => [vI P, vI R, vI V, .slice (some ⟨g, 0, none⟩) n (n + 64)]) := ⟨_, h.x, rfl, fun i o hi ho => by
    obtain rfl : i = 0 := by omega
    rcases (show o = 0 ∨ o = 1 ∨ o = 2 ∨ o = 3 by omega) with rfl | rfl | rfl | rfl <;> rfl⟩
  refine ⟨by rw [set_of h.x o (vI z), e], h.wc.at hR f, h.len, h.fine⟩
theorem FX.op {w : World} {B XB g : Nat} {P R V : Int} {n : Nat} {cs : List PI} (h : FX w B XB g P R V n cs) {k : Nat} (hk : k < cs.length) (z : Int) : ∃ cs', FX (w.setCell ⟨g, k * 7, none⟩ (vI z)) B XB g P R V n cs' := by
  obtain ⟨cs', e, hf, hw⟩ := h.wc.setOp h.fine hk z
  have f := setCell_fr w g (k * 7) (vI z)
  exact ⟨cs', (f.block XB (heap_lt0 h.x) h.ne).trans h.x, hw, e.trans h.len, hf⟩

theorem var_8 : varX 3 5 4 = 8 := by kernel_rfl
theorem var_6 : varX 1 5 4 = 6 := by kernel_rfl
theorem var_4 : varX 1 4 4 = -1 := by kernel_rfl

end Go.Proofs.YtlmlmhinbkcpoaaDoor
