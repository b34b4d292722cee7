import Derived.Test.YtchilccmnaihkaaQAf
import Derived.Test.YtchilccmnaihkaaQAm
import Derived.Test.YtchilccmnaihkaaQAs
import Derived.Test.YtchilccmnaihkaaQAs2
import Derived.Test.YtchilccmnaihkaaQA4J
namespace Go.Proofs.Ytchilccmnaihkaa
open Go.RowKit (wrap32 wrap64)
set_option linter.unusedVariables false
set_option linter.unusedSimpArgs false

theorem SA.form {w : World} {v : Value} {s : PS} {P R : Nat} (h : SA w v s) (hr : PS.Right P R s) : ∃ ha hc ra rc, v = .agg #[.slice ha P hc, .slice ra P rc] := by
  obtain ⟨hv, rv, rfl, ⟨ha, hc, rfl, -⟩, ra, rc, rfl, -⟩ := h
  exact ⟨ha, hc, ra, rc, by rw [hr.hl, hr.rl]⟩

theorem shaped_form (p r : Int) (P R : Nat) (v : Value) (l : List Int) (w : World) (hl : IA w v l) (hz : l.length ≤ 17592186043904) (hP : modX p 9 = P) (hR : modX r 5 = R) :
    Calls Try.prog 8 #[vI p, vI r, v] w fun e w' => ∃ s ha hc ra rc, e = .returned (.tuple #[.agg #[vI P, vI R, vI 0, .slice none 0 0], .agg #[.slice ha P hc, .slice ra P rc]]) ∧ SA w' (.agg #[.slice ha P hc, .slice ra P rc]) s ∧ PS.Right P R s ∧ Fr (fun _ => False) w w' := by
  have h : Calls Try.prog 8 #[vI p, vI r, v] w fun e w' => ∃ s v', e = .returned (.tuple #[.agg #[vI P, vI R, vI 0, .slice none 0 0], v']) ∧ SAq (fun j => w.heap.size ≤ j) w' v' s ∧ PS.Right P R s ∧ Fr (fun _ => False) w w' := by
    by_cases h0 : l.length = 0
    · exact shaped_nil p r P R v l w hl hz hP hR h0
    · exact shaped_cons p r P R v l w hl hz hP hR h0
  refine h.mono ?_
  rintro e w' ⟨s, v', rfl, h1, h2, h3⟩
  obtain ⟨ha, hc, ra, rc, rfl⟩ := h1.sa.form h2
  exact ⟨s, ha, hc, ra, rc, rfl, h1.sa, h2, h3⟩

theorem meet_right (v1 v2 : Value) (a b : PS) (P R : Nat) (w : World) (ha : SA w v1 a) (hb : SA w v2 b) (ra : PS.Right P R a) (rb : PS.Right P R b) (hP : P ≤ 8) (hR : R ≤ 4) :
    Calls Try.prog 12 #[v1, v2] w fun e w' => ∃ xa xc ya yc, e = .returned (.tuple #[.agg #[.slice xa P xc, .slice ya P yc], vI 0]) ∧ SAq (fun j => w.heap.size ≤ j) w' (.agg #[.slice xa P xc, .slice ya P yc]) (a.meet b) ∧ PS.Right P R (a.meet b) ∧ Fr (fun _ => False) w w' := by
  have hp := ra.pair rb
  simp only [PS.pair, Bool.and_eq_true] at hp
  refine (meet_yes v1 v2 a b w ha hb (ra.fits hP hR) (rb.fits hP hR) hp.1 hp.2 (by have := ra.rl; omega)).mono ?_
  rintro e w' ⟨v, rfl, h1, h2⟩
  obtain ⟨xa, xc, ya, yc, rfl⟩ := h1.sa.form (ra.meet rb)
  exact ⟨xa, xc, ya, yc, rfl, h1, ra.meet rb, h2⟩

/-- A local summary. -/
structure Loc (Q : Nat → Prop) (W : World) (X P R : Nat) (x y : Value) (s : PS) : Prop where
  blk : W.heap[X]? = some (.cells #[x, y] 31)
  sa : SAq Q W (.agg #[x, y]) s
  rt : PS.Right P R s
theorem Loc.keep {Q : Nat → Prop} {W W' : World} {X P R : Nat} {x y : Value} {s : PS} (h : Loc Q W X P R x y s) (f : Fr (fun _ => False) W W') : Loc Q W' X P R x y s := ⟨keepF h.blk f, h.sa.fr f (fun _ _ e => e), h.rt⟩
theorem Loc.x {Q : Nat → Prop} {W : World} {X P R : Nat} {x y : Value} {s : PS} (h : Loc Q W X P R x y s) : W.cell? ⟨X, 0, none⟩ = some x := by rw [cell_of h.blk]; rfl
theorem Loc.y {Q : Nat → Prop} {W : World} {X P R : Nat} {x y : Value} {s : PS} (h : Loc Q W X P R x y s) : W.cell? ⟨X, 1, none⟩ = some y := by rw [cell_of h.blk]; rfl
theorem Loc.new {Q : Nat → Prop} {W : World} {P R : Nat} {x y : Value} {s : PS} (h : SAq Q W (.agg #[x, y]) s) (rt : PS.Right P R s) : Loc Q (W.alloc (.cells #[x, y] 31)) W.heap.size P R x y s := ⟨heap_new W _, h.fr (Fr.alloc (Fr.refl (fun _ => False) W) _) (fun _ _ e => e), rt⟩
/-- What stands is apart from what comes. -/
theorem Loc.old {Q : Nat → Prop} {W : World} {X P R : Nat} {x y : Value} {s : PS} (h : Loc Q W X P R x y s) {Q' : Nat → Prop} (hQ : ∀ k, k < W.heap.size → Q' k) : Loc Q' W X P R x y s := ⟨h.blk, h.sa.sa.q hQ, h.rt⟩
theorem Loc.set {Q : Nat → Prop} {W : World} {X Z P R : Nat} {x y x' y' : Value} {s : PS} (h : Loc Q W X P R x y s) (hX : X ≠ Z) (hQ : ∀ k, Q k → k ≠ Z) : Loc Q ((W.setCell ⟨Z, 0, none⟩ x').setCell ⟨Z, 1, none⟩ y') X P R x y s := by
  have f : Fr (fun k => k = Z) W ((W.setCell ⟨Z, 0, none⟩ x').setCell ⟨Z, 1, none⟩ y') := (setCell_fr W Z 0 _).trans (setCell_fr _ Z 1 _)
  exact ⟨(f.block X (heap_lt h.blk) hX).trans h.blk, h.sa.fr f hQ, h.rt⟩
theorem Loc.put {Q Q' : Nat → Prop} {W : World} {Z P R : Nat} {x y x' y' : Value} {s s' : PS} (h : Loc Q W Z P R x y s) (h' : SAq Q' W (.agg #[x', y']) s') (rt : PS.Right P R s') (hQ : ∀ k, Q' k → k ≠ Z) : Loc Q' ((W.setCell ⟨Z, 0, none⟩ x').setCell ⟨Z, 1, none⟩ y') Z P R x' y' s' := by
  have f : Fr (fun k => k = Z) W ((W.setCell ⟨Z, 0, none⟩ x').setCell ⟨Z, 1, none⟩ y') := (setCell_fr W Z 0 _).trans (setCell_fr _ Z 1 _)
  exact ⟨set_of (set_of h.blk 0 _) 1 _, h'.fr f hQ, rt⟩
theorem PS.eq_both {P R : Nat} {a b : PS} (ha : PS.Right P R a) : a.eq b = (a.above b && b.above a) := by
  rw [Bool.eq_iff_iff, PS.eq_iff, Bool.and_eq_true]
  constructor
  · rintro rfl; exact ⟨PS.above_refl ha, PS.above_refl ha⟩
  · rintro ⟨h, k⟩; exact PS.above_anti h k

end Go.Proofs.Ytchilccmnaihkaa
