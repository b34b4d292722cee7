import Derived.Test.YtcjfmfddkhpfnaaQC1
import Derived.Test.YtcjfmfddkhpfnaaQG1
namespace Go.Proofs.Ytcjfmfddkhpfnaa
open Go.RowKit (wrap32 wrap64)
set_option linter.unusedVariables false
set_option linter.unusedSimpArgs false

/-! ### the plain law: order, how often, more -/
theorem Reach.mem {es es' : List Ed} {rs rs' : List Int} (he : ∀ e ∈ es, e ∈ es') (hr : ∀ r ∈ rs, r ∈ rs') {i d : Int} (r : Reach es rs i d) : Reach es' rs' i d := by
  induction r with
  | root h => exact .root (hr _ h)
  | step h _ ih => exact .step (he _ h) ih
theorem Least.same {n : Nat} {es es' : List Ed} {rs rs' : List Int} {x : Nat → Int} (he : ∀ e, e ∈ es ↔ e ∈ es') (hr : ∀ r, r ∈ rs ↔ r ∈ rs') (h : Least n es rs x) : Least n es' rs' x :=
  ⟨fun r hm => h.root r ((hr _).2 hm), fun d s k hm => h.edge d s k ((he _).2 hm), fun i hi => (h.way i hi).imp id (Reach.mem (fun e => (he e).1) (fun r => (hr r).1))⟩
theorem Reach.or {es : List Ed} {rs r1 r2 : List Int} (hr : ∀ r ∈ rs, r ∈ r1 ∨ r ∈ r2) {i d : Int} (r : Reach es rs i d) : Reach es r1 i d ∨ Reach es r2 i d := by
  induction r with
  | root h => exact (hr _ h).imp .root .root
  | step h _ ih => exact ih.imp (.step h) (.step h)
theorem meet_least {n : Nat} {es : List Ed} {rs r1 r2 : List Int} {u x y : Nat → Int} (hG : RightG n es rs) (hG1 : RightG n es r1) (hG2 : RightG n es r2) (hr : ∀ r, r ∈ rs ↔ r ∈ r1 ∨ r ∈ r2) (hu : Least n es rs u) (hx : Least n es r1 x) (hy : Least n es r2 y) {i : Nat} (hi : i < n) : u i = meetX (x i) (y i) := by
  have h1 : u i ≤ x i := hx.mono hG1 hG hu (fun j d r => ⟨d, Int.le_refl _, r.mem (fun _ h => h) (fun r h => (hr r).2 (Or.inl h))⟩) hi
  have h2 : u i ≤ y i := hy.mono hG2 hG hu (fun j d r => ⟨d, Int.le_refl _, r.mem (fun _ h => h) (fun r h => (hr r).2 (Or.inr h))⟩) hi
  have hwx : weightX (x i) = x i := by
    rcases hx.val hG1 hi with h | h
    · rw [h]; decide
    · unfold weightX flowsX; rw [decide_eq_true h]; rfl
  have hwy : weightX (y i) = y i := by
    rcases hy.val hG2 hi with h | h
    · rw [h]; decide
    · unfold weightX flowsX; rw [decide_eq_true h]; rfl
  unfold meetX
  rw [hwx, hwy]
  rcases hu.way i hi with h | h
  · rcases hx.val hG1 hi with hx' | hx' <;> rcases hy.val hG2 hi with hy' | hy' <;> omega
  · rcases h.or (fun r hm => (hr r).1 hm) with h | h
    · have := hx.le hG1 h
      simp at this
      omega
    · have := hy.le hG2 h
      simp at this
      omega

/-- Two graphs and the weights of the first, as the statement holds them. -/
structure Os (w wr : World) (K hb mb xb n : Nat) (hev hrv mev mrv : Value) (E : List Ed) (R : List Int) (F : List Ed) (T : List Int) (x : Nat → Int) : Prop where
  gs : Gs w wr K hb xb n hev hrv E R x
  m : wr.heap[mb]? = some (.cells #[vI n, mev, mrv] 34)
  e : EdgesAt K wr mev F
  r : IntsAt K wr mrv T
  lt : mb < K
theorem Os.keep {S : Nat → Prop} {w wr w' : World} {K hb mb xb n : Nat} {hev hrv mev mrv : Value} {E : List Ed} {R : List Int} {F : List Ed} {T : List Int} {x : Nat → Int} (h : Os w wr K hb mb xb n hev hrv mev mrv E R F T x) (f : Fr S wr w') (hS : ∀ k, k < K → ¬ S k) : Os w w' K hb mb xb n hev hrv mev mrv E R F T x :=
  ⟨h.gs.keep f hS, (f.block _ (heap_lt h.m) (hS _ h.lt)).trans h.m, h.e.fr f h.gs.lt.2.2.2 (fun k hk => hS k hk), h.r.fr f h.gs.lt.2.2.2 (fun k hk => hS k hk), h.lt⟩
theorem Os.stay {w wr w' : World} {K hb mb xb n : Nat} {hev hrv mev mrv : Value} {E : List Ed} {R : List Int} {F : List Ed} {T : List Int} {x : Nat → Int} (h : Os w wr K hb mb xb n hev hrv mev mrv E R F T x) (f : Fr (fun _ => False) wr w') : Os w w' K hb mb xb n hev hrv mev mrv E R F T x := h.keep f (fun _ _ h => h)

/-- With the two lists that grow. -/
structure Ol (w wr : World) (K hb mb xb n : Nat) (hev hrv mev mrv : Value) (E : List Ed) (R : List Int) (F : List Ed) (T : List Int) (x : Nat → Int) (ev rv : Value) (A : List Ed) (B : List Int) : Prop where
  os : Os w wr K hb mb xb n hev hrv mev mrv E R F T x
  e : OwnE wr K ev A
  r : OwnI wr K rv B
  ap : Apt ev rv
section
variable {w wr w' : World} {K hb mb xb n : Nat} {hev hrv mev mrv : Value} {E : List Ed} {R : List Int} {F : List Ed} {T : List Int} {x : Nat → Int} {ev rv : Value} {A : List Ed} {B : List Int}
theorem Ol.stay (h : Ol w wr K hb mb xb n hev hrv mev mrv E R F T x ev rv A B) (f : Fr (fun _ => False) wr w') : Ol w w' K hb mb xb n hev hrv mev mrv E R F T x ev rv A B :=
  ⟨h.os.stay f, h.e.fr f (fun _ _ h => h), h.r.fr f (fun _ _ h => h), h.ap⟩
theorem Ol.growE (h : Ol w wr K hb mb xb n hev hrv mev mrv E R F T x ev rv A B) {w6 : World} {e : Ed} {g6 cap H : Nat}
    (hown : w6.ownsRow K 27 3 (.slice (some ⟨g6, 0, none⟩) (A.length + 1) cap) (A.length + 1) (eCells A ++ [vI e.1, vI e.2.1, vI e.2.2])) (hg : wr.grownBy w6 ev.ownBlock) (hat : ev.ownBlock = some g6 ∨ g6 = H) (hH : wr.heap.size ≤ H) :
    Ol w w6 K hb mb xb n hev hrv mev mrv E R F T x (.slice (some ⟨g6, 0, none⟩) (A.length + 1) cap) rv (A ++ [e]) B :=
  ⟨h.os.keep (grown_fr hg) (fun k hk e => by have := (h.e.ge k e).1; omega), OwnE.of hown, grow_keepI h.r hg h.ap, grow_apt (w := wr) h.ap hat (fun k hk => (h.r.ge k hk).2) hH⟩
theorem Ol.growI (h : Ol w wr K hb mb xb n hev hrv mev mrv E R F T x ev rv A B) {w6 : World} {z : Int} {g6 cap H : Nat}
    (hown : w6.ownsRow K 3 1 (.slice (some ⟨g6, 0, none⟩) (B.length + 1) cap) (B.length + 1) (B.map vI ++ [vI z])) (hg : wr.grownBy w6 rv.ownBlock) (hat : rv.ownBlock = some g6 ∨ g6 = H) (hH : wr.heap.size ≤ H) :
    Ol w w6 K hb mb xb n hev hrv mev mrv E R F T x ev (.slice (some ⟨g6, 0, none⟩) (B.length + 1) cap) A (B ++ [z]) :=
  ⟨h.os.keep (grown_fr hg) (fun k hk e => by have := (h.r.ge k e).1; omega), grow_keepE h.e hg h.ap.symm, OwnI.of hown, (grow_apt (w := wr) h.ap.symm hat (fun k hk => (h.e.ge k hk).2) hH).symm⟩
end

end Go.Proofs.Ytcjfmfddkhpfnaa
