import Derived.Test.YtchilccmnaihkaaQBaJ
namespace Go.Proofs.Ytchilccmnaihkaa
open Go.RowKit (wrap32 wrap64)
set_option linter.unusedVariables false
set_option linter.unusedSimpArgs false

/-! ### three lists of functions with their summaries, two of which grow -/
/-- Two lists lie apart. -/
def Off (u z : Value) : Prop := ∀ j, u.ownBlock = some j → z.ownBlock ≠ some j
theorem Off.symm {u z : Value} (h : Off u z) : Off z u := fun j e e2 => h j e2 e
theorem Off.nil (z : Value) : Off (.slice none 0 0) z := fun j e => by cases e
theorem Off.grow {wz : World} {u z : Value} {g n cap : Nat} (h : Off u z) (hat : z.ownBlock = some g ∨ g = wz.heap.size) (hu : ∀ j, u.ownBlock = some j → j < wz.heap.size) : Off u (.slice (some ⟨g, 0, none⟩) n cap) := fun j e e2 => by
  have e3 : g = j := Option.some.inj e2
  subst e3
  rcases hat with q | q
  · exact h _ e q
  · have := hu _ e; omega
section
variable {w wz w6 : World} {u v z : Value} {fs fz : List PH} {ss sz : List PS} {sh : List (Nat × Nat)} {Q : Nat → Prop}
theorem Bun.lo (h : Bun w wz u v fs ss sh Q) : ∀ k, Q k → k < wz.heap.size := by obtain ⟨_, _, _, _, q, _⟩ := h.sr; exact q
theorem Bun.va (h : Bun w wz u v fs ss sh Q) : ∀ k, v.ownBlock = some k → ¬ Q k := by obtain ⟨_, _, _, q, _, _⟩ := h.sr; exact q
/-- Another list of functions has grown. -/
theorem Bun.otherF (h : Bun w wz u v fs ss sh Q) (hz : FOwn wz w.heap.size z fz) (hzQ : ∀ j, z.ownBlock = some j → ¬ Q j) (ho : Off u z) (hg : wz.grownBy w6 z.ownBlock) : Bun w w6 u v fs ss sh Q := by
  have f := grown_fr hg
  exact ⟨h.f.fr f (fun j e e2 => ho j e e2), h.sr.fr f (fun j e e2 => SR.apart hz h.sr j e e2) (fun j hq e => hzQ j e hq), h.a, h.shp, h.fit, h.fr.then f (fun j hj e => by have := (hz.ge j e).1; omega)⟩
/-- Another list of summaries has grown. -/
theorem Bun.otherS (h : Bun w wz u v fs ss sh Q) (hz : SR wz w.heap.size Q z sz) (ho : Off v z) (hg : wz.grownBy w6 z.ownBlock) : Bun w w6 u v fs ss sh Q := by
  have f := grown_fr hg
  have hzQ : ∀ k, z.ownBlock = some k → ¬ Q k := by obtain ⟨_, _, _, q, _, _⟩ := hz; exact q
  exact ⟨h.f.fr f (fun j e e2 => SR.apart h.f hz j e2 e), h.sr.fr f (fun j e e2 => ho j e e2) (fun j hq e => hzQ j e hq), h.a, h.shp, h.fit, h.fr.then f (fun j hj e => by have := (hz.ge j e).1; omega)⟩
theorem Bun1.otherF {P R : Nat} {x y : Value} {s : PS} (h : Bun1 w wz u v fs ss sh Q P R x y s) (hz : FOwn wz w.heap.size z fz) (hzQ : ∀ j, z.ownBlock = some j → ¬ Q j) (ho : Off u z) (hg : wz.grownBy w6 z.ownBlock) : Bun1 w w6 u v fs ss sh Q P R x y s := by
  have f := grown_fr hg
  exact ⟨h.f.fr f (fun j e e2 => ho j e e2), h.sr.fr f (fun j e e2 => SR.apart hz h.sr j e e2) (fun j hq e => hzQ j e hq), h.a, h.shp, h.fit, h.fr.then f (fun j hj e => by have := (hz.ge j e).1; omega), h.sa.fr f (fun j hq e => hzQ j e hq)⟩
end
/-- The three of them: X and C grow, O stays. -/
structure Tri (w wr : World) (uX vX uC vC uO vO : Value) (fX : List PH) (sX : List PS) (hX : List (Nat × Nat)) (fC : List PH) (sC : List PS) (hC : List (Nat × Nat)) (fO : List PH) (sO : List PS) (hO : List (Nat × Nat)) (Q : Nat → Prop) : Prop where
  x : Bun w wr uX vX fX sX hX Q
  c : Bun w wr uC vC fC sC hC Q
  o : Bun w wr uO vO fO sO hO Q
  fxc : Off uX uC
  fxo : Off uX uO
  fco : Off uC uO
  sxc : Off vX vC
  sxo : Off vX vO
  sco : Off vC vO
section
variable {w wr wz w6 : World} {uX vX uC vC uO vO : Value} {fX fC fO : List PH} {sX sC sO : List PS} {hX hC hO : List (Nat × Nat)} {Q : Nat → Prop} {P R g cap : Nat} {x y : Value} {s : PS}
theorem Tri.keep (h : Tri w wr uX vX uC vC uO vO fX sX hX fC sC hC fO sO hO Q) (f : Fr (fun _ => False) wr wz) : Tri w wz uX vX uC vC uO vO fX sX hX fC sC hC fO sO hO Q :=
  ⟨h.x.keep f, h.c.keep f, h.o.keep f, h.fxc, h.fxo, h.fco, h.sxc, h.sxo, h.sco⟩
theorem Tri.since (h : Tri w wr uX vX uC vC uO vO fX sX hX fC sC hC fO sO hO Q) (f : Fr (fun _ => False) wr wz) : Tri w wz uX vX uC vC uO vO fX sX hX fC sC hC fO sO hO (fun j => Q j ∨ (wr.heap.size ≤ j ∧ j < wz.heap.size)) :=
  ⟨h.x.since f, h.c.since f, h.o.since f, h.fxc, h.fxo, h.fco, h.sxc, h.sxo, h.sco⟩
/-- X's functions have grown. -/
structure Tr1 (w wr : World) (uX vX uC vC uO vO : Value) (fX : List PH) (sX : List PS) (hX : List (Nat × Nat)) (fC : List PH) (sC : List PS) (hC : List (Nat × Nat)) (fO : List PH) (sO : List PS) (hO : List (Nat × Nat)) (Q : Nat → Prop) (P R : Nat) (x y : Value) (s : PS) : Prop where
  x : Bun1 w wr uX vX fX sX hX Q P R x y s
  c : Bun w wr uC vC fC sC hC Q
  o : Bun w wr uO vO fO sO hO Q
  fxc : Off uX uC
  fxo : Off uX uO
  fco : Off uC uO
  sxc : Off vX vC
  sxo : Off vX vO
  sco : Off vC vO
theorem Tri.g1 (h : Tri w wz uX vX uC vC uO vO fX sX hX fC sC hC fO sO hO Q) (hs : SAq Q wz (.agg #[x, y]) s) (hr : PS.Right P R s) (hP : P ≤ 8) (hR : R ≤ 4) (ho : w6.ownsRow w.heap.size 28 4 (.slice (some ⟨g, 0, none⟩) (fX.length + 1) cap) (fX.length + 1) (fX.flatMap PH.cells ++ (hB P R).cells)) (hg : wz.grownBy w6 uX.ownBlock) (hat : uX.ownBlock = some g ∨ g = wz.heap.size) :
    Tr1 w w6 (.slice (some ⟨g, 0, none⟩) (fX.length + 1) cap) vX uC vC uO vO fX sX hX fC sC hC fO sO hO Q P R x y s :=
  ⟨h.x.grow hs hr hP hR ho hg hat, h.c.otherF h.x.f h.x.a h.fxc.symm hg, h.o.otherF h.x.f h.x.a h.fxo.symm hg, (h.fxc.symm.grow hat (fun j e => (h.c.f.ge j e).2)).symm, (h.fxo.symm.grow hat (fun j e => (h.o.f.ge j e).2)).symm, h.fco, h.sxc, h.sxo, h.sco⟩
theorem Tr1.keep (h : Tr1 w wr uX vX uC vC uO vO fX sX hX fC sC hC fO sO hO Q P R x y s) (f : Fr (fun _ => False) wr wz) : Tr1 w wz uX vX uC vC uO vO fX sX hX fC sC hC fO sO hO Q P R x y s :=
  ⟨h.x.keep f, h.c.keep f, h.o.keep f, h.fxc, h.fxo, h.fco, h.sxc, h.sxo, h.sco⟩
theorem Tr1.g2 {vs : List (Value × Value)} (h : Tr1 w wz uX vX uC vC uO vO fX sX hX fC sC hC fO sO hO Q P R x y s) (h1 : vs.length = sX.length) (h2 : ∀ k, vX.ownBlock = some k → ¬ Q k) (h3 : ∀ j (_ : j < vs.length) (_ : j < sX.length), SAq Q wz (.agg #[vs[j].1, vs[j].2]) sX[j]) (ho : w6.ownsRow w.heap.size 31 2 (.slice (some ⟨g, 0, none⟩) (vs.length + 1) cap) (vs.length + 1) (vs.flatMap pairC ++ [x, y])) (hg : wz.grownBy w6 vX.ownBlock) (hat : vX.ownBlock = some g ∨ g = wz.heap.size) :
    Tri w w6 uX (.slice (some ⟨g, 0, none⟩) (vs.length + 1) cap) uC vC uO vO (fX ++ [hB P R]) (sX ++ [s]) (hX ++ [(P, R)]) fC sC hC fO sO hO Q ∧ SAq Q w6 (.agg #[x, y]) s :=
  ⟨⟨h.x.grow h1 h2 h3 ho hg hat, h.c.otherS h.x.sr h.sxc.symm hg, h.o.otherS h.x.sr h.sxo.symm hg, h.fxc, h.fxo, h.fco, (h.sxc.symm.grow hat (fun j e => (h.c.sr.ge j e).2)).symm, (h.sxo.symm.grow hat (fun j e => (h.o.sr.ge j e).2)).symm, h.sco⟩, h.x.sa.fr (grown_fr hg) (fun j hq e => h2 j e hq)⟩
/-- The same with C in X's place. -/
theorem Tri.swap (h : Tri w wr uX vX uC vC uO vO fX sX hX fC sC hC fO sO hO Q) : Tri w wr uC vC uX vX uO vO fC sC hC fX sX hX fO sO hO Q :=
  ⟨h.c, h.x, h.o, h.fxc.symm, h.fco, h.fxo, h.sxc.symm, h.sco, h.sxo⟩
/-- O takes X's place. -/
theorem Tri.turn (h : Tri w wr uX vX uC vC uO vO fX sX hX fC sC hC fO sO hO Q) : Tri w wr uO vO uC vC uX vX fO sO hO fC sC hC fX sX hX Q :=
  ⟨h.o, h.c, h.x, h.fco.symm, h.fxo.symm, h.fxc.symm, h.sco.symm, h.sxo.symm, h.sxc.symm⟩
end

end Go.Proofs.Ytchilccmnaihkaa
