import Derived.Test.YtlmlmhinbkcpoaaDoorQA3J
import Derived.Test.YtlmlmhinbkcpoaaDoorQB6J
import Derived.Deep.AppendLies
import Derived.Deep.Onto
import Derived.Deep.DeepCutAuto
import Derived.Deep.RegionHeld3
import Derived.Test.YtlmlmhinbkcpoaaDoorQF1J
namespace Go.Proofs.YtlmlmhinbkcpoaaDoor
open Go.RowKit (wrap32 wrap64)
set_option linter.unusedVariables false
set_option linter.unusedSimpArgs false

/-! ### blocks -/
theorem heap_new (w : World) (o : Obj) : (w.alloc o).heap[w.heap.size]? = some o := (MapKept.heap_alloc w o).1
theorem heap_lt {w : World} {k : Nat} {o : Obj} (h : w.heap[k]? = some o) : k < w.heap.size := (Array.getElem?_eq_some_iff.1 h).1
theorem cell_of {w : World} {k : Nat} {cs : Array Value} {t : TypeId} (h : w.heap[k]? = some (.cells cs t)) (o : Nat) : w.cell? ⟨k, o, none⟩ = cs[o]? := by
  unfold World.cell?; rw [h]; simp
theorem frozen_of {w : World} {k : Nat} {cs : Array Value} {t : TypeId} (h : w.heap[k]? = some (.cells cs t)) (o : Nat) : w.frozen? ⟨k, o, none⟩ = false := by
  unfold World.frozen?; rw [h]; simp
theorem set_of {w : World} {k : Nat} {cs : Array Value} {t : TypeId} (h : w.heap[k]? = some (.cells cs t)) (o : Nat) (v : Value) : (w.setCell ⟨k, o, none⟩ v).heap[k]? = some (.cells (cs.setIfInBounds o v) t) := by
  unfold World.setCell
  simp only [Array.getElem?_modify]
  rw [if_pos trivial, h]
  rfl
theorem Fr.then {S S' : Nat → Prop} {a b c : World} (h : Fr S a b) (k : Fr S' b c) (hs : ∀ j, j < a.heap.size → S' j → S j) : Fr S a c :=
  ⟨k.os.trans h.os, k.tape.trans h.tape, k.output.trans h.output, Nat.le_trans h.size k.size, fun j hj hS => (k.block j (Nat.lt_of_lt_of_le hj h.size) (fun e => hS (hs j hj e))).trans (h.block j hj hS)⟩
theorem setCell_fr (w : World) (k o : Nat) (u : Value) : Fr (fun j => j = k) w (w.setCell ⟨k, o, none⟩ u) := Fr.setCell (S := fun j => j = k) (Fr.refl _ w) _ _ (Or.inl rfl)

/-- A block of m rows of sz cells each. -/
def Rws (w : World) (t sz g m : Nat) (R : Nat → List Value) : Prop := ∃ cs : Array Value, w.heap[g]? = some (.cells cs t) ∧ cs.size = m * sz ∧ ∀ i o, i < m → o < sz → cs[i * sz + o]? = some ((R i).getD o undef)

theorem Rws.lt {w : World} {t sz g m : Nat} {R : Nat → List Value} (h : Rws w t sz g m R) : g < w.heap.size := by obtain ⟨cs, h, -⟩ := h; exact heap_lt h
theorem Rws.cell {w : World} {t sz g m : Nat} {R : Nat → List Value} (h : Rws w t sz g m R) {i o : Nat} (hi : i < m) (ho : o < sz) : w.cell? ⟨g, i * sz + o, none⟩ = some ((R i).getD o undef) := by
  obtain ⟨cs, h, -, hc⟩ := h; rw [cell_of h]; exact hc i o hi ho
theorem Rws.frozen {w : World} {t sz g m : Nat} {R : Nat → List Value} (h : Rws w t sz g m R) (q : Nat) : w.frozen? ⟨g, q, none⟩ = false := by
  obtain ⟨cs, h, -⟩ := h; exact frozen_of h q
theorem Rws.fr {S : Nat → Prop} {w w' : World} {t sz g m : Nat} {R : Nat → List Value} (h : Rws w t sz g m R) (f : Fr S w w') (hS : ¬ S g) : Rws w' t sz g m R := by
  have hl := h.lt
  obtain ⟨cs, h, h2⟩ := h; exact ⟨cs, (f.block g hl hS).trans h, h2⟩
theorem Rws.congr {w : World} {t sz g m : Nat} {R R' : Nat → List Value} (h : Rws w t sz g m R) (e : ∀ i, i < m → R i = R' i) : Rws w t sz g m R' := by
  obtain ⟨cs, h, h2, h3⟩ := h
  exact ⟨cs, h, h2, fun i o hi ho => by rw [h3 i o hi ho, e i hi]⟩
/-- Numbers that lie somewhere. -/
def IA (w : World) (v : Value) (l : List Int) : Prop :=
  ∃ a c, v = .slice a l.length c ∧ (l ≠ [] → ∃ k o, a = some ⟨k, o, none⟩ ∧ k < w.heap.size ∧ ∀ j (h : j < l.length), w.cell? ⟨k, o + j, none⟩ = some (vI l[j]))
theorem IA.fr {S : Nat → Prop} {w w' : World} {v : Value} {l : List Int} (h : IA w v l) (f : Fr S w w') (hS : ∀ k, v.ownBlock = some k → ¬ S k) : IA w' v l := by
  obtain ⟨a, c, rfl, h⟩ := h
  refine ⟨a, c, rfl, fun hne => ?_⟩
  obtain ⟨k, o, rfl, hk, hc⟩ := h hne
  exact ⟨k, o, rfl, Nat.lt_of_lt_of_le hk f.size, fun j hj => (f.cell hk (hS k rfl)).trans (hc j hj)⟩
theorem IA.stay {w w' : World} {v : Value} {l : List Int} (h : IA w v l) (f : Fr (fun _ => False) w w') : IA w' v l := h.fr f (fun _ _ e => e)

/-- Numbers of one's own, with marks behind. -/
def wideI (l : List Int) (i : Nat) : Int := if i < l.length then l.getD i 0 else -123456
def WI (w : World) (B : Nat) (v : Value) (l : List Int) : Prop := ∃ g, v = .slice (some ⟨g, 0, none⟩) l.length (l.length + 64) ∧ B ≤ g ∧ Rws w 3 1 g (l.length + 64) (fun i => [vI (wideI l i)])
theorem WI.fr {S : Nat → Prop} {w w' : World} {B : Nat} {v : Value} {l : List Int} (h : WI w B v l) (f : Fr S w w') (hS : ∀ k, v.ownBlock = some k → ¬ S k) : WI w' B v l := by
  obtain ⟨g, rfl, h1, h2⟩ := h
  exact ⟨g, rfl, h1, h2.fr f (hS g rfl)⟩
theorem WI.mono {w : World} {B B' : Nat} {v : Value} {l : List Int} (h : WI w B v l) (hB : B' ≤ B) : WI w B' v l := by
  obtain ⟨g, rfl, h1, h2⟩ := h
  exact ⟨g, rfl, by omega, h2⟩
theorem WI.ia {w : World} {B : Nat} {v : Value} {l : List Int} (h : WI w B v l) : IA w v l := by
  obtain ⟨g, rfl, h1, h2⟩ := h
  refine ⟨_, _, rfl, fun _ => ⟨g, 0, rfl, h2.lt, fun j hj => ?_⟩⟩
  have := h2.cell (i := j) (o := 0) (by omega) (by omega)
  rw [Nat.mul_one, Nat.add_zero] at this
  rw [Nat.zero_add, this]
  simp [wideI, hj]
theorem WI.ge {w : World} {B : Nat} {v : Value} {l : List Int} (h : WI w B v l) : ∀ k, v.ownBlock = some k → B ≤ k ∧ k < w.heap.size := by
  obtain ⟨g, rfl, h1, h2⟩ := h
  intro k e; cases e; exact ⟨h1, h2.lt⟩

theorem under64 : Tryd.prog.underlying 31 = some (.slice 3) := by kernel_rfl
theorem Rws.made (w : World) (t m : Nat) (v : Value) : Rws (w.alloc (.cells (Array.replicate m v) t)) t 1 w.heap.size m (fun _ => [v]) :=
  ⟨_, heap_new w _, by simp, fun i o hi ho => by
    obtain rfl : o = 0 := by omega
    rw [Nat.mul_one, Nat.add_zero]
    simp [Array.getElem?_replicate, hi]⟩

end Go.Proofs.YtlmlmhinbkcpoaaDoor

namespace Go.Proofs.YtlmlmhinbkcpoaaDoor
open Go.RowKit (wrap32 wrap64)
set_option linter.unusedVariables false
set_option linter.unusedSimpArgs false

/-- Numbers of one's own. -/
def IOwn (w : World) (B : Nat) (v : Value) (l : List Int) : Prop := w.ownsRow B 3 1 v l.length (l.map vI)
theorem ownsRow_frL {S : Nat → Prop} {w w' : World} {B e size n : Nat} {v : Value} {xs : List Value} (h : w.ownsRow B e size v n xs) (f : Fr S w w') (hS : ∀ g, v.ownBlock = some g → ¬ S g) : w'.ownsRow B e size v n xs := by
  refine ⟨h.1, ?_⟩
  rcases h.2 with h2 | ⟨g, cap, cur, rfl, h3, h4, h5⟩
  · exact Or.inl h2
  · exact Or.inr ⟨g, cap, cur, rfl, h3, by rw [f.block g ((Array.getElem?_eq_some_iff.1 h4).1) (hS g rfl)]; exact h4, h5⟩
theorem IOwn.fr {S : Nat → Prop} {w w' : World} {B : Nat} {v : Value} {l : List Int} (h : IOwn w B v l) (f : Fr S w w') (hS : ∀ k, v.ownBlock = some k → ¬ S k) : IOwn w' B v l := ownsRow_frL h f hS
theorem IOwn.ge {w : World} {B : Nat} {v : Value} {l : List Int} (h : IOwn w B v l) : ∀ k, v.ownBlock = some k → B ≤ k ∧ k < w.heap.size := World.ownsRow.lt h
theorem IOwn.mono {w : World} {B B' : Nat} {v : Value} {l : List Int} (h : IOwn w B v l) (hB : B' ≤ B) : IOwn w B' v l := World.ownsRow.mono h hB
theorem IOwn.ia {w : World} {B : Nat} {v : Value} {l : List Int} (h : IOwn w B v l) : IA w v l := by
  rcases h.2 with ⟨h2, h3⟩ | ⟨g, cap, cur, e, h3, h4, h5, h6, h7, h8⟩
  · exact ⟨none, 0, by rw [h2, h3], fun hne => absurd (List.eq_nil_of_length_eq_zero h3) hne⟩
  · refine ⟨_, cap, e, fun _ => ⟨g, 0, rfl, heap_lt h4, fun i hi => ?_⟩⟩
    rw [Nat.zero_add, cell_of h4]
    have : cur[i]? = (l.map vI)[i]? := by rw [← h8, List.getElem?_take, if_pos (by omega), Array.getElem?_toList]
    rw [this]
    simp [hi]
theorem grown_frL {w w' : World} {row : Option Nat} (h : w.grownBy w' row) : Fr (fun k => row = some k) w w' :=
  ⟨h.os, h.tape, h.output, h.size, fun k hk hS => h.block k hk (fun e => hS e.symm)⟩
theorem grow_fr0 {w wr w6 : World} {v : Value} (h : Fr (fun _ => False) w wr) (hg : wr.grownBy w6 v.ownBlock) (hb : ∀ k, v.ownBlock = some k → w.heap.size ≤ k) : Fr (fun _ => False) w w6 :=
  h.then (grown_frL hg) (fun j hj e => by have := hb j e; omega)

end Go.Proofs.YtlmlmhinbkcpoaaDoor

namespace Go.Proofs.YtlmlmhinbkcpoaaDoor
open Go.RowKit (wrap32 wrap64)
set_option linter.unusedVariables false
set_option linter.unusedSimpArgs false

/-! ### instructions -/
abbrev iR (c : PI) (p : Value × Value) : List Value := [vI c.op, vI c.r, vI c.s, vI c.t, vI c.n, p.1, p.2]
abbrev markC : List Value := [vI (-78), vI 0, vI 0, vI 0, vI 0, .slice none 0 0, .slice none 0 0]
def wideC (cs : List PI) (ps : Nat → Value × Value) (i : Nat) : List Value := match cs[i]? with | some c => iR c (ps i) | none => markC

/-- Instructions that lie somewhere. -/
def CA (w : World) (v : Value) (cs : List PI) : Prop :=
  ∃ a cp, v = .slice a cs.length cp ∧ (cs ≠ [] → ∃ k o, a = some ⟨k, o, none⟩ ∧ k < w.heap.size ∧ ∀ j (h : j < cs.length), ∃ av rv,
    w.cell? ⟨k, o + j * 7, none⟩ = some (vI cs[j].op) ∧ w.cell? ⟨k, o + j * 7 + 1, none⟩ = some (vI cs[j].r) ∧ w.cell? ⟨k, o + j * 7 + 2, none⟩ = some (vI cs[j].s) ∧ w.cell? ⟨k, o + j * 7 + 3, none⟩ = some (vI cs[j].t) ∧ w.cell? ⟨k, o + j * 7 + 4, none⟩ = some (vI cs[j].n) ∧
    w.cell? ⟨k, o + j * 7 + 5, none⟩ = some av ∧ w.cell? ⟨k, o + j * 7 + 6, none⟩ = some rv ∧ IA w av cs[j].args ∧ IA w rv cs[j].rets)
theorem CA.stay {w w' : World} {v : Value} {cs : List PI} (h : CA w v cs) (f : Fr (fun _ => False) w w') : CA w' v cs := by
  obtain ⟨a, cp, rfl, h⟩ := h
  refine ⟨a, cp, rfl, fun hne => ?_⟩
  obtain ⟨k, o, rfl, hk, hc⟩ := h hne
  refine ⟨k, o, rfl, Nat.lt_of_lt_of_le hk f.size, fun j hj => ?_⟩
  obtain ⟨av, rv, h1, h2, h3, h4, h5, h6, h7, h8, h9⟩ := hc j hj
  have g : ∀ o, w'.cell? ⟨k, o, none⟩ = w.cell? ⟨k, o, none⟩ := fun o => f.cell hk (fun h => h)
  exact ⟨av, rv, (g _).trans h1, (g _).trans h2, (g _).trans h3, (g _).trans h4, (g _).trans h5, (g _).trans h6, (g _).trans h7, h8.stay f, h9.stay f⟩

/-- How long the lists of a code are. -/
def FineC (cs : List PI) : Prop := cs.length ≤ 1599289640354 ∧ ∀ c ∈ cs, c.args.length ≤ 17592186043904 ∧ c.rets.length ≤ 17592186043904

/-- Instructions of one's own, with marks behind. -/
def WC (w : World) (B : Nat) (v : Value) (cs : List PI) : Prop :=
  ∃ g ps, v = .slice (some ⟨g, 0, none⟩) cs.length (cs.length + 64) ∧ B ≤ g ∧ Rws w 57 7 g (cs.length + 64) (wideC cs ps) ∧ ∀ i c, cs[i]? = some c → WI w B (ps i).1 c.args ∧ WI w B (ps i).2 c.rets

/-- A block of numbers is none of another type's. -/
theorem WI.ne {w : World} {B g m : Nat} {t sz : Nat} {R : Nat → List Value} {v : Value} {l : List Int} (h : WI w B v l) (hR : Rws w t sz g m R) (ht : t ≠ 3) : ∀ k, v.ownBlock = some k → k ≠ g := by
  obtain ⟨g', rfl, -, cs', h', -⟩ := h
  obtain ⟨cs, h2, -⟩ := hR
  intro k e1 e2
  cases e1
  subst e2
  rw [h'] at h2
  cases h2
  exact ht rfl

theorem under65 : Tryd.prog.underlying 28 = some (.slice 57) := by kernel_rfl
end Go.Proofs.YtlmlmhinbkcpoaaDoor

namespace Go.Proofs.YtlmlmhinbkcpoaaDoor
open Go.RowKit (wrap32 wrap64)
set_option linter.unusedVariables false
set_option linter.unusedSimpArgs false

theorem WC.fr {S : Nat → Prop} {w w' : World} {B : Nat} {v : Value} {cs : List PI} (h : WC w B v cs) (f : Fr S w w') (hS : ∀ k, S k → k < B) : WC w' B v cs := by
  obtain ⟨g, ps, rfl, h1, h2, h3⟩ := h
  have no : ∀ k, B ≤ k → ¬ S k := fun k hk e => by have := hS k e; omega
  exact ⟨g, ps, rfl, h1, h2.fr f (no g h1), fun i c hc => ⟨(h3 i c hc).1.fr f (fun k e => no k ((h3 i c hc).1.ge k e).1), (h3 i c hc).2.fr f (fun k e => no k ((h3 i c hc).2.ge k e).1)⟩⟩
theorem WC.stay {w w' : World} {B : Nat} {v : Value} {cs : List PI} (h : WC w B v cs) (f : Fr (fun _ => False) w w') : WC w' B v cs := h.fr f (fun _ e => e.elim)
theorem WC.mono {w : World} {B B' : Nat} {v : Value} {cs : List PI} (h : WC w B v cs) (hB : B' ≤ B) : WC w B' v cs := by
  obtain ⟨g, ps, rfl, h1, h2, h3⟩ := h
  exact ⟨g, ps, rfl, by omega, h2, fun i c hc => ⟨(h3 i c hc).1.mono hB, (h3 i c hc).2.mono hB⟩⟩
theorem WC.ca {w : World} {B : Nat} {v : Value} {cs : List PI} (h : WC w B v cs) : CA w v cs := by
  obtain ⟨g, ps, rfl, h1, h2, h3⟩ := h
  refine ⟨_, _, rfl, fun _ => ⟨g, 0, rfl, h2.lt, fun j hj => ?_⟩⟩
  have pc := fun o (ho : o < 7) => h2.cell (i := j) (o := o) (by omega) ho
  have e1 : wideC cs ps j = iR cs[j] (ps j) := by unfold wideC; rw [List.getElem?_eq_getElem hj]
  rw [e1] at pc
  have hw := h3 j cs[j] (List.getElem?_eq_getElem hj)
  rw [Nat.zero_add]
  exact ⟨(ps j).1, (ps j).2, pc 0 (by omega), pc 1 (by omega), pc 2 (by omega), pc 3 (by omega), pc 4 (by omega), pc 5 (by omega), pc 6 (by omega), hw.1.ia, hw.2.ia⟩
theorem WC.ge {w : World} {B : Nat} {v : Value} {cs : List PI} (h : WC w B v cs) : ∀ k, v.ownBlock = some k → B ≤ k ∧ k < w.heap.size := by
  obtain ⟨g, ps, rfl, h1, h2, h3⟩ := h
  intro k e; cases e; exact ⟨h1, h2.lt⟩

end Go.Proofs.YtlmlmhinbkcpoaaDoor

namespace Go.Proofs.YtlmlmhinbkcpoaaDoor
open Go.RowKit (wrap32 wrap64)
set_option linter.unusedVariables false
set_option linter.unusedSimpArgs false

/-! ### functions -/
abbrev fR (f : PF) (cv : Value) : List Value := [vI f.P, vI f.R, vI f.V, cv]
/-- Functions that lie somewhere. -/
def FA (w : World) (v : Value) (fs : List PF) : Prop :=
  ∃ a cp, v = .slice a fs.length cp ∧ (fs ≠ [] → ∃ k o, a = some ⟨k, o, none⟩ ∧ k < w.heap.size ∧ ∀ j (h : j < fs.length), ∃ cv,
    w.cell? ⟨k, o + j * 4, none⟩ = some (vI fs[j].P) ∧ w.cell? ⟨k, o + j * 4 + 1, none⟩ = some (vI fs[j].R) ∧ w.cell? ⟨k, o + j * 4 + 2, none⟩ = some (vI fs[j].V) ∧ w.cell? ⟨k, o + j * 4 + 3, none⟩ = some cv ∧ CA w cv fs[j].code)
theorem FA.stay {w w' : World} {v : Value} {fs : List PF} (h : FA w v fs) (f : Fr (fun _ => False) w w') : FA w' v fs := by
  obtain ⟨a, cp, rfl, h⟩ := h
  refine ⟨a, cp, rfl, fun hne => ?_⟩
  obtain ⟨k, o, rfl, hk, hc⟩ := h hne
  refine ⟨k, o, rfl, Nat.lt_of_lt_of_le hk f.size, fun j hj => ?_⟩
  obtain ⟨cv, h1, h2, h3, h4, h5⟩ := hc j hj
  have g : ∀ o, w'.cell? ⟨k, o, none⟩ = w.cell? ⟨k, o, none⟩ := fun o => f.cell hk (fun h => h)
  exact ⟨cv, (g _).trans h1, (g _).trans h2, (g _).trans h3, (g _).trans h4, h5.stay f⟩

def FineP (fs : List PF) : Prop := fs.length ≤ 2932031007317 ∧ ∀ f ∈ fs, FineC f.code

theorem WC.ne {w : World} {B g m : Nat} {t sz : Nat} {R : Nat → List Value} {v : Value} {cs : List PI} (h : WC w B v cs) (hR : Rws w t sz g m R) (ht : t ≠ 57) : ∀ k, v.ownBlock = some k → k ≠ g := by
  obtain ⟨g', ps, rfl, -, ⟨cs', h', -⟩, -⟩ := h
  obtain ⟨cs, h2, -⟩ := hR
  intro k e1 e2
  cases e1
  subst e2
  rw [h'] at h2
  cases h2
  exact ht rfl
/-- What is written is one block, of functions. -/
theorem WC.at {w w' : World} {B g m : Nat} {R : Nat → List Value} {v : Value} {cs : List PI} (h : WC w B v cs) (hR : Rws w 30 4 g m R) (f : Fr (fun k => k = g) w w') : WC w' B v cs := by
  have hne := h.ne hR (by decide)
  obtain ⟨g', ps, rfl, h1, h2, h3⟩ := h
  exact ⟨g', ps, rfl, h1, h2.fr f (hne g' rfl), fun i c hc => ⟨(h3 i c hc).1.fr f ((h3 i c hc).1.ne hR (by decide)), (h3 i c hc).2.fr f ((h3 i c hc).2.ne hR (by decide))⟩⟩

theorem under24 : Tryd.prog.underlying 22 = some (.slice 30) := by kernel_rfl
end Go.Proofs.YtlmlmhinbkcpoaaDoor
