import Derived.Test.YtingenonbkencaaDoorQG3
import Derived.Deep.RegionLaw
import Derived.Deep.CutRange
import Derived.Deep.RegionHeld3
import Derived.RegionDies
namespace Go.Proofs.YtingenonbkencaaDoor
open Go.RowKit (wrap32 wrap64)
set_option linter.unusedVariables false
set_option linter.unusedSimpArgs false
structure Under (b : Nat) (rv : Value) (B : Nat) : Prop where
  walk : b < B
  tab : 0 < B
  bytes : ∀ k o n c, rv = .slice (some ⟨k, o, none⟩) n c → n ≠ 0 → k < B
theorem On.under {b : Nat} {rv : Value} {bs : List UInt8} {B : Nat} (hu : Under b rv B) {w w' : World} {x : WS × Unit} (h : On (reading b rv bs) w x) (f : Fr (fun k => B ≤ k) w w') : On (reading b rv bs) w' x := by
  obtain ⟨h1, h2, ⟨g1, a, c, g2, g3, g4⟩, h4, h5, h6, h7⟩ := h
  have hb := hu.walk
  have ht := hu.tab
  refine ⟨h1.fr f (by omega), h2, ⟨g1, a, c, g2, g3, fun hne => ?_⟩, h4, h5, h6, h7.fr f (by omega)⟩
  obtain ⟨k, o, e, hk, hkb, hc⟩ := g4 hne
  subst e
  have := hu.bytes k o _ c g2 (by intro e; exact hne (List.length_eq_zero_iff.1 e))
  exact ⟨k, o, rfl, Nat.lt_of_lt_of_le hk f.size, hkb, fun i hi => (f.cell hk (by omega)).trans (hc i hi)⟩
def headCells (l : List HD) : List Value := l.flatMap (fun h => [vI h.P, vI h.R, vI h.V, .slice none 0 0])
def HeadFine (h : HD) : Prop := (0 ≤ h.V ∧ h.V ≤ 255) ∧ (0 ≤ h.P ∧ h.P ≤ 8) ∧ (0 ≤ h.R ∧ h.R ≤ 4) ∧ 0 < h.len ∧ h.len ≤ 4096
theorem step_append_own {P : Program} {ops : Array Oper} {o : Oper} {a : Act} {w : World} {K : Act → World → Prop} {Q : Exit → Act → World → Prop} {E : Prop}
    (hg : o.guard = none) (s x : Operand) (t : TypeId) (hop : o.op = Op.call { callee := Callee.builtin Builtin.append, args := #[s, x], argTypes := #[t, t] })
    (base : Nat) (e : TypeId) (z : Value) (size bytes : Nat) (h1 : P.underlying t = some (.slice e)) (hinfo : (P.info? e).map (fun i => (i.zero, i.size, i.bytes)) = some (some z, size, bytes)) (h6 : z.cells.size = size) (h7 : 0 < size)
    (v : Value) (n : Nat) (xs : List Value) (hs : a.eval s = v) (hown : w.ownsRow base e size v n xs)
    (ad : Addr) (m c : Nat) (news : List Value) (hx : a.eval x = .slice (some ad) m c) (hn : news.length = m * size) (hc : ∀ j u, news[j]? = some u → w.cell? (ad.add j) = some u) (h1c : ∀ u ∈ news, u.oneCell' = true)
    (b1 : n + m ≤ maxLen) (b2 : (n + m) * bytes ≤ 140737488355328) (hbase : base ≤ w.heap.size)
    (hK : ∀ a' c' w', w'.ownsRow base e size (.slice a' (n + m) c') (n + m) (xs ++ news) → w.grownBy w' v.ownBlock → K (a.put o.dst (.slice a' (n + m) c')) w') :
    if Region.wanted o (yielded ops a.tmps) = true then Oper.wp P o a w K Q else E := by
  obtain ⟨i, h2, h3, h4, h5⟩ := info_parts hinfo
  have hw : Region.wanted o (yielded ops a.tmps) = true := by simp [Region.wanted, hg]
  rw [if_pos hw]
  obtain ⟨v', w', hrun, r1, r2, _⟩ := run_append_own (P := P) w base t o.type e i z size bytes h1 h2 h3 h4 h5 h6 h7 v n xs hown ad m c news hn hc h1c b1 b2 hbase
  obtain ⟨a', c', rfl⟩ : ∃ a' c', v' = .slice a' (n + m) c' := by
    rcases r1.2 with ⟨e1, e2⟩ | ⟨g, cap, cur, e1, -⟩
    · exact ⟨none, 0, by rw [e1, e2]⟩
    · exact ⟨_, _, e1⟩
  unfold Oper.wp
  simp [execOp, hop, resolve, invoke, builtin, hs, hx, hrun, Result.andThen]
  exact hK a' c' w' r1 r2
theorem ownsRow_fr {S : Nat → Prop} {w w' : World} {B e size n : Nat} {v : Value} {xs : List Value} (h : w.ownsRow B e size v n xs) (f : Fr S w w') (hS : ∀ g, v.ownBlock = some g → ¬ S g) : w'.ownsRow B e size v n xs := by
  refine ⟨h.1, ?_⟩
  rcases h.2 with h2 | ⟨g, cap, cur, rfl, h3, h4, h5⟩
  · exact Or.inl h2
  · exact Or.inr ⟨g, cap, cur, rfl, h3, by rw [f.block g ((Array.getElem?_eq_some_iff.1 h4).1) (hS g rfl)]; exact h4, h5⟩
theorem Under.I {b : Nat} {rv : Value} {bs : List UInt8} {B : Nat} (hu : Under b rv B) {st : Unit} {p : Int} {w w' : World} (h : (reading b rv bs).I st p w) (f : Fr (fun k => B ≤ k) w w') : (reading b rv bs).I st p w' := by
  obtain ⟨⟨g1, a, c, g2, g3, g4⟩, h4, h5, h6, h7⟩ := h
  have ht := hu.tab
  refine ⟨⟨g1, a, c, g2, g3, fun hne => ?_⟩, h4, h5, h6, h7.fr f (by omega)⟩
  obtain ⟨k, o, e, hk, hkb, hc⟩ := g4 hne
  subst e
  have := hu.bytes k o _ c g2 (by intro e; exact hne (List.length_eq_zero_iff.1 e))
  exact ⟨k, o, rfl, Nat.lt_of_lt_of_le hk f.size, hkb, fun i hi => (f.cell hk (by omega)).trans (hc i hi)⟩
theorem reading_fresh (b : Nat) (rv : Value) (bs : List UInt8) : FreshOk (reading b rv bs) := by
  intro x w hx y hy k hk
  refine ⟨fun h => h.elim, ?_⟩
  obtain ⟨hl, hn, ⟨g1, a, c, g2, g3, g4⟩, h4, h5, h6, h7⟩ := hx
  have hne : bs ≠ [] := by
    intro e
    subst e
    unfold nextX at hy
    simp only [reading, rd] at hy
    split at hy
    · rename_i heq
      split at heq
      · rename_i heq2
        split at heq2
        · rename_i hle; simp at hle
        · cases heq2
      · cases heq
    · cases hy
  obtain ⟨k', o, e, hk', hkb, hc⟩ := g4 hne
  rintro (rfl | ⟨o', n', c', e'⟩)
  · have := hl.lt; omega
  · rw [g2, e] at e'
    simp only [Value.slice.injEq, Option.some.injEq, Addr.mk.injEq] at e'
    omega
theorem cells_funcs (s : WS) (v : Value) : s.cells.setIfInBounds 147 v = { s with funcs := v }.cells := by kernel_rfl
end Go.Proofs.YtingenonbkencaaDoor
