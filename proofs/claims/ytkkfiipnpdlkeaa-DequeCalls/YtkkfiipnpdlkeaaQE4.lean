import Derived.Test.YtkkfiipnpdlkeaaQE3
namespace Go.Proofs.Ytkkfiipnpdlkeaa
open Go.RowKit (wrap32 wrap64)
open Go.MuLone
set_option linter.unusedVariables false
set_option linter.unusedSimpArgs false

theorem and_one (z : Int) : bits .and .i64 z 1 = z % 2 := by
  show IntKind.i64.wrap ((BitVec.ofInt 64 z &&& BitVec.ofInt 64 1).toNat : Int) = _
  have h1 : (BitVec.ofInt 64 1).toNat = 1 := by decide
  rw [BitVec.toNat_and, h1, Nat.and_one_is_mod, BitVec.toNat_ofInt, i64w (by omega) (by omega)]
  have : ((2 ^ 64 : Nat) : Int) = 18446744073709551616 := by decide
  rw [this]
  omega

abbrev pP (b : Nat) : Value := .pointer (some ⟨b, 0, none⟩)
/-- Where a pair lies, and its tasks. -/
structure PD where
  b : Nat
  g : Nat
  c : Nat
  tv : Value
  xs : List Int
abbrev PD.O (P : PD) : Nat → Prop := Ow P.b P.g P.c P.tv
abbrev PD.at (P : PD) (w0 w : World) (N : Nat) : Prop := Pr w0 w N P.b P.g P.c P.tv P.xs P.xs
def arr2 (k : Nat) (x y : Value) : Array Value := if k = 0 then #[x, y] else #[y, x]
theorem arr2_at {k : Nat} (hk : k < 2) (x y : Value) : (arr2 k x y)[k]? = some x := by
  unfold arr2
  rcases Nat.lt_or_ge k 1 with h | h
  · obtain rfl : k = 0 := by omega
    rfl
  · obtain rfl : k = 1 := by omega
    rfl
theorem arr2_set {k : Nat} (hk : k < 2) (x y z : Value) : (arr2 k x y).setIfInBounds k z = arr2 k z y := by
  unfold arr2
  rcases Nat.lt_or_ge k 1 with h | h
  · obtain rfl : k = 0 := by omega
    rfl
  · obtain rfl : k = 1 := by omega
    rfl
theorem arr2_symm {k : Nat} (hk : k < 2) (x y : Value) : arr2 (1 - k) y x = arr2 k x y := by
  unfold arr2
  rcases Nat.lt_or_ge k 1 with h | h
  · obtain rfl : k = 0 := by omega
    rfl
  · obtain rfl : k = 1 := by omega
    rfl

/-- Two pairs; P's deque stands at place k of the slice at kd, its document's at place k of the one at kr. -/
structure Cs (w0 w : World) (N kd kr k : Nat) (P Q : PD) : Prop where
  p : P.at w0 w N
  q : Q.at w0 w N
  ap : ∀ j, P.O j → ¬ Q.O j
  cd : w.heap[kd]? = some (.cells (arr2 k (pP P.b) (pP Q.b)) 23)
  cr : w.heap[kr]? = some (.cells (arr2 k (pP P.c) (pP Q.c)) 36)
  ne : kd ≠ kr
  nd : ∀ j, P.O j ∨ Q.O j → j ≠ kd ∧ j ≠ kr
  ld : w0.heap.size ≤ kd ∧ w0.heap.size ≤ kr
theorem Cs.symm {w0 w : World} {N kd kr k : Nat} {P Q : PD} (h : Cs w0 w N kd kr k P Q) (hk : k < 2) : Cs w0 w N kd kr (1 - k) Q P :=
  ⟨h.q, h.p, fun j a b => h.ap j b a, by rw [arr2_symm hk]; exact h.cd, by rw [arr2_symm hk]; exact h.cr, h.ne, fun j hj => h.nd j hj.symm, h.ld⟩
theorem Cs.drew {w0 w : World} {N kd kr k : Nat} {P Q : PD} (h : Cs w0 w N kd kr k P Q) : Cs w0 w.drew N kd kr k P Q :=
  ⟨h.p.frame ((Fr.refl (fun _ => False) w).drew) (fun _ _ h => h) h.p.fr.drew, h.q.frame ((Fr.refl (fun _ => False) w).drew) (fun _ _ h => h) h.q.fr.drew, h.ap, h.cd, h.cr, h.ne, h.nd, h.ld⟩
theorem Cs.cells {w0 w : World} {N kd kr k : Nat} {P Q : PD} (h : Cs w0 w N kd kr k P Q) (hk : k < 2) : w.cell? ⟨kd, k, none⟩ = some (pP P.b) ∧ w.cell? ⟨kr, k, none⟩ = some (pP P.c) ∧ w.frozen? ⟨kd, k, none⟩ = false ∧ w.frozen? ⟨kr, k, none⟩ = false := by
  refine ⟨?_, ?_, frozen_of h.cd k, frozen_of h.cr k⟩
  · rw [cell_of h.cd, arr2_at hk]
  · rw [cell_of h.cr, arr2_at hk]
theorem Cs.lt {w0 w : World} {N kd kr k : Nat} {P Q : PD} (h : Cs w0 w N kd kr k P Q) : kd < w.heap.size ∧ kr < w.heap.size := ⟨heap_lt h.cd, heap_lt h.cr⟩

theorem Cs.does {w0 w : World} {N kd kr k : Nat} {P Q : PD} (h : Cs w0 w N kd kr k P Q) (kn on tk : Int) (hx : 2 * P.xs.length + 2 ≤ N) (hN : N ≤ 35184372088832) :
    Calls Try.prog 16 #[pP P.b, pP P.c, .agg #[vI kn, vI on, vI tk]] w fun e w' => e = .returned (.bool true) ∧ ∃ P', Cs w0 w' N kd kr k P' Q ∧ P'.b = P.b ∧ P'.c = P.c ∧ P'.xs = doX kn tk P.xs := by
  refine (does_any w0 w N P.b P.g P.c P.tv P.xs h.p kn on tk hx hN).mono ?_
  rintro _ w' ⟨rfl, g', tv', hp, hs⟩
  have hlt := h.lt
  refine ⟨rfl, ⟨P.b, g', P.c, tv', doX kn tk P.xs⟩, ⟨hp, h.q.frame hs.fr (fun j hq hp => h.ap j hp hq) hp.fr, fun j a b => ?_, ?_, ?_, h.ne, fun j hj => ?_, h.ld⟩, rfl, rfl, rfl⟩
  · rcases hs.own j a with a | a
    · exact h.ap j a b
    · have := (h.q.lt j b).2
      omega
  · exact (hs.fr.block kd hlt.1 (fun e => (h.nd kd (Or.inl e)).1 rfl)).trans h.cd
  · exact (hs.fr.block kr hlt.2 (fun e => (h.nd kr (Or.inl e)).2 rfl)).trans h.cr
  · rcases hj with a | a
    · rcases hs.own j a with a | a
      · exact h.nd j (Or.inl a)
      · omega
    · exact h.nd j (Or.inr a)

/-- New ones in P's place. -/
theorem Cs.renew {w0 w w1 w3 : World} {N kd kr k : Nat} {P Q : PD} (h : Cs w0 w N kd kr k P Q) (hk : k < 2) (d1 : DN w0 w1 w.heap.size [] N w.heap.size) (f1 : Fr (fun _ => False) w w1)
    (r3 : Rf w3 w0.heap.size w1.heap.size (.slice none 0 0) []) (f3 : Fr (fun _ => False) (w1.setCell ⟨kd, k, none⟩ (pP w.heap.size)) w3) :
    Cs w0 (w3.setCell ⟨kr, k, none⟩ (pP w1.heap.size)) N kd kr k ⟨w.heap.size, w.heap.size, w1.heap.size, .slice none 0 0, []⟩ Q := by
  have hlt := h.lt
  have h1 := d1.dq.blt
  have hs0 := h.p.fr.size
  have F2 : Fr (fun j => j = kd ∨ j = kr) w1 (w1.setCell ⟨kd, k, none⟩ (pP w.heap.size)) := (Fr.refl (fun j => j = kd ∨ j = kr) w1).setCell ⟨kd, k, none⟩ _ (Or.inl (Or.inl rfl))
  have F4 : Fr (fun j => j = kd ∨ j = kr) w1 (w3.setCell ⟨kr, k, none⟩ (pP w1.heap.size)) := (F2.trans (f3.mono (fun _ _ h => h.elim))).setCell ⟨kr, k, none⟩ _ (Or.inl (Or.inr rfl))
  have F : Fr (fun j => j = kd ∨ j = kr) w (w3.setCell ⟨kr, k, none⟩ (pP w1.heap.size)) := (f1.mono (fun _ _ h => h.elim)).trans F4
  have F0 : Fr (fun _ => False) w0 (w3.setCell ⟨kr, k, none⟩ (pP w1.heap.size)) := fr_new h.p.fr F (by rintro j (rfl | rfl); exact h.ld.1; exact h.ld.2)
  have hw2 : (w1.setCell ⟨kd, k, none⟩ (pP w.heap.size)).heap.size = w1.heap.size := by simp
  refine ⟨⟨d1.fr F4 (by omega) (by omega), ?_, by have := f1.size; show w0.heap.size ≤ w1.heap.size; omega, ⟨⟨by show w1.heap.size ≠ w.heap.size; omega, by show w1.heap.size ≠ w.heap.size; omega⟩, fun k e => by cases e⟩, F0⟩,
    h.q.frame F (fun j hq e => by have := h.nd j (Or.inr hq); omega) F0, fun j a b => ?_, ?_, ?_, h.ne, fun j hj => ?_, h.ld⟩
  · exact r3.fr ((Fr.refl (fun j => j = kr) w3).setCell ⟨kr, k, none⟩ _ (Or.inl rfl)) (by show w1.heap.size ≠ kr; omega) (fun g e => by cases e)
  · have hq := (h.q.lt j b).2
    rcases a with a | a | a | a
    · simp only at a; omega
    · simp only at a; omega
    · simp only at a; omega
    · cases a
  · rw [Go.RowKit.Below.heap_setCell _ _ _ _ h.ne, f3.block kd (by omega) (fun h => h)]
    rw [set_of ((f1.block kd hlt.1 (fun h => h)).trans h.cd), arr2_set hk]
  · have e3 : w3.heap[kr]? = some (.cells (arr2 k (pP P.c) (pP Q.c)) 36) := by
      rw [f3.block kr (by omega) (fun h => h), Go.RowKit.Below.heap_setCell _ _ _ _ (fun e => h.ne e.symm)]
      exact (f1.block kr hlt.2 (fun h => h)).trans h.cr
    rw [set_of e3, arr2_set hk]
  · rcases hj with a | a
    · rcases a with a | a | a | a
      · simp only at a; omega
      · simp only at a; omega
      · simp only at a; omega
      · cases a
    · exact h.nd j (Or.inr a)
end Go.Proofs.Ytkkfiipnpdlkeaa
