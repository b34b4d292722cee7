import Derived.Test.YtmdlebolmhnhaaaH9
namespace Go.Proofs.Ytmdlebolmhnhaaa
open Go.RowKit (wrap32 wrap64)
open Go.Maps (Keyed)
set_option linter.unusedVariables false
set_option linter.unusedSimpArgs false

/-- What is neither the memory's nor the ledger's is changed. -/
theorem Both.other {w0 w w' : World} {b : Nat} {g : Gh} {a : Abs} {lb d : Nat} {av : Value} {E : List Ent} (h : Both w0 w b g a lb d av E) {S : Nat → Prop} (f : Fr S w w') (hS : ∀ k, S k → ¬ LB lb av E k ∧ g.own k = 0 ∧ w0.heap.size ≤ k) : Both w0 w' b g a lb d av E :=
  ⟨h.mem.fr f (fun k hk e => hk (hS k e).2.1), h.led.fr f (fun k hk e => (hS k e).1 hk), h.out, h.own, h.fr.then f (fun j hj e => by have := (hS j e).2.2; omega)⟩

end Go.Proofs.Ytmdlebolmhnhaaa
