import Derived.Test.YtmdlebolmhnhaaaG4
namespace Go.Proofs.Ytmdlebolmhnhaaa
open Go.RowKit (wrap32 wrap64)
open Go.Maps (Keyed)
set_option linter.unusedVariables false
set_option linter.unusedSimpArgs false

theorem Mems.none {w wr : World} (bs : Nat → Nat) (gs : Nat → Gh) (ax : Nat → Abs) (f : Fr (fun _ => False) w wr) : Mems w wr 0 bs gs ax :=
  ⟨fun i h => absurd h (by omega), fun i j h => absurd h (by omega), fun i h => absurd h (by omega), f⟩

theorem Mems.congr {w wr : World} {m : Nat} {bs bs' : Nat → Nat} {gs : Nat → Gh} {ax ax' : Nat → Abs} (h : Mems w wr m bs gs ax) (hb : ∀ i, i < m → bs i = bs' i) (ha : ∀ i, i < m → ax i = ax' i) : Mems w wr m bs' gs ax' :=
  ⟨fun i hi => by rw [← hb i hi, ← ha i hi]; exact h.mem i hi, h.apart, h.own, h.fr⟩

def four (a b c d : Nat) (i : Nat) : Nat := if i = 0 then a else if i = 1 then b else if i = 2 then c else d
def fourA (a b c d : Abs) (i : Nat) : Abs := if i = 0 then a else if i = 1 then b else if i = 2 then c else d

/-- told, where there are more memories and lists. -/
theorem told_mems {w wr : World} {bs : Nat → Nat} {gs : Nat → Gh} {ax : Nat → Abs} {m : Nat} (hM : Mems w wr m bs gs ax) {i : Nat} (hi : i < m) (o : OpR) (zs : List Int) (hI : IntsAt w.heap.size w o.cells zs) (hl : o.cl = zs.length) (hz : zs.length ≤ 17592186043904) {N : Nat} (hf : Fine N (ax i)) (hN : N + 1 ≤ 10000000000000) :
    Calls Try.prog 24 #[ptr (bs i), opV o] wr fun e w2 => ∃ gs' v, e = .returned v ∧ Mems w w2 m bs gs' (fun j => if j = i then (ansX (ax i) o zs).abs else ax j) ∧ (∀ u zss, RowsL wr w.heap.size u zss (Free m gs) → RowsL w2 w.heap.size u zss (Free m gs')) ∧ w2.ownsRow w.heap.size 3 1 v (tellX (ansX (ax i) o zs)).length ((tellX (ansX (ax i) o zs)).map vI) ∧ ∀ j, v.ownBlock = some j → Free m gs' j := by
  refine (told_any (bs i) (gs i) (ax i) o zs wr (hM.mem i hi) (IntsAt.fr hI hM.fr (fun _ _ h => h)) hl (IntsAt.ownless hI (hM.own i hi)) hz hf hN).mono ?_
  rintro e w2 ⟨g2, v, rfl, hrow, ho, hM2, hF2, hE2⟩
  refine ⟨fun j => if j = i then g2 else gs j, v, rfl, hM.call hi hM2 hF2 hE2, fun u zss hR => ?_, World.ownsRow.mono hrow hM.fr.size, fun j hj => ?_⟩
  · have h1 : RowsL wr w.heap.size u zss (fun j => Free m gs j ∧ j < wr.heap.size) := hR.mono (fun j hj h => ⟨h, hj⟩)
    have h2 := h1.fr hF2 (fun j hj e => e (hj.1 i hi))
    exact h2.mono (fun j _ hj => hj.1.call hi hE2 hj.2)
  · have hb := (World.ownsRow.lt hrow j hj).1
    intro k hk
    by_cases e : k = i
    · simp only [e, if_true]
      exact ho j hj
    · simp only [e, if_false]
      exact hM.free_new hb k hk

end Go.Proofs.Ytmdlebolmhnhaaa
