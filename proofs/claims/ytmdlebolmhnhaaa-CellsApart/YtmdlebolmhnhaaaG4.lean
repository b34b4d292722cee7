import Derived.Test.YtmdlebolmhnhaaaG3
namespace Go.Proofs.Ytmdlebolmhnhaaa
open Go.RowKit (wrap32 wrap64)
open Go.Maps (Keyed)
set_option linter.unusedVariables false
set_option linter.unusedSimpArgs false

/-- So many memories that share nothing, made since w. -/
structure Mems (w wr : World) (m : Nat) (bs : Nat → Nat) (gs : Nat → Gh) (ax : Nat → Abs) : Prop where
  mem : ∀ i, i < m → Mem wr (bs i) (gs i) (ax i)
  apart : ∀ i j, i < m → j < m → i ≠ j → Apart (gs i) (gs j)
  own : ∀ i, i < m → OwnNew w.heap.size (gs i)
  fr : Fr (fun _ => False) w wr

/-- A block is none of theirs. -/
def Free (m : Nat) (gs : Nat → Gh) (k : Nat) : Prop := ∀ i, i < m → (gs i).own k = 0

theorem Mems.keep {w wr w2 : World} {m : Nat} {bs : Nat → Nat} {gs : Nat → Gh} {ax : Nat → Abs} (h : Mems w wr m bs gs ax) {S : Nat → Prop} (f : Fr S wr w2) (hS : ∀ k, S k → Free m gs k) (hw : ∀ k, S k → w.heap.size ≤ k) : Mems w w2 m bs gs ax where
  mem i hi := (h.mem i hi).fr f (fun k hk e => hk (hS k e i hi))
  apart := h.apart
  own := h.own
  fr := h.fr.then f (fun j hj e => by have := hw j e; omega)

theorem Mems.keep0 {w wr w2 : World} {m : Nat} {bs : Nat → Nat} {gs : Nat → Gh} {ax : Nat → Abs} (h : Mems w wr m bs gs ax) (f : Fr (fun _ => False) wr w2) : Mems w w2 m bs gs ax :=
  h.keep f (fun _ e => e.elim) (fun _ e => e.elim)

/-- A call of the one. -/
theorem Mems.call {w wr w2 : World} {m : Nat} {bs : Nat → Nat} {gs : Nat → Gh} {ax : Nat → Abs} (h : Mems w wr m bs gs ax) {i : Nat} (hi : i < m) {g2 : Gh} {a2 : Abs} (hM : Mem w2 (bs i) g2 a2) (f : Fr (fun j => (gs i).own j ≠ 0) wr w2) (x : Ext wr.heap.size (gs i) g2) :
    Mems w w2 m bs (fun j => if j = i then g2 else gs j) (fun j => if j = i then a2 else ax j) := by
  have key : ∀ j, j < m → j ≠ i → Mem w2 (bs j) (gs j) (ax j) ∧ Apart g2 (gs j) := fun j hj hne => (h.mem j hj).other (b := bs i) (h.apart i j hi hj (Ne.symm hne)) f x
  refine ⟨fun j hj => ?_, fun j k hj hk hne => ?_, fun j hj => ?_, h.fr.anew f (h.own i hi)⟩
  · by_cases e : j = i
    · subst e; simpa using hM
    · simpa [e] using (key j hj e).1
  · by_cases e : j = i
    · subst e
      have e' : k ≠ j := fun e => hne e.symm
      simpa [e'] using (key k hk e').2
    · by_cases e' : k = i
      · subst e'
        simpa [e] using (key j hj e).2.symm
      · simpa [e, e'] using h.apart j k hj hk hne
  · by_cases e : j = i
    · subst e
      simpa using (h.own j hj).ext x h.fr.size
    · simpa [e] using h.own j hj

/-- What was none of theirs stays so. -/
theorem Free.call {m : Nat} {gs : Nat → Gh} {k i s : Nat} {g2 : Gh} (h : Free m gs k) (hi : i < m) (x : Ext s (gs i) g2) (hk : k < s) : Free m (fun j => if j = i then g2 else gs j) k := by
  intro j hj
  by_cases e : j = i
  · subst e
    simpa using (x k hk).trans (h j hj)
  · simpa [e] using h j hj

theorem Mems.free_new {w wr : World} {m : Nat} {bs : Nat → Nat} {gs : Nat → Gh} {ax : Nat → Abs} (h : Mems w wr m bs gs ax) {k : Nat} (hk : wr.heap.size ≤ k) : Free m gs k := by
  intro i hi
  by_cases h0 : (gs i).own k = 0
  · exact h0
  · have := (h.mem i hi).olt k h0
    omega

/-- One more. -/
theorem Mems.more {w wr w2 : World} {m : Nat} {bs : Nat → Nat} {gs : Nat → Gh} {ax : Nat → Abs} (h : Mems w wr m bs gs ax) {b2 : Nat} {g2 : Gh} {a2 : Abs} (hM : Mem w2 b2 g2 a2) (f : Fr (fun _ => False) wr w2) (ho : OwnNew wr.heap.size g2) :
    Mems w w2 (m + 1) (fun j => if j = m then b2 else bs j) (fun j => if j = m then g2 else gs j) (fun j => if j = m then a2 else ax j) := by
  have ap : ∀ j, j < m → Apart (gs j) g2 := fun j hj k hk => by
    by_cases h0 : g2.own k = 0
    · exact h0
    · have := (h.mem j hj).olt k hk; have := ho k h0; omega
  refine ⟨fun j hj => ?_, fun j k hj hk hne => ?_, fun j hj => ?_, h.fr.trans f⟩
  · by_cases e : j = m
    · subst e; simpa using hM
    · simpa [e] using (h.mem j (by omega)).keep f
  · by_cases e : j = m
    · subst e
      have e' : k ≠ j := fun e => hne e.symm
      simpa [e'] using (ap k (by omega)).symm
    · by_cases e' : k = m
      · subst e'
        simpa [e] using ap j (by omega)
      · simpa [e, e'] using h.apart j k (by omega) (by omega) hne
  · by_cases e : j = m
    · subst e
      simp only [if_true]
      exact fun k hk => Nat.le_trans h.fr.size (ho k hk)
    · simpa [e] using h.own j (by omega)

end Go.Proofs.Ytmdlebolmhnhaaa
